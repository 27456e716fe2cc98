import Derived.Test.YtjpmomklkkifjaaGreatDoorCJMadeF
import Derived.Test.YtjpmomklkkifjaaGreatDoorCJMadeN
import Derived.Test.YtjpmomklkkifjaaGreatDoorCJApplied
import Derived.Test.YtjpmomklkkifjaaGreatDoorCINodeOf
import Derived.Test.YtjpmomklkkifjaaGreatDoorCIParse
import Derived.Deep.RegionHeld3
import Derived.Test.YtjpmomklkkifjaaGreatDoorCTopRowsW
import Derived.Test.YtjpmomklkkifjaaGreatDoorCFGood
set_option maxRecDepth 100000
set_option linter.unusedVariables false
set_option linter.unusedSimpArgs false
namespace Go.Proofs.YtjpmomklkkifjaaGreatDoor.T.J
open Go.RowKit
variable {w0 w w' : World} {db nb eb : Nat} {D : List DN} {E : List DE} {next : Int} {l : List Res} {A : List (Int × Item)}
set_option maxHeartbeats 16000000 in
theorem made_none (h : H0 w0 w (dfR db nb eb (mark A D) E next l)) (d : DN) (hd : d ∈ D) (hk1 : d.kind ≠ ⟨#[100]⟩) (hk2 : d.kind ≠ ⟨#[102]⟩) :
    Calls Tryz.prog 120 #[.pointer (some ⟨db, 0, none⟩), .int .i64 d.id, .pointer (some ⟨d.blk, 0, none⟩)] w (MdEnd w0 w (dfR db nb eb (mark A D) E next l) A d) := by
  obtain ⟨B, hB⟩ : ∃ B, w.heap.size = B := ⟨_, rfl⟩
  have h1 := df_push (Hold.made h (H0.below h).size 33 [.int .i64 0, .int .i64 0, .int .i64 0, .int .i64 0, .string ⟨#[]⟩])
  rw [hB] at h1
  obtain ⟨w1, hw1⟩ : ∃ w1, w.alloc (.cells [.int .i64 0, .int .i64 0, .int .i64 0, .int .i64 0, .string ⟨#[]⟩].toArray 33) = w1 := ⟨_, rfl⟩
  have hbw : Below w.heap.size w w1 := by
    rw [← hw1]
    exact (Below.refl _ w).alloc (Nat.le_refl _) _
  rw [hw1] at h1
  have k0 := (df_dn h1 hd).1
  have q1 : (d.kind.toList == [100]) = false := by
    rw [beq_eq_false_iff_ne, Ne, Lib.toList_data]
    exact fun e => hk1 (bytes_ext e)
  have q2 : (d.kind.toList == [102]) = false := by
    rw [beq_eq_false_iff_ne, Ne, Lib.toList_data]
    exact fun e => hk2 (bytes_ext e)
  have hw1' : w.alloc (.cells #[.int .i64 0, .int .i64 0, .int .i64 0, .int .i64 0, .string ⟨#[]⟩] 33) = w1 := hw1
  have hBm : Res.cell B 33 [.int .i64 0, .int .i64 0, .int .i64 0, .int .i64 0, .string ⟨#[]⟩] ∈ dfR db nb eb (mark A D) E next (.cell B 33 [.int .i64 0, .int .i64 0, .int .i64 0, .int .i64 0, .string ⟨#[]⟩] :: l) := by simp [dfR]
  have e0 : w1.cell? ⟨B, 0, none⟩ = some (.int .i64 0) := Hold.cellAt h1 hBm rfl
  have e1 : w1.cell? ⟨B, 1, none⟩ = some (.int .i64 0) := Hold.cellAt h1 hBm rfl
  have e2 : w1.cell? ⟨B, 2, none⟩ = some (.int .i64 0) := Hold.cellAt h1 hBm rfl
  have e3 : w1.cell? ⟨B, 3, none⟩ = some (.int .i64 0) := Hold.cellAt h1 hBm rfl
  have e4 : w1.cell? ⟨B, 4, none⟩ = some (.string ⟨#[]⟩) := Hold.cellAt h1 hBm rfl
  have f0 := Hold.frozenAt h1 hBm 0
  have f1 := Hold.frozenAt h1 hBm 1
  have f2 := Hold.frozenAt h1 hBm 2
  have f3 := Hold.frozenAt h1 hBm 3
  have f4 := Hold.frozenAt h1 hBm 4
  have h0 := df_pop' h1
  have g1 := Hold.store [] h0 0 (.int .i64 0) [.int .i64 0, .int .i64 0, .int .i64 0, .int .i64 0, .string ⟨#[]⟩] rfl
  have g2 := Hold.store [] g1 1 (.int .i64 0) [.int .i64 0, .int .i64 0, .int .i64 0, .int .i64 0, .string ⟨#[]⟩] rfl
  have g3 := Hold.store [] g2 2 (.int .i64 0) [.int .i64 0, .int .i64 0, .int .i64 0, .int .i64 0, .string ⟨#[]⟩] rfl
  have g4 := Hold.store [] g3 3 (.int .i64 0) [.int .i64 0, .int .i64 0, .int .i64 0, .int .i64 0, .string ⟨#[]⟩] rfl
  have g5 := Hold.store [] g4 4 (.string ⟨#[]⟩) [.int .i64 0, .int .i64 0, .int .i64 0, .int .i64 0, .string ⟨#[]⟩] rfl
  have hb5 := ((((hbw.setCell (p := ⟨B, 0, none⟩) (Nat.le_of_eq hB) (.int .i64 0)).setCell (p := ⟨B, 1, none⟩) (Nat.le_of_eq hB) (.int .i64 0)).setCell (p := ⟨B, 2, none⟩) (Nat.le_of_eq hB) (.int .i64 0)).setCell (p := ⟨B, 3, none⟩) (Nat.le_of_eq hB) (.int .i64 0)).setCell (p := ⟨B, 4, none⟩) (Nat.le_of_eq hB) (.string ⟨#[]⟩)
  obtain ⟨w6, hw6⟩ : ∃ w6, ((((w1.setCell ⟨B, 0, none⟩ (.int .i64 0)).setCell ⟨B, 1, none⟩ (.int .i64 0)).setCell ⟨B, 2, none⟩ (.int .i64 0)).setCell ⟨B, 3, none⟩ (.int .i64 0)).setCell ⟨B, 4, none⟩ (.string ⟨#[]⟩) = w6 := ⟨_, rfl⟩
  have HG : Hid (w6.heap[B]? = some (.cells #[.int .i64 0, .int .i64 0, .int .i64 0, .int .i64 0, .string ⟨#[]⟩] 33 (0, 0)) ∧ H0 w0 w6 (dfR db nb eb (mark A D) E next l) ∧ Below w.heap.size w w6) := by
    rw [← hw6]
    exact ⟨(Hold.sat g5 (.cell B 33 [.int .i64 0, .int .i64 0, .int .i64 0, .int .i64 0, .string ⟨#[]⟩]) (by simp)).2, Hold.conv g5 (fun x => by simp only [List.nil_append, total_cons]; omega) fun q hq => Hold.sat g5 q (by simp [hq]), hb5⟩
  have HW := hide hw6
  generalize d.kind = kd at k0 q1 q2
  generalize hbl : d.blk = bd at k0 ⊢
  clear h h1 hd hk1 hk2 hw1 h0 g1 g2 g3 g4 g5 hb5 hBm hw6 hbl
  go_enter Tryz.func120, Tryz.ntmps120
  go_wp2_with fail
  rw [unhide HW]
  refine bodyPost_ret (results_five (p := 6) (u := 7) rfl _ _ B _ _ _ _ _ rfl rfl (unhide HG).1) rfl ?_
  exact ⟨⟨0, 0, 0, 0, ⟨#[]⟩, none⟩, false, rfl, fun h => (by cases h), (unhide HG).2⟩
theorem made_any (hR : Ready8 w0) (h : H0 w0 w (dfR db nb eb (mark A D) E next l)) (hn : (D.map DN.id).Nodup) (hD : ∀ d ∈ D, WfI d.id) (hDl : D.length ≤ 1000) (hA : ∀ t ∈ A, ∃ d ∈ D, d.id = t.1) (hAl : A.length ≤ 1000) (d : DN) (hd : d ∈ D) (htz : d.tail.size ≤ 1000) :
    Calls Tryz.prog 120 #[.pointer (some ⟨db, 0, none⟩), .int .i64 d.id, .pointer (some ⟨d.blk, 0, none⟩)] w (MdEnd w0 w (dfR db nb eb (mark A D) E next l) A d) := by
  by_cases hk : d.kind = ⟨#[100]⟩
  · by_cases ht : d.tail = toldS 1
    · exact made_dir hR h d hd hk ht fun wx lx hx => hangs_any hx hn hD hDl hA d hd
    · exact made_dirno hR h d hd hk ht
  · by_cases hf : d.kind = ⟨#[102]⟩
    · exact made_fil hR h d hd hf (by have := refs_le A d.id; omega) htz
    · exact made_none h d hd hk hf
end Go.Proofs.YtjpmomklkkifjaaGreatDoor.T.J
namespace Go.Proofs.YtjpmomklkkifjaaGreatDoor.T.J
open Go.RowKit
open Go.Maps (Keyed)
variable {w0 w w' : World} {db nb eb : Nat} {D : List DN} {E : List DE} {next : Int} {l : List Res} {A : List (Int × Item)}
def MadeAll (w0 : World) (db nb eb : Nat) (A : List (Int × Item)) (D : List DN) (E : List DE) (next : Int) : Prop :=
  ∀ d ∈ D, ∀ (wx : World) (lx : List Res), H0 w0 wx (dfR db nb eb (mark A D) E next lx) → Calls Tryz.prog 120 #[.pointer (some ⟨db, 0, none⟩), .int .i64 d.id, .pointer (some ⟨d.blk, 0, none⟩)] wx (MdEnd w0 wx (dfR db nb eb (mark A D) E next lx) A d)
inductive TgOk (A : List (Int × Item)) (next : Int) : List DN → List NV → Prop
  | nil : TgOk A next [] []
  | snoc {F : List DN} {U : List NV} {d : DN} {u : NV} : TgOk A next F U → MdOk A d u → 1 ≤ d.id → d.id < next → TgOk A next (F ++ [d]) (U ++ [u])
theorem TgOk.length {F : List DN} {U : List NV} (h : TgOk A next F U) : U.length = F.length := by
  induction h with
  | nil => rfl
  | snoc _ _ _ _ ih => simp [ih]
def TgEnd (w0 : World) (db nb eb : Nat) (A : List (Int × Item)) (D : List DN) (E : List DE) (next : Int) (l : List Res) (e : Ending) (w' : World) : Prop :=
  (e = .returned (.tuple #[.slice none 0 0, .bool false]) ∧ H0 w0 w' l) ∨ ∃ (v : Value) (F : List DN) (U : List NV), e = .returned (.tuple #[v, .bool true]) ∧ F.Perm D ∧ TgOk A next F U ∧ (∃ d ∈ D, d.id = 1 ∧ d.kind = ⟨#[100]⟩ ∧ d.up = 1) ∧ (D.length ≤ 16 ∧ next ≤ 1000) ∧ H0 w0 w' (rowNd v U :: dfR db nb eb (mark A D) E next l)
set_option maxHeartbeats 16000000 in
theorem together_any (h : H0 w0 w (dfR db nb eb (mark A D) E next l)) (hn : (D.map DN.id).Nodup) (hDl : D.length ≤ 1000) (hD : ∀ d ∈ D, WfI d.id) (hm : MadeAll w0 db nb eb A D E next) :
    Calls Tryz.prog 79 #[.pointer (some ⟨db, 0, none⟩)] w (TgEnd w0 db nb eb A D E next l) := by
  obtain ⟨c0, _, c2, _⟩ := df_cells h
  by_cases hin : (1 : Int) ∈ D.map DN.id
  case neg =>
    have hl1 := df_nolook h hin (wfI_of (by omega) (by omega))
    have H1 := hide h
    clear h hn hDl hD hm hin
    go_enter Tryz.func79, Tryz.ntmps79
    go_wp2_with fail
    refine bodyPost_ret (results_tmp2 rfl _ _ _) rfl ?_
    exact .inl ⟨rfl, df_forget (unhide H1)⟩
  obtain ⟨r, hr, hr1⟩ := List.mem_map.1 hin
  obtain ⟨hlk, _⟩ := df_look h hn hr (hD r hr)
  rw [hr1] at hlk
  have hdn := df_dn h hr
  have b0 := hdn.1
  have b1 := hdn.2.1
  by_cases hrk : r.kind = ⟨#[100]⟩
  case neg =>
    have hkz : (r.kind.toList == [100]) = false := by
      rw [beq_eq_false_iff_ne, Ne, Lib.toList_data]
      exact fun e => hrk (bytes_ext e)
    generalize r.kind = kd at b0 hkz
    generalize r.blk = br at hlk b0 b1
    have H1 := hide h
    clear h hn hDl hD hm hin hdn hr1 hr hrk
    go_enter Tryz.func79, Tryz.ntmps79
    go_wp2_with fail
    refine bodyPost_ret (results_tmp2 rfl _ _ _) rfl ?_
    exact .inl ⟨rfl, df_forget (unhide H1)⟩
  rw [hrk] at b0
  by_cases hru : r.up = 1
  case neg =>
    have hkz : (r.up == 1) = false := by simpa using hru
    generalize r.up = ru at b1 hkz
    generalize r.blk = br at hlk b0 b1
    have H1 := hide h
    clear h hn hDl hD hm hin hdn hr1 hr hrk hru
    go_enter Tryz.func79, Tryz.ntmps79
    go_wp2_with fail
    refine bodyPost_ret (results_tmp2 rfl _ _ _) rfl ?_
    exact .inl ⟨rfl, df_forget (unhide H1)⟩
  rw [hru] at b1
  have hlen : ∀ ty, (Builtin.len_ #[116] ty #[.map (some nb)]).run Tryz.prog w = .ok (.int .i64 D.length) w := fun ty => by
    have := P.len116 (Hold.sat h (.obj nb (P.IsMapP ((mark A D).map DN.pv))) (by simp [dfR])) ty
    rw [mark_pv, List.length_map] at this
    exact this
  by_cases hl : D.length ≤ 16 ∧ next ≤ 1000
  case neg =>
    generalize r.blk = br at hlk b0 b1
    have H1 := hide h
    obtain ⟨n, hnn⟩ : ∃ n, D.length = n := ⟨_, rfl⟩
    rw [hnn] at hl hlen
    clear h hn hDl hD hm hin hdn hr1 hr hrk hru hnn
    by_cases h16 : n ≤ 16
    · have hz1 : ¬ (16 : Int) < (n : Int) := by omega
      have hz3 : ¬ 16 < n := by omega
      have hz2 : (1000 : Int) < next := by omega
      clear hl
      go_enter Tryz.func79, Tryz.ntmps79
      go_wp2_with fail
      refine bodyPost_ret (results_tmp2 rfl _ _ _) rfl ?_
      exact .inl ⟨rfl, df_forget (unhide H1)⟩
    · have hz1 : (16 : Int) < (n : Int) := by omega
      have hz3 : 16 < n := by omega
      clear hl
      go_enter Tryz.func79, Tryz.ntmps79
      go_wp2_with fail
      refine bodyPost_ret (results_tmp2 rfl _ _ _) rfl ?_
      exact .inl ⟨rfl, df_forget (unhide H1)⟩
  obtain ⟨hl, hnx⟩ := hl
  have HRt := hide (show ∃ d ∈ D, d.id = 1 ∧ d.kind = ⟨#[100]⟩ ∧ d.up = 1 from ⟨r, hr, hr1, hrk, hru⟩)
  have Hnx := hide (show D.length ≤ 16 ∧ next ≤ 1000 from ⟨hl, hnx⟩)
  have hs := Hold.sat h (.obj nb (P.IsMapP ((mark A D).map DN.pv))) (by simp [dfR])
  rw [mark_pv] at hs
  obtain ⟨M, hown, hmm⟩ := P.sat_owns hs
  rw [List.length_map] at hown
  have hmn : ((D.map DN.pv).map P.PV.id).Nodup := by rw [dn_ids]; exact hn
  have hmw : ∀ v ∈ D.map DN.pv, WfI v.id := fun v hv => by
    obtain ⟨d, hd, rfl⟩ := List.mem_map.1 hv
    exact hD d hd
  obtain ⟨br, hbr⟩ : ∃ br, r.blk = br := ⟨_, rfl⟩
  rw [hbr] at hlk b0 b1
  have hz1 : ¬ (16 : Int) < (D.length : Int) := by omega
  have hz2 : ¬ (1000 : Int) < next := by omega
  have hz3 : ¬ 16 < D.length := by omega
  have HCm := hide (P.came_start hmm)
  have Hsz : Hid (Maps.size M = D.length) := by show _ = _; rw [hmm.size, List.length_map]
  have HM := hide hmm
  have H1 := hide h
  have Hmn := hide hmn
  have Hmw := hide hmw
  have HN := hide hn
  have HDw := hide hD
  have HMd := hide hm
  have Hl16 := hide hl
  clear h hn hl hD hmm hmn hmw hs hdn hr hr1 hrk hru hm hbr hin hDl hnx
  go_enter Tryz.func79, Tryz.ntmps79
  go_wp2_with (first | (at_range; refine wpList_range_own _ rfl _ 116 rfl 3 167 kI Tryz.underlying116 Rv nb _ M rfl hown ?_; intro w1 hrg1 hg1 hs1) | go_in)
  try go_frame
  have hb1 : Below w.heap.size w w1 := (Below.refl _ w).grown hg1 (Nat.le_refl _) (fun j hj => by cases hj)
  have h2 := H0.nilRow33 (H0.foundObj (unhide H1) hb1 (b := w.heap.size) (Nat.le_refl _) (by omega))
  have H2 := hide h2
  have Hrg := hide hrg1
  clear h2 hb1 hg1 hs1 hown hrg1 c0 c2 H1 hlk b0 b1 hlen hz1 hz2 hz3
  go_wp2_with fail
  go_loopg [6] (D.length + 1) (fun k v6 wr => ∃ (acc : List P.PV) (left : Lit → Bool) (cnt : Nat) (F : List DN) (u6 : Value), u6 = v6 ∧ cnt < k ∧ nb < wr.heap.size ∧ w.heap.size < wr.heap.size ∧ Hid (wr.ranges Tryz.prog 3 Rv nb w.heap.size D.length M left cnt) ∧ Hid (P.Came (D.map DN.pv) acc left) ∧ Hid (∃ U : List NV, acc = F.map DN.pv ∧ (∀ d ∈ F, d ∈ D) ∧ TgOk A next F U ∧ H0 w0 wr (rowNd u6 U :: someB w.heap.size :: dfR db nb eb (mark A D) E next l)))
  case atStart => exact ⟨[], _, _, [], _, rfl, by have := unhide Hsz; omega, (unhide Hrg).owns.lt, (unhide Hrg).lt, Hrg, HCm, [], rfl, by simp, .nil, unhide H2⟩
  case round =>
    obtain ⟨acc, left, cnt, F, u6, rfl, hk, hnb, hrb, Hrg3, HC3, HI3x⟩ := hrel
    obtain ⟨U, hF3a, hF3b, hTg, hI3⟩ := unhide HI3x
    have HF3 := hide (show acc = F.map DN.pv ∧ ∀ d ∈ F, d ∈ D from ⟨hF3a, hF3b⟩)
    have HTg := hide hTg
    have HI3 := hide hI3
    clear hF3a hF3b hTg hI3 HI3x
    clear Hrg H2 HCm Hsz
    have hrg := unhide Hrg3
    go_wp2_with (first | (at_next; refine wpList_next_ranges _ rfl _ rfl 3 kI Rv (Value.int .i64) id (fun key kl hkey => (by obtain ⟨x, hx, _⟩ := Maps.keyOf_int_inv Tryz.underlying3 hkey; exact ⟨x, hx⟩)) (fun v y hv => ⟨v, rfl⟩) nb w.heap.size D.length M left cnt rfl hrg ?_ ?_) | go_in)
    · intro hc0 hl0
      have hperm := P.Came.all (unhide HC3) (unhide Hmn) (unhide Hmw) hl0
      rw [(unhide HF3).1] at hperm
      have hfn : (F.map DN.id).Nodup := by
        have := hperm.map P.PV.id
        rw [dn_ids, dn_ids] at this
        exact this.nodup_iff.2 (unhide HN)
      have hFn : F.Nodup := (List.pairwise_map.1 hfn).imp fun hne e => hne (by rw [e])
      have hEn : D.Nodup := (List.pairwise_map.1 (unhide HN)).imp fun hne e => hne (by rw [e])
      have hFEp : F.Perm D := (List.perm_ext_iff_of_nodup hFn hEn).2 fun e => ⟨(unhide HF3).2 e, fun he => by
        have h1 : e.pv ∈ F.map DN.pv := hperm.mem_iff.2 (List.mem_map.2 ⟨e, he, rfl⟩)
        obtain ⟨e2, he2, e3⟩ := List.mem_map.1 h1
        have h4 : e2.id = e.id := congrArg P.PV.id e3
        have : e2 = e := nodup_inj DN.id (unhide HN) ((unhide HF3).2 e2 he2) he h4
        rw [← this]; exact he2⟩
      have Hp := hide hFEp
      clear hperm hfn hFn hEn hFEp hc0 hl0 hrg
      go_wp2_with fail
      refine bodyPost_ret (results_tmp2 rfl _ _ _) rfl ?_
      exact .inr ⟨u6, F, U, rfl, unhide Hp, unhide HTg, unhide HRt, unhide Hnx, Hold.conv (unhide HI3) (fun x => by simp only [total_cons]; omega) fun r hr => Hold.sat (unhide HI3) r (by
        rcases List.mem_cons.1 hr with hr | hr
        · simp [hr]
        · simp [hr])⟩
    · intro x c kl y1 y2 w2 cnt2 hkey hlk hv hat hrg2 hlt hgr hsz2 hen
      obtain ⟨x', ex, hkl, hwx⟩ := Maps.keyOf_int_inv Tryz.underlying3 hkey
      cases ex
      subst hkl
      have hy : y1 = .held c := by
        have : some ((.held c, []) : DataW Value × List MemPlace) = some (y1, y2) := hv
        exact (congrArg Prod.fst (Option.some.inj this)).symm
      subst hy
      obtain ⟨u, hu, hcu⟩ : ∃ u, P.findP (D.map DN.pv) x = some u ∧ c = u.val := by
        have hl := fun z => (unhide HM).look x z hwx
        cases hf : P.findP (D.map DN.pv) x with
        | none =>
          exfalso
          have h1 := hl (.lit (.bool true))
          rw [hat, hf] at h1
          cases h1
        | some u =>
          refine ⟨u, rfl, ?_⟩
          have h1 := hl (.lit (.bool true))
          rw [hat, hf] at h1
          exact DataW.held.inj h1
      subst hcu
      have hmore := P.Came.more (unhide HC3) (u := u) (by rw [(P.findP_some hu).2]; exact hwx) (by rw [(P.findP_some hu).2]; exact hu) (by rw [(P.findP_some hu).2]; exact hlk)
      obtain ⟨d, hd, rfl⟩ := List.mem_map.1 (P.findP_some hu).1
      have hex : d.id = x := (P.findP_some hu).2
      subst hex
      have h3 : H0 w0 w2 (rowNd u6 U :: someB w.heap.size :: dfR db nb eb (mark A D) E next l) := H0.turned [_] (unhide HI3) hgr
      have hdv : d.pv.val = .pointer (some ⟨d.blk, 0, none⟩) := rfl
      rw [hdv] at hen
      have hmade := unhide HMd d hd
      have hmd := hmade w2 _ (df_push2 h3)
      have hnb2 : nb < w2.heap.size := hrg2.owns.lt
      have hrb2 : w.heap.size < w2.heap.size := hrg2.lt
      have hFl : U.length ≤ 1000 := by
        have h2 := P.nodup_subP (unhide HC3).nodup (unhide HC3).sub
        rw [(unhide HF3).1, List.length_map, List.length_map] at h2
        have := unhide Hl16
        rw [(unhide HTg).length]; omega
      have Hmore : Hid (P.Came (D.map DN.pv) (acc ++ [d.pv]) (fun z => left z && !z.sameKey (.int .i64 d.id))) := hmore
      have HMade := hide hmd
      have Hrg2 := hide hrg2
      have Hd := hide hd
      have HFl := hide hFl
      obtain ⟨bd, hbd⟩ : ∃ bd, d.blk = bd := ⟨_, rfl⟩
      rw [hbd] at hen HMade
      clear hkey hlk hv hat hrg2 hgr hsz2 hrg hmore h3 hmd hmade HC3 Hrg3 hu hwx hd hdv HI3 hFl hbd hnb hrb
      go_wp2_with fail
      refine (unhide HMade).mono ?_
      rintro e4 w4 ⟨u, ok, rfl, hok, h4, hb4⟩
      have hfin : Hid (∀ w9, Below w4.heap.size w4 w9 → H0 w0 w9 l) := fun w9 h9 => df_forget (df_pop (df_pop (H0.step h4 h9)))
      have hnb4 : nb < w4.heap.size := Nat.lt_of_lt_of_le hnb2 hb4.size
      have hrb4 : w.heap.size < w4.heap.size := Nat.lt_of_lt_of_le hrb2 hb4.size
      have hrg4 := ranges_same (unhide Hrg2) (hb4.block nb hnb2) (hb4.block _ hrb2)
      have h5 := H0.step h4 ((Below.refl _ w4).alloc (Nat.le_refl _) (.cells #[.int .i64 u.id, .int .i64 u.kind, .int .i64 u.up, .int .i64 u.links, .string u.text] 33))
      have hrg5 := hrg4.alloc (.cells #[.int .i64 u.id, .int .i64 u.kind, .int .i64 u.up, .int .i64 u.links, .string u.text] 33)
      have c2 := (df_cells h5).2.2.1
      obtain ⟨w5, hw5⟩ : ∃ w5, w4.alloc (.cells #[.int .i64 u.id, .int .i64 u.kind, .int .i64 u.up, .int .i64 u.links, .string u.text] 33) = w5 := ⟨_, rfl⟩
      have hx := cell_list_new w4 [.int .i64 u.id, .int .i64 u.kind, .int .i64 u.up, .int .i64 u.links, .string u.text] 33
      have hs5 : w5.heap.size = w4.heap.size + 1 := by rw [← hw5, World.size_alloc]
      have hx5 : ∀ j v, [Value.int .i64 u.id, .int .i64 u.kind, .int .i64 u.up, .int .i64 u.links, .string u.text][j]? = some v → w5.cell? ⟨w4.heap.size, j, none⟩ = some v := fun j v hv => by
        rw [← hw5]
        have := hx j v hv
        rw [Addr.add_lit, Nat.zero_add] at this
        exact this
      have x0 := hx5 0 _ rfl
      have x1 := hx5 1 _ rfl
      have x2 := hx5 2 _ rfl
      have x3 := hx5 3 _ rfl
      have x4 := hx5 4 _ rfl
      rw [hw5] at h5 hrg5 c2
      have hb45 : Below w4.heap.size w4 w5 := by rw [← hw5]; exact (Below.refl _ w4).alloc (Nat.le_refl _) _
      by_cases hgood : ok = true ∧ 1 ≤ d.id ∧ d.id < next
      case neg =>
        have H9 := hide (unhide hfin w5 hb45)
        have hcase : ok = false ∨ (ok = true ∧ d.id < 1) ∨ (ok = true ∧ ¬ d.id < 1 ∧ next ≤ d.id) := by
          cases ok
          · exact .inl rfl
          · by_cases h1 : d.id < 1
            · exact .inr (.inl ⟨rfl, h1⟩)
            · refine .inr (.inr ⟨rfl, h1, ?_⟩)
              by_cases h2 : next ≤ d.id
              · exact h2
              · exact absurd ⟨rfl, by omega, by omega⟩ hgood
        generalize d.id = di at hcase hen
        clear h4 hb4 hrg4 h5 hrg5 hx hx5 HMade Hrg2 hnb4 hrb4 hnb2 hrb2 HFl hs5 hgood hok hfin hb45 HTg
        rcases hcase with rfl | ⟨rfl, z1⟩ | ⟨rfl, z1, z2⟩
        all_goals
          go_wp2_with fail
          refine bodyPost_ret (results_tmp2 rfl _ _ _) rfl ?_
          exact .inl ⟨rfl, unhide H9⟩
      obtain ⟨rfl, hg1, hg2⟩ := hgood
      have hz1 : ¬ d.id < 1 := by omega
      have hz2 : ¬ next ≤ d.id := by omega
      have HTg2 := hide (TgOk.snoc (unhide HTg) (hok rfl) hg1 hg2)
      clear hok hfin hb45 hg1 hg2
      have h6 := H0.step (df_pop2 h5) ((Below.refl _ w5).alloc (Nat.le_refl _) (.cells #[.int .i64 u.id, .int .i64 u.kind, .int .i64 u.up, .int .i64 u.links, .string u.text] 33))
      have hrg6 := hrg5.alloc (.cells #[.int .i64 u.id, .int .i64 u.kind, .int .i64 u.up, .int .i64 u.links, .string u.text] 33)
      obtain ⟨v7, w7, hap, h7, hgw⟩ := H0.appN [] h6 (u := u) (heap_alloc_new w5 _) (unhide HFl) 27
      have hap2 := tg_apart h6
      have hrg7 := hrg6.kept hgw hap2.1 hap2.2
      have hnb7 : nb < w7.heap.size := hrg7.owns.lt
      have hrb7 : w.heap.size < w7.heap.size := hrg7.lt
      have H7 : Hid (H0 w0 w7 (rowNd v7 (U ++ [u]) :: someB w.heap.size :: dfR db nb eb (mark A D) E next l)) := h7
      have HAp := hide hap
      have Hrg7 := hide hrg7
      clear h4 hb4 hrg4 h5 hrg5 h6 hrg6 h7 hap hgw hap2 hrg7 hx hx5 HMade Hrg2 hnb4 hrb4 hnb2 hrb2 HFl hs5
      go_wp2_with (at_builtin; refine wpList_appendI rfl _ _ 27 27 rfl _ _ rfl rfl (unhide HAp) ?_)
      go_roundg cnt
      case measure => omega
      case rel => exact ⟨acc ++ [d.pv], _, cnt2, F ++ [d], v7, rfl, hlt, hnb7, hrb7, Hrg7, Hmore, U ++ [u], by rw [(unhide HF3).1]; simp, fun z hz => by
        rcases List.mem_append.1 hz with hz | hz
        · exact (unhide HF3).2 z hz
        · rw [List.mem_singleton.1 hz]; exact unhide Hd, unhide HTg2, unhide H7⟩
end Go.Proofs.YtjpmomklkkifjaaGreatDoor.T.J
namespace Go.Proofs.YtjpmomklkkifjaaGreatDoor.T.J
open Go.RowKit
theorem flat_congr {α β : Type} {f g : α → List β} : ∀ {L : List α}, (∀ x ∈ L, f x = g x) → L.flatMap f = L.flatMap g
  | [], _ => rfl
  | x :: L, h => by rw [List.flatMap_cons, List.flatMap_cons, h x (by simp), flat_congr fun y hy => h y (by simp [hy])]
theorem putL_part (it : Item) : ∀ L : List Item, ∃ r, (putL L it ++ r).Perm (it :: L)
  | [] => ⟨[], by simp [putL]⟩
  | y :: L => by
    unfold putL
    split
    · exact ⟨[], by simp⟩
    split
    · exact ⟨[y], List.Perm.cons it (List.perm_append_comm (l₁ := L) (l₂ := [y]))⟩
    · obtain ⟨r, hr⟩ := putL_part it L
      exact ⟨r, (hr.cons y).trans (List.Perm.swap _ _ _)⟩
theorem putAll_part0 : ∀ (L acc : List Item), ∃ r, (L.foldl putL acc ++ r).Perm (acc ++ L)
  | [], acc => ⟨[], by simp⟩
  | x :: L, acc => by
    obtain ⟨r, hr⟩ := putAll_part0 L (putL acc x)
    obtain ⟨r1, hr1⟩ := putL_part x acc
    refine ⟨r ++ r1, ?_⟩
    rw [List.foldl_cons, ← List.append_assoc]
    have h1 : (putL acc x ++ L ++ r1).Perm (putL acc x ++ r1 ++ L) := by
      rw [List.append_assoc, List.append_assoc]
      exact List.perm_append_comm.append_left _
    have h2 : (x :: acc ++ L).Perm (acc ++ x :: L) := by
      show (x :: (acc ++ L)).Perm _
      exact List.perm_middle.symm
    exact (hr.append_right r1).trans (h1.trans ((hr1.append_right L).trans h2))
theorem putAll_part (L : List Item) : ∃ r, (putAll L ++ r).Perm L := putAll_part0 L []
theorem putAll_sorted0 : ∀ (L acc : List Item), Sorted acc → Sorted (L.foldl putL acc)
  | [], _, h => h
  | x :: L, acc, h => putAll_sorted0 L _ (putL_sorted h)
theorem putAll_sorted (L : List Item) : Sorted (putAll L) := putAll_sorted0 L [] .nil
theorem putAll_mem {L : List Item} {x : Item} (h : x ∈ putAll L) : x ∈ L := by
  obtain ⟨r, hr⟩ := putAll_part L
  exact hr.mem_iff.1 (by simp [h])
theorem putAll_len (L : List Item) : (putAll L).length ≤ L.length := by
  obtain ⟨r, hr⟩ := putAll_part L
  have := hr.length_eq
  rw [List.length_append] at this
  omega
variable {E : List DE} {F' : Forest} {U N' : List NV} {D F : List DN} {A : List (Int × Item)} {next : Int}
theorem items_mem {i : Int} {x : Item} (h : x ∈ itemsOf E i) : ∃ e ∈ E, e.folder = i ∧ x ∈ e.items := by
  unfold itemsOf at h
  cases hf : E.find? (fun e => e.folder == i) with
  | none => rw [hf] at h; cases h
  | some e =>
    rw [hf] at h
    exact ⟨e, List.mem_of_find?_eq_some hf, by have := List.find?_some hf; simpa using this, h⟩
def itK (E : List DE) (u : NV) : List Item := if u.kind = 1 then itemsOf E u.id else []
theorem itemsOf_cons (e : DE) (E : List DE) (i : Int) : itemsOf (e :: E) i = if e.folder = i then e.items else itemsOf E i := by
  unfold itemsOf
  by_cases h : e.folder = i
  · rw [List.find?_cons_of_pos (by simpa using h), if_pos h]
  · rw [List.find?_cons_of_neg (by simpa using h), if_neg h]
theorem itemsOf_none {i : Int} (h : i ∉ E.map DE.folder) : itemsOf E i = [] := by
  unfold itemsOf
  have : E.find? (fun e => e.folder == i) = none := List.find?_eq_none.2 fun e he h2 => h (List.mem_map.2 ⟨e, he, by simpa using h2⟩)
  rw [this]
theorem items_perm : ∀ (E : List DE) (U : List NV), (U.map NV.id).Nodup → (E.map DE.folder).Nodup → (∀ e ∈ E, ∃ u ∈ U, u.id = e.folder ∧ u.kind = 1) → (U.flatMap (itK E)).Perm (E.flatMap DE.items)
  | [], U, _, _, _ => by
    have : U.flatMap (itK []) = U.flatMap (fun _ => ([] : List Item)) := flat_congr fun u _ => by unfold itK itemsOf; split <;> rfl
    rw [this]
    simp
  | e :: E, U, hU, hE, hc => by
    rw [List.map_cons, List.nodup_cons] at hE
    have ih := items_perm E U hU hE.2 fun x hx => hc x (by simp [hx])
    obtain ⟨u, hu, hui, huk⟩ := hc e (by simp)
    obtain ⟨U1, U2, rfl⟩ := List.append_of_mem hu
    have hn2 := List.nodup_append.1 (by simpa using hU : (U1.map NV.id ++ u.id :: U2.map NV.id).Nodup)
    have o1 : U1.flatMap (itK (e :: E)) = U1.flatMap (itK E) := flat_congr fun v hv => by
      have : v.id ≠ u.id := hn2.2.2 v.id (List.mem_map.2 ⟨v, hv, rfl⟩) u.id (by simp)
      have e1 : itemsOf (e :: E) v.id = itemsOf E v.id := by rw [itemsOf_cons, if_neg (fun h => this (by rw [← h, hui]))]
      unfold itK
      rw [e1]
    have o2 : U2.flatMap (itK (e :: E)) = U2.flatMap (itK E) := flat_congr fun v hv => by
      have : v.id ≠ u.id := fun h => (List.nodup_cons.1 hn2.2.1).1 (by rw [← h]; exact List.mem_map.2 ⟨v, hv, rfl⟩)
      have e1 : itemsOf (e :: E) v.id = itemsOf E v.id := by rw [itemsOf_cons, if_neg (fun h => this (by rw [← h, hui]))]
      unfold itK
      rw [e1]
    have o3 : itK (e :: E) u = e.items := by unfold itK; rw [if_pos huk, itemsOf_cons, if_pos hui.symm]
    have o4 : itK E u = [] := by unfold itK; rw [if_pos huk]; exact itemsOf_none (by rw [hui]; exact hE.1)
    rw [List.flatMap_append, List.flatMap_cons] at ih ⊢
    rw [o1, o2, o3]
    rw [o4, List.nil_append] at ih
    have h1 : (U1.flatMap (itK E) ++ (e.items ++ U2.flatMap (itK E))).Perm (e.items ++ (U1.flatMap (itK E) ++ U2.flatMap (itK E))) := by
      rw [← List.append_assoc, ← List.append_assoc]
      exact List.perm_append_comm.append_right _
    rw [List.flatMap_cons]
    exact h1.trans (ih.append_left _)
theorem parts_perm (E : List DE) : ∀ U : List NV, ∃ R, (U.flatMap (entsOfE E) ++ R).Perm (U.flatMap (itK E))
  | [] => ⟨[], by simp⟩
  | u :: U => by
    obtain ⟨R, hR⟩ := parts_perm E U
    have h1 : ∃ r, (entsOfE E u ++ r).Perm (itK E u) := by
      unfold entsOfE itK
      split
      · exact putAll_part _
      · exact ⟨[], by simp⟩
    obtain ⟨r, hr⟩ := h1
    refine ⟨r ++ R, ?_⟩
    rw [List.flatMap_cons, List.flatMap_cons]
    have h2 : (entsOfE E u ++ U.flatMap (entsOfE E) ++ (r ++ R)).Perm ((entsOfE E u ++ r) ++ (U.flatMap (entsOfE E) ++ R)) := by
      rw [List.append_assoc, List.append_assoc]
      refine List.Perm.append_left _ ?_
      rw [← List.append_assoc, ← List.append_assoc]
      exact List.perm_append_comm.append_right _
    exact h2.trans (hr.append hR)
theorem built_flat (h : Built E F' U N') : N'.flatMap (entsK F') = U.flatMap (entsOfE E) := by
  induction h with
  | nil => rfl
  | snoc _ h1 ih => rw [List.flatMap_append, List.flatMap_append, ih, List.flatMap_cons, List.flatMap_cons, h1.ents]; rfl
theorem built_mem (h : Built E F' U N') : ∀ v ∈ N', ∃ u ∈ U, Built1 E F' u v := by
  induction h with
  | nil => intro v hv; cases hv
  | snoc _ h1 ih =>
    intro v hv
    rcases List.mem_append.1 hv with hv | hv
    · obtain ⟨u, hu, h2⟩ := ih v hv
      exact ⟨u, by simp [hu], h2⟩
    · rw [List.mem_singleton.1 hv]
      exact ⟨_, by simp, h1⟩
theorem tags_snd (E : List DE) : (tagsOf E).map (·.2) = E.flatMap DE.items := by
  induction E with
  | nil => rfl
  | cons e E ih => rw [tags_one, List.map_append, ih, List.flatMap_cons]; simp [tagE, Function.comp_def]
theorem pairs_snd (F : Forest) (N : List NV) : (pairs N F).map (·.2) = N.flatMap (entsK F) := by
  induction N with
  | nil => rfl
  | cons v N ih =>
    have : pairs (v :: N) F = tagE v.id (entsK F v) ++ pairs N F := rfl
    rw [this, List.map_append, ih, List.flatMap_cons]; simp [tagE, Function.comp_def]
theorem refs_snd (A : List (Int × Item)) (i : Int) : refsE A i = (A.map (·.2)).countP (fun x => x.node == i) := by
  unfold refsE
  rw [List.countP_map]
  rfl
theorem read_refs (hB : Built E F' U N') (hU : (U.map NV.id).Nodup) (hE : (E.map DE.folder).Nodup) (hc : ∀ e ∈ E, ∃ u ∈ U, u.id = e.folder ∧ u.kind = 1) (hl : (N'.flatMap (entsK F')).length = (tagsOf E).length) (i : Int) : refsE (pairs N' F') i = refsE (tagsOf E) i := by
  rw [refs_snd, refs_snd, tags_snd, pairs_snd, built_flat hB]
  rw [built_flat hB] at hl
  obtain ⟨R, hR⟩ := parts_perm E U
  have h1 := hR.trans (items_perm E U hU hE hc)
  have h2 := h1.length_eq
  have h3 : (tagsOf E).length = (E.flatMap DE.items).length := by rw [← tags_snd, List.length_map]
  rw [List.length_append] at h2
  have hR0 : R = [] := List.eq_nil_of_length_eq_zero (by omega)
  subst hR0
  rw [List.append_nil] at h1
  exact h1.countP_eq _
theorem read_len (hB : Built E F' U N') (hU : (U.map NV.id).Nodup) (hE : (E.map DE.folder).Nodup) (hc : ∀ e ∈ E, ∃ u ∈ U, u.id = e.folder ∧ u.kind = 1) : (N'.flatMap (entsK F')).length ≤ (tagsOf E).length := by
  rw [built_flat hB]
  obtain ⟨R, hR⟩ := parts_perm E U
  have h1 := hR.trans (items_perm E U hU hE hc)
  have h2 := h1.length_eq
  have h3 : (tagsOf E).length = (E.flatMap DE.items).length := by rw [← tags_snd, List.length_map]
  rw [List.length_append] at h2
  omega
theorem ofNode_len (F : Forest) : ∀ N : List NV, (N.flatMap (ofNode F)).length = N.length + (N.flatMap (entsK F)).length
  | [] => rfl
  | v :: N => by
    rw [List.flatMap_cons, List.flatMap_cons, List.length_append, List.length_append, ofNode_len F N, List.length_cons]
    have : (ofNode F v).length = (entsK F v).length + 1 := by simp [ofNode]
    omega
theorem rows_isE (F : Forest) (next : Int) (N : List NV) : (rowsOf F next N).countP isE = (N.flatMap (entsK F)).length := by
  have h1 : isE (nextCh next) = false := rfl
  have h2 : ∀ v, isE (nodeCh v) = false := fun v => by
    unfold isE nodeCh Lib.hasPrefix
    rw [app_list]
    rfl
  have h3 : ∀ i x, isE (entCh i x) = true := fun i x => by
    unfold isE entCh Lib.hasPrefix
    rw [app_list, app_list]
    rfl
  have h4 : ∀ M : List NV, (M.flatMap (ofNode F)).countP isE = (M.flatMap (entsK F)).length := fun M => by
    induction M with
    | nil => rfl
    | cons v M ih =>
      rw [List.flatMap_cons, List.flatMap_cons, List.countP_append, ih, List.length_append]
      congr 1
      unfold ofNode
      rw [List.countP_cons, h2, List.countP_map]
      have : (isE ∘ entCh v.id) = fun _ => true := funext fun x => h3 v.id x
      rw [this]
      simp
  show (nextCh next :: N.flatMap (ofNode F)).countP isE = _
  rw [List.countP_cons, h1, h4]
  simp
theorem tg_mem (h : TgOk A next F U) : ∀ u ∈ U, ∃ d ∈ F, MdOk A d u ∧ 1 ≤ d.id ∧ d.id < next := by
  induction h with
  | nil => intro u hu; cases hu
  | snoc _ h1 h2 h3 ih =>
    intro u hu
    rcases List.mem_append.1 hu with hu | hu
    · obtain ⟨d, hd, h4⟩ := ih u hu
      exact ⟨d, by simp [hd], h4⟩
    · rw [List.mem_singleton.1 hu]
      exact ⟨_, by simp, h1, h2, h3⟩
theorem tg_back (h : TgOk A next F U) : ∀ d ∈ F, ∃ u ∈ U, MdOk A d u ∧ 1 ≤ d.id ∧ d.id < next := by
  induction h with
  | nil => intro u hu; cases hu
  | snoc _ h1 h2 h3 ih =>
    intro u hu
    rcases List.mem_append.1 hu with hu | hu
    · obtain ⟨d, hd, h4⟩ := ih u hu
      exact ⟨d, by simp [hd], h4⟩
    · rw [List.mem_singleton.1 hu]
      exact ⟨_, by simp, h1, h2, h3⟩
theorem tg_ids (h : TgOk A next F U) : U.map NV.id = F.map DN.id := by
  induction h with
  | nil => rfl
  | snoc _ h1 _ _ ih => rw [List.map_append, List.map_append, ih, List.map_cons, List.map_cons, h1.1]; rfl
structure AllIn (D : List DN) (E : List DE) (A : List (Int × Item)) (F : List DN) (U : List NV) (next : Int) (m : Nat) : Prop where
  ok : ∃ ne, DOk D E ne m
  fd : ∀ e ∈ E, FdOk D e
  perm : A.Perm (tagsOf E)
  all : F.Perm D
  tg : TgOk A next F U
  root : ∃ d ∈ D, d.id = 1 ∧ d.kind = ⟨#[100]⟩ ∧ d.up = 1
  few : D.length ≤ 16 ∧ next ≤ 1000
theorem AllIn.nodup {m : Nat} (h : AllIn D E A F U next m) : (U.map NV.id).Nodup := by
  obtain ⟨ne, h1⟩ := h.ok
  rw [tg_ids h.tg]
  exact (h.all.map DN.id).nodup_iff.2 h1.di
theorem AllIn.node {m : Nat} (h : AllIn D E A F U next m) {d : DN} (hd : d ∈ D) : ∃ u ∈ U, MdOk A d u ∧ 1 ≤ d.id ∧ d.id < next := tg_back h.tg d (h.all.mem_iff.2 hd)
theorem AllIn.cover {m : Nat} (h : AllIn D E A F U next m) : ∀ e ∈ E, ∃ u ∈ U, u.id = e.folder ∧ u.kind = 1 := fun e he => by
  obtain ⟨⟨d, hd, h1, h2⟩, _⟩ := h.fd e he
  obtain ⟨u, hu, h3, _⟩ := h.node hd
  refine ⟨u, hu, by rw [h3.1, h1], ?_⟩
  rcases h3.2 with h4 | h4
  · exact h4.1
  · exact absurd h2 h4.2.2.2.2.2
theorem AllIn.same {m : Nat} (h : AllIn D E A F U next m) {d d' : DN} (h1 : d ∈ D) (h2 : d' ∈ D) (e : d.id = d'.id) : d = d' := by
  obtain ⟨ne, h3⟩ := h.ok
  exact nodup_inj DN.id h3.di h1 h2 e
theorem AllIn.files {m : Nat} (h : AllIn D E A F U next m) : ∀ u ∈ U, u.kind ≠ 1 → ∀ e ∈ E, e.folder ≠ u.id := fun u hu hk e he e2 => by
  obtain ⟨d, hd, h3, _⟩ := tg_mem h.tg u hu
  obtain ⟨⟨d', hd', h1, h2⟩, _⟩ := h.fd e he
  have := h.same (h.all.mem_iff.1 hd) hd' (by rw [← h3.1, ← e2, h1])
  subst this
  rcases h3.2 with h4 | h4
  · exact hk h4.1
  · exact h4.2.2.2.2.2 h2
theorem AllIn.rows {m : Nat} (h : AllIn D E A F U next m) (hm : m ≤ 900) (hB : Built E F' U N') (hD : ∀ x ∈ F', ∃ u ∈ U, u.kind = 1 ∧ x.2 = putAll (itemsOf E u.id)) : RowsOk8 N' F' next ∧ ∀ v ∈ N', v.id < next := by
  obtain ⟨ne, hok⟩ := h.ok
  have hne := hok.few
  have hnd := h.nodup
  have hlen : N'.length = D.length := by
    have h1 := congrArg List.length hB.ids
    have h2 := congrArg List.length (tg_ids h.tg)
    have h3 := h.all.length_eq
    simp only [List.length_map] at h1 h2
    omega
  have hnode : ∀ v ∈ N', ∃ u ∈ U, ∃ d ∈ D, Built1 E F' u v ∧ MdOk A d u ∧ 1 ≤ d.id ∧ d.id < next := fun v hv => by
    obtain ⟨u, hu, h1⟩ := built_mem hB v hv
    obtain ⟨d, hd, h2⟩ := tg_mem h.tg u hu
    exact ⟨u, hu, d, h.all.mem_iff.1 hd, h1, h2⟩
  have hnx := h.few.2
  have hids : ∀ v ∈ N', 1 ≤ v.id ∧ v.id < next := fun v hv => by
    obtain ⟨u, hu, d, hd, h1, h2, h3, h4⟩ := hnode v hv
    rw [h1.id, h2.1]; exact ⟨h3, h4⟩
  have hdid : ∀ d ∈ D, 1 ≤ d.id ∧ d.id < next := fun d hd => by
    obtain ⟨u, _, _, h3⟩ := h.node hd
    exact h3
  have hups : ∀ v ∈ N', 0 ≤ v.up ∧ v.up < 1000 := fun v hv => by
    obtain ⟨u, hu, d, hd, h1, h2, h3, h4⟩ := hnode v hv
    rw [h1.up]
    rcases h2.2 with ⟨_, e, _, _, _, hr⟩ | ⟨_, e, _⟩
    · rw [e]
      rcases hr with hr | ⟨r1, r2⟩
      · obtain ⟨r, hr1, hr2, _, hr4⟩ := h.root
        have := h.same hd hr1 (by rw [hr, hr2])
        subst this
        rw [hr4]; omega
      · obtain ⟨t, ht, e2⟩ := last_in (A := A) (i := d.id) (by omega)
        have ht2 := h.perm.mem_iff.1 ht
        obtain ⟨e3, he3, hm3⟩ := List.mem_flatMap.1 ht2
        obtain ⟨x, _, rfl⟩ := List.mem_map.1 hm3
        obtain ⟨⟨d', hd', h5, _⟩, _⟩ := h.fd e3 he3
        have := hdid d' hd'
        simp only at e2
        omega
    · rw [e]; omega
  have hitem : ∀ i, ∀ x ∈ itemsOf E i, x.key = keyS x.name ∧ checkP x.name = none ∧ 0 ≤ x.node ∧ x.node < 1000 := fun i x hx => by
    obtain ⟨e, he, _, hxe⟩ := items_mem hx
    obtain ⟨a, b, _⟩ := (hok.ew e he).2 x hxe
    obtain ⟨_, d, hd, e2⟩ := (h.fd e he).2 x hxe
    have := hdid d hd
    exact ⟨a, b, by omega, by omega⟩
  have hents : ∀ v ∈ N', (entsK F' v = [] ∨ ∃ i, entsK F' v = putAll (itemsOf E i)) := fun v hv => by
    obtain ⟨u, hu, d, hd, h1, _⟩ := hnode v hv
    rw [h1.ents]
    unfold entsOfE
    split
    · exact .inr ⟨_, rfl⟩
    · exact .inl rfl
  have hiL : ∀ i, (itemsOf E i).length ≤ 900 := fun i => by
    unfold itemsOf
    cases hf : E.find? (fun e => e.folder == i) with
    | none => simp
    | some e =>
      have := items_few (List.mem_of_find?_eq_some hf)
      have := hok.cnt
      simp only
      omega
  refine ⟨⟨⟨fun v hv hk => ?_, by rw [hlen]; exact h.few.1, fun v hv => by have := hids v hv; omega, fun v hv => by have := hups v hv; omega, fun x hx it hit => ?_, fun x hx it hit => ?_, ?_, fun x hx => ?_⟩, ?_, fun e => ?_, fun v hv => by have := hids v hv; omega, hups, fun v hv => ?_, fun v hv => ?_, ?_, fun v hv x hx => ?_, fun v hv => ?_, ?_⟩, fun v hv => (hids v hv).2⟩
  · obtain ⟨u, hu, h1⟩ := built_mem hB v hv
    exact h1.tree hk
  · obtain ⟨u, _, _, e⟩ := hD x hx
    rw [e] at hit
    have := hitem _ it (putAll_mem hit)
    omega
  · obtain ⟨u, _, _, e⟩ := hD x hx
    rw [e] at hit
    have := hitem _ it (putAll_mem hit)
    exact entry_name this.1 this.2.1
  · obtain ⟨r, hr1, hr2, _⟩ := h.root
    have := hdid r hr1
    omega
  · obtain ⟨u, _, _, e⟩ := hD x hx
    rw [e]
    exact Nat.le_trans (putAll_len _) (hiL _)
  · rw [hB.ids]; exact hnd
  · obtain ⟨r, hr1, _⟩ := h.root
    rw [e] at hlen
    have : D = [] := List.eq_nil_of_length_eq_zero hlen.symm
    rw [this] at hr1
    cases hr1
  · obtain ⟨u, hu, d, hd, h1, h2, _⟩ := hnode v hv
    rw [h1.links]
    rcases h2.2 with ⟨_, _, e, _⟩ | ⟨_, _, e, _⟩
    · rw [e]; omega
    · rw [e]
      have h5 := refs_le A d.id
      have h6 := h.perm.length_eq
      have := hok.cnt
      omega
  · obtain ⟨u, hu, d, hd, h1, h2, _⟩ := hnode v hv
    rw [h1.text]
    rcases h2.2 with ⟨_, _, _, e, _⟩ | ⟨_, _, _, _, e, _⟩
    · rw [e]; decide
    · exact e
  · obtain ⟨r, hr1, hr2, _⟩ := h.root
    have := hdid r hr1
    omega
  · rcases hents v hv with e | ⟨i, e⟩
    · rw [e] at hx; cases hx
    · rw [e] at hx
      exact hitem i x (putAll_mem hx)
  · rcases hents v hv with e | ⟨i, e⟩
    · rw [e]; exact .nil
    · rw [e]; exact putAll_sorted _
  · have h1 := ofNode_len F' N'
    have h2 := read_len hB hnd hok.ef h.cover
    have := hok.cnt
    show (N'.flatMap (ofNode F')).length + 1 ≤ 1000
    omega
theorem AllIn.links {m ne : Nat} (h : AllIn D E A F U next m) (hok : DOk D E ne m) (hB : Built E F' U N') (hl : (N'.flatMap (entsK F')).length = ne) : ∀ v ∈ N', v.id ≠ 1 → (refsE (pairs N' F') v.id : Int) = v.links := fun v hv h1 => by
  obtain ⟨u, hu, hb⟩ := built_mem hB v hv
  obtain ⟨d, hd, h2, _⟩ := tg_mem h.tg u hu
  rw [read_refs hB h.nodup hok.ef h.cover (by rw [hl, hok.cnt]), ← mark_perm h.perm, hb.links, hb.id, h2.1]
  rcases h2.2 with ⟨_, _, e, _, _, hr⟩ | ⟨_, _, e, _⟩
  · rw [e]
    rcases hr with hr | hr
    · exact absurd (by rw [hb.id, h2.1]; exact hr) h1
    · rw [hr.1]; rfl
  · rw [e]
end Go.Proofs.YtjpmomklkkifjaaGreatDoor.T.J
namespace Go.Proofs.YtjpmomklkkifjaaGreatDoor.T.J
open Go.RowKit
variable {w0 w : World} {l0 : List Res}
structure ReadOk (Y : List CH) (N : List NV) (F : Forest) (next : Int) : Prop where
  rows : RowsOk8 N F next
  perm : Y.Perm (rowsOf F next N)
  sorted : Y.Pairwise fun a b => ¬ kLt b.key a.key
  low : ∀ v ∈ N, v.id < next
  links : ∀ v ∈ N, v.id ≠ 1 → (refsE (pairs N F) v.id : Int) = v.links
def PaEnd (w0 : World) (Y : List CH) (l0 : List Res) (e : Ending) (w' : World) : Prop :=
  (e = .returned (.tuple #[.pointer none, .iface 86 (.int .i64 4)]) ∧ H0 w0 w' l0) ∨ ∃ gb gm N F next, e = .returned (.tuple #[.pointer (some ⟨gb, 0, none⟩), .nilIface]) ∧ ReadOk Y N F next ∧ FSIn w0 w' gb gm N F next l0
theorem df_in {db nb eb : Nat} {D : List DN} {E : List DE} {nx : Int} {r : Res} (h : r ∈ l0) : r ∈ dfR db nb eb D E nx l0 := by
  unfold dfR
  simp only [List.mem_cons, List.mem_append]
  exact .inr (.inr (.inr (.inr (.inr h))))
theorem parse_end {Y : List CH} {va v7 : Value} {wx : World} {fb mb db nb eb m : Nat} {D D2 Fd : List DN} {E : List DE} {A : List (Int × Item)} {U N' : List NV} {F' : Forest} {nx : Int} (hR : Ready8 w0) (hA : AllIn D E A Fd U nx m) (hm : m ≤ 900) (hok : DOk D E (Y.countP isE) m) (hY : Y.length ≤ 1000) (hva : rowCh va Y ∈ l0)
    (hB : Built E F' U N') (hD : ∀ x ∈ F', ∃ u ∈ U, u.kind = 1 ∧ x.2 = putAll (itemsOf E u.id))
    (hx : FSIn w0 wx fb mb N' F' nx (rowNd v7 U :: dfR db nb eb D2 E nx l0)) :
    Calls Tryz.prog 31 #[.pointer (some ⟨fb, 0, none⟩)] wx fun e w' => ∃ p r c, e = .returned (.slice p r c) ∧ Calls Tryz.prog 81 #[.slice p r c, va] w' fun e w'' => ∃ q : Bool, e = .returned (.bool q) ∧ (q = true → ReadOk Y N' F' nx) ∧ FSIn w0 w'' fb mb N' F' nx l0 := by
  obtain ⟨hrows, hlow⟩ := hA.rows hm hB hD
  have hx2 : FSIn w0 wx fb mb N' F' nx l0 := hx.conv (fun x => by
    unfold dfR
    simp only [total_cons, total_append]
    omega) (fun hs r hr => hs r (.tail _ (df_in hr)))
  refine (rows_calls hR hx2 hrows).mono ?_
  rintro e w' ⟨v2, R2, rfl, p2, s2, h3⟩
  have o1 := h3.rowAt (v := v2) (e := 69) (k := 3) (.head _)
  have o2 := h3.rowAt (e := 69) (k := 3) (.tail _ hva)
  obtain ⟨p, c, rfl⟩ := row_cut o1
  have hl : R2.length ≤ 1000 := by rw [p2.length_eq]; exact hrows.many
  refine ⟨p, _, c, rfl, (slEqual_any o1 o2 rfl rfl (by omega) (by omega)).mono ?_⟩
  rintro e w'' ⟨q, rfl, hq, hb⟩
  refine ⟨q, rfl, fun h => ?_, (FSIn.forget [] h3).step (hb.mono (by exact Nat.le_refl _))⟩
  have e1 := hq h
  subst e1
  exact ⟨hrows, p2, s2, hlow, hA.links hok hB (by rw [← rows_isE F' nx N']; exact (p2.countP_eq isE).symm)⟩
def ReadTo8 (w0 w : World) (db nb eb : Nat) (l0 : List Res) (Y : List CH) (i : Nat) : Prop := ∃ D E nx, DOk D E ((Y.take i).countP isE) i ∧ H0 w0 w (dfR db nb eb D E nx l0)
set_option maxHeartbeats 16000000 in
theorem parse_any (hR : Ready8 w0) (h : H0 w0 w l0) {va : Value} {Y : List CH} (hm : rowCh va Y ∈ l0) (hYl : Y.length ≤ 900) (hsz : ∀ c ∈ Y, c.key.size ≤ 1000 ∧ c.val.size ≤ 1000) :
    Calls Tryz.prog 36 #[va] w (PaEnd w0 Y l0) := by
  have hrow0 : w.ownsRow w0.heap.size 69 3 va Y.length (flatC Y) := Hold.sat h (rowCh va Y) hm
  obtain ⟨pY, cY, rfl⟩ := row_cut hrow0
  have h1 := df_start h
  obtain ⟨nb, hnb⟩ : ∃ nb, w.heap.size = nb := ⟨_, rfl⟩
  rw [hnb] at h1
  obtain ⟨w1, hw1⟩ : ∃ w1, ((w.alloc (.map #[] 0)).alloc (.map #[] 0)).alloc (.cells #[.map (some nb), .map (some (nb + 1)), .int .i64 0] 119) = w1 := ⟨_, rfl⟩
  rw [hw1] at h1
  have hmm := @run_makeMap Tryz.prog
  obtain ⟨n, hn⟩ : ∃ n, Y.length = n := ⟨_, rfl⟩
  have H1 : Hid (ReadTo8 w0 w1 (nb + 1 + 1) nb (nb + 1) l0 Y 0) := ⟨[], [], 0, ⟨by simp, by simp, by simp, by simp, by simp [tagsOf], by simp, by simp⟩, h1⟩
  have HR := hide hR
  have Hm := hide hm
  have HSz := hide hsz
  have Hn := hide hn
  rw [hn] at hYl ⊢
  have hw1c := hw1
  clear h h1 hR hm hsz hrow0 hn
  go_enter Tryz.func36, Tryz.ntmps36
  go_wp2_with fail
  go_loopg [16] (n + 1) (fun k vi wr => ∃ i : Nat, n - i < k ∧ i ≤ n ∧ vi = .int .i64 i ∧ Hid (ReadTo8 w0 wr (nb + 1 + 1) nb (nb + 1) l0 Y i))
  case atStart => exact ⟨0, by omega, by omega, rfl, H1⟩
  case round =>
    obtain ⟨i, hg, hi, rfl, HI⟩ := hrel
    clear H1
    by_cases hin : i < n
    · have hiz : (i : Int) < (n : Int) := by omega
      obtain ⟨c, hc⟩ : ∃ c, Y[i]? = some c := ⟨Y[i]'(by rw [unhide Hn]; exact hin), List.getElem?_eq_getElem _⟩
      obtain ⟨D, E, nx, hok, hx⟩ := unhide HI
      have hrow : wr.ownsRow w0.heap.size 69 3 (.slice pY Y.length cY) Y.length (flatC Y) := Hold.sat hx (rowCh _ Y) (df_in (unhide Hm))
      rw [unhide Hn] at hrow
      obtain ⟨g, cap, e1, _⟩ := row_shape hrow (by omega)
      injection e1 with e1 _ e2
      subst e1 e2
      obtain ⟨c0, c1, c2⟩ := ch_cell hrow hc
      obtain ⟨z1, z2⟩ := unhide HSz c (List.mem_of_getElem? hc)
      have hx2 : H0 w0 (wr.alloc (.cells #[.string c.key, .string c.val, .bool c.gone] 69)) (dfR (nb + 1 + 1) nb (nb + 1) D E nx l0) := H0.step hx ((Below.refl _ wr).alloc (Nat.le_refl _) _)
      have hrd := read_any (unhide HR) hx2 hok (by omega) c z1 z2
      have hcnt : (Y.take (i + 1)).countP isE = (Y.take i).countP isE + if isE c then 1 else 0 := by
        rw [take_snoc hc, List.countP_append, List.countP_cons]
        simp
      rw [← hcnt] at hrd
      have HRd := hide hrd
      obtain ⟨ck, cv, cg⟩ := c
      simp only at c0 c1 c2 HRd
      clear hc hok hx hrow hx2 hrd HI hcnt z1 z2
      go_wp2_with fail
      refine (unhide HRd).mono ?_
      rintro e w3 (⟨rfl, h3⟩ | ⟨rfl, D', E', nx', hok', h3⟩)
      · have H3 := hide h3
        clear h3 HRd c0 c1 c2
        go_wp2_with fail
        go_ret2
        exact .inl ⟨rfl, unhide H3⟩
      · have H3 : Hid (ReadTo8 w0 w3 (nb + 1 + 1) nb (nb + 1) l0 Y (i + 1)) := ⟨D', E', nx', hok', h3⟩
        clear h3 hok' HRd c0 c1 c2
        go_wp2_with fail
        go_roundg (n - i)
        case measure => omega
        case rel => exact ⟨i + 1, by omega, by omega, by simp, H3⟩
    · have hiz : ¬ (i : Int) < (n : Int) := by omega
      have hie : i = n := by omega
      obtain ⟨D, E, nx, hok0, hx⟩ := unhide HI
      have hok : DOk D E (Y.countP isE) n := by
        rw [List.take_of_length_le (by rw [unhide Hn]; omega), hie] at hok0
        exact hok0
      have hEl : E.length ≤ 1000 := by have := hok.few; have := hok.el; omega
      have hIl : ∀ e ∈ E, e.items.length ≤ 1000 := fun e he => by have := items_few he; have := hok.few; have := hok.cnt; omega
      have hDl : D.length ≤ 1000 := by have := hok.few; omega
      have hx1 := hx
      rw [← mark_nil fun d hd => ⟨(hok.dw d hd).2.1, (hok.dw d hd).2.2.1⟩] at hx1
      have hlk := dlink_any hx1 hok.di (fun d hd => (hok.dw d hd).1) hok.ef hEl hIl (fun e he => ⟨(hok.ew e he).1, fun x hx => ((hok.ew e he).2 x hx).2.2⟩) (by have := hok.few; have := hok.cnt; omega)
      have HLk := hide hlk
      have HO := hide hok
      clear hok0 hok hx hx1 hlk HI hie hEl hIl hDl
      go_wp2_with fail
      refine (unhide HLk).mono ?_
      rintro e w4 (⟨rfl, h4⟩ | ⟨rfl, A, hA, hFd, h4⟩)
      · have H4 := hide h4
        clear h4 HLk
        go_wp2_with fail
        go_ret2
        exact .inl ⟨rfl, unhide H4⟩
      have hDl : D.length ≤ 1000 := by have := (unhide HO).few; omega
      have hAc : ∀ t ∈ A, ∃ d ∈ D, d.id = t.1 := fun t ht => by
        obtain ⟨e3, he3, hm3⟩ := List.mem_flatMap.1 (hA.mem_iff.1 ht)
        obtain ⟨x, _, rfl⟩ := List.mem_map.1 hm3
        obtain ⟨⟨d', hd', h5, _⟩, _⟩ := hFd e3 he3
        exact ⟨d', hd', h5⟩
      have hAl : A.length ≤ 1000 := by rw [hA.length_eq]; have := (unhide HO).cnt; have := (unhide HO).few; omega
      have htg := together_any h4 (unhide HO).di hDl (fun d hd => ((unhide HO).dw d hd).1) (fun d hd wx lx hx => made_any (unhide HR) hx (unhide HO).di (fun d hd => ((unhide HO).dw d hd).1) hDl hAc hAl d hd ((unhide HO).dw d hd).2.2.2)
      have HTg := hide htg
      have HA := hide hA
      have HFd := hide hFd
      clear h4 HLk htg hDl hAc hAl hA hFd
      go_wp2_with fail
      refine (unhide HTg).mono ?_
      rintro e w5 (⟨rfl, h5⟩ | ⟨v7, Fd, U, rfl, hp, ht, hrt, hfw, h5⟩)
      · have H5 := hide h5
        clear h5 HTg
        go_wp2_with fail
        go_ret2
        exact .inl ⟨rfl, unhide H5⟩
      have hall : AllIn D E A Fd U nx n := ⟨⟨_, unhide HO⟩, unhide HFd, unhide HA, hp, ht, hrt, hfw⟩
      obtain ⟨_, k1, k2, _⟩ := df_cells (df_push h5)
      have hUl : U.length = D.length := by rw [ht.length, hp.length_eq]
      have hof := of_all (eb := nb + 1) (E := E) (unhide HR).r (Hold.drew h5) (by simp [dfR]) (fun e he => .tail _ (df_mem he)) (.head _) (by rw [hUl]; exact hfw.1) (by
          rw [hUl]
          obtain ⟨d, hd, _⟩ := hrt
          exact List.length_pos_iff.2 (fun e => by rw [e] at hd; cases hd)) (fun u hu => by
          obtain ⟨d, hd, h1, _⟩ := tg_mem ht u hu
          rw [h1.1]
          exact ((unhide HO).dw d (hp.mem_iff.1 hd)).1) hall.nodup (unhide HO).ef (fun e he => ⟨by have := items_few he; have := (unhide HO).few; have := (unhide HO).cnt; omega, fun x hx => ⟨(((unhide HO).ew e he).2 x hx).1, (((unhide HO).ew e he).2 x hx).2.1⟩⟩) hall.files nx
      obtain ⟨p7, c7, rfl⟩ : ∃ p c, v7 = .slice p U.length c := row_cut (Hold.sat h5 (rowNd v7 _) (.head _))
      have HOf := hide hof
      have HEnd : Hid (∀ wx fb mb N' F', Built E F' U N' → (∀ x ∈ F', ∃ u ∈ U, u.kind = 1 ∧ x.2 = putAll (itemsOf E u.id)) → FSIn w0 wx fb mb N' F' nx (rowNd (.slice p7 U.length c7) U :: dfR (nb + 1 + 1) nb (nb + 1) (mark A D) E nx l0) →
          Calls Tryz.prog 31 #[.pointer (some ⟨fb, 0, none⟩)] wx fun e w' => ∃ p r c, e = .returned (.slice p r c) ∧ Calls Tryz.prog 81 #[.slice p r c, .slice pY n cY] w' fun e w'' => ∃ q : Bool, e = .returned (.bool q) ∧ (q = true → ReadOk Y N' F' nx) ∧ FSIn w0 w'' fb mb N' F' nx l0) := fun wx fb mb N' F' hB hD hx => by
        have h := parse_end (unhide HR) hall (by omega) (unhide HO) (by rw [unhide Hn]; omega) (unhide Hm) hB hD hx
        rw [unhide Hn] at h
        exact h
      obtain ⟨n7, hn7⟩ : ∃ n7, U.length = n7 := ⟨_, rfl⟩
      rw [hn7] at HOf HEnd ⊢
      clear h5 hUl hof hp ht hrt hfw hall HTg hn7 HA HFd HO HR Hm HSz Hn
      go_wp2_with fail
      go_region_held3 (fun w' => w'.cell? ⟨nb + 1 + 1, 1, none⟩ = some (.map (some (nb + 1))) ∧ w'.cell? ⟨nb + 1 + 1, 2, none⟩ = some (.int .i64 nx)) (first | exact ⟨k1, k2⟩ | exact ⟨m1, m2⟩ | go_keep) ((go_at_call 80; refine (unhide HOf).mono ?_; rintro e w6 ⟨fb, mb, N', F', rfl, hB, hD, h6⟩; have m1 := h6.cellAt (b := nb + 1 + 1) (t := 119) (vs := [.map (some nb), .map (some (nb + 1)), .int .i64 nx]) (by simp [dfR]) (j := 1) (v := .map (some (nb + 1))) rfl; have m2 := h6.cellAt (b := nb + 1 + 1) (t := 119) (vs := [.map (some nb), .map (some (nb + 1)), .int .i64 nx]) (by simp [dfR]) (j := 2) (v := .int .i64 nx) rfl; have HE := hide (unhide HEnd _ _ _ _ _ hB hD h6); clear hB hD h6))
      all_goals
        go_wp2_with fail
        refine (unhide HE).mono ?_
        rintro e w7 ⟨p, r, c, rfl, h7⟩
        have H7 := hide h7
        clear h7 HE
        go_wp2_with fail
        refine (unhide H7).mono ?_
        rintro e w8 ⟨q, rfl, hq, h8⟩
        cases q with
        | false =>
          obtain ⟨rs8, _, h9⟩ := h8
          have H8 : Hid (H0 w0 w8 l0) := Hold.conv h9 (fun x => by simp only [total_cons, total_append]; omega) fun q hq => Hold.sat h9 q (by simp [hq])
          clear h9 H7 hq
          go_wp2_with fail
          go_ret2
          exact .inl ⟨rfl, unhide H8⟩
        | true =>
          have H8 := hide h8
          have HQ := hide (hq rfl)
          clear h8 H7 hq
          go_wp2_with fail
          go_ret2
          exact .inr ⟨fb, _, N', F', nx, rfl, unhide HQ, unhide H8⟩
end Go.Proofs.YtjpmomklkkifjaaGreatDoor.T.J
namespace Go.Proofs.YtjpmomklkkifjaaGreatDoor.T.J
open Go.RowKit
theorem andN (m : Nat) (hm : m < 2 ^ 63) (x : Int) : ∃ nn : Nat, bits .and .i64 x m = (nn : Int) ∧ nn ≤ m := by
  have hmm : (BitVec.ofInt 64 (m : Int)).toNat = m := by
    rw [BitVec.toNat_ofInt]
    omega
  have h : (BitVec.ofInt 64 x &&& BitVec.ofInt 64 (m : Int)).toNat ≤ m := by
    rw [BitVec.toNat_and]
    exact Nat.le_trans Nat.and_le_right (Nat.le_of_eq hmm)
  refine ⟨(BitVec.ofInt 64 x &&& BitVec.ofInt 64 (m : Int)).toNat, ?_, h⟩
  show IntKind.i64.wrap (((BitVec.ofInt 64 x &&& BitVec.ofInt 64 (m : Int)).toNat : Nat) : Int) = _
  rw [IntKind.wrap_i64]
  omega
theorem count_or (P : List (Int × Item)) (v : Int) (I : List Int) : P.countP (fun p => (v :: I).contains p.2.node) ≤ refsE P v + P.countP (fun p => I.contains p.2.node) := by
  unfold refsE
  induction P with
  | nil => simp
  | cons p P ih =>
    rw [List.countP_cons, List.countP_cons, List.countP_cons]
    have : (v :: I).contains p.2.node = (p.2.node == v || I.contains p.2.node) := List.contains_cons
    rw [this]
    generalize P.countP (fun p => (v :: I).contains p.2.node) = a at ih ⊢
    generalize P.countP (fun x => x.2.node == v) = b at ih ⊢
    generalize P.countP (fun p => I.contains p.2.node) = c at ih ⊢
    cases (p.2.node == v) <;> cases (I.contains p.2.node) <;> simp <;> omega
theorem count_sum (P : List (Int × Item)) : ∀ I : List Int, P.countP (fun p => I.contains p.2.node) ≤ (I.map (refsE P)).sum
  | [] => by simp
  | v :: I => by
    have h1 := count_or P v I
    have h2 := count_sum P I
    rw [List.map_cons, List.sum_cons]
    omega
theorem count_all {P : List (Int × Item)} {I : List Int} (h : ∀ p ∈ P, p.2.node ∈ I) : P.countP (fun p => I.contains p.2.node) = P.length :=
  List.countP_eq_length.2 fun p hp => by simpa using h p hp
theorem sum_kinds (g : NV → Nat) (a b : Nat) : ∀ N : List NV, (∀ v ∈ N, g v ≤ if v.kind = 1 then a else b) → ∃ f d, f + d = N.length ∧ (N.map g).sum ≤ a * f + b * d ∧ f = N.countP (fun v => decide (v.kind = 1))
  | [], _ => ⟨0, 0, rfl, by simp, rfl⟩
  | v :: N, h => by
    obtain ⟨f, d, h1, h2, h3⟩ := sum_kinds g a b N fun u hu => h u (by simp [hu])
    have h4 := h v (by simp)
    by_cases hk : v.kind = 1
    · rw [if_pos hk] at h4
      refine ⟨f + 1, d, by simp; omega, ?_, by rw [List.countP_cons, ← h3]; simp [hk]⟩
      rw [List.map_cons, List.sum_cons, Nat.mul_succ]
      omega
    · rw [if_neg hk] at h4
      refine ⟨f, d + 1, by simp; omega, ?_, by rw [List.countP_cons, ← h3]; simp [hk]⟩
      rw [List.map_cons, List.sum_cons, Nat.mul_succ]
      omega
theorem flat_sum (F : Forest) : ∀ N : List NV, (N.flatMap (entsK F)).length = (N.map fun v => (entsK F v).length).sum
  | [] => rfl
  | v :: N => by rw [List.flatMap_cons, List.length_append, flat_sum F N, List.map_cons, List.sum_cons]
theorem Good.few8 {k : Nat} {N : List NV} {F : Forest} {next : Int} (h : Good k N F next) (hk : k ≤ 60) : (rowsOf F next N).length ≤ 600 := by
  have hw := h.whole
  have hl := hw.linked
  have h16 := h.fits.few
  have hlen : (pairs N F).length = (N.flatMap (entsK F)).length := by rw [← pairs_snd, List.length_map]
  have hsum : (pairs N F).length ≤ ((N.map NV.id).map (refsE (pairs N F))).sum := by
    have h1 := count_sum (pairs N F) (N.map NV.id)
    rw [count_all fun p hp => by
      obtain ⟨_, v, hv, e⟩ := hl.named p hp
      exact List.mem_map.2 ⟨v, hv, e⟩] at h1
    exact h1
  rw [List.map_map] at hsum
  obtain ⟨f1, d1, e1, s1, c1⟩ := sum_kinds (refsE (pairs N F) ∘ NV.id) 1 61 N fun v hv => by
    show refsE (pairs N F) v.id ≤ _
    by_cases h1 : v.id = 1
    · have : refsE (pairs N F) v.id = 0 := by
        unfold refsE
        rw [List.countP_eq_zero]
        intro p hp
        have := (hl.named p hp).1
        rw [h1]; simpa using this
      rw [this]; exact Nat.zero_le _
    · have h2 := (hl.cnt v hv h1).1
      rcases hl.kinds v hv with ⟨hk1, hk2, _⟩ | ⟨hk1, _⟩
      · rw [if_pos hk1]; omega
      · rw [if_neg (by omega)]
        have := h.goo.links v hv
        omega
  obtain ⟨f2, d2, e2, s2, c2⟩ := sum_kinds (fun v => (entsK F v).length) 60 0 N fun v hv => by
    unfold entsK
    by_cases hk1 : v.kind = 1
    · rw [if_pos hk1, if_pos hk1]
      obtain ⟨tb, htb, ht⟩ := hw.tree v hv hk1
      unfold entsOf
      rw [htb]
      have := h.few.look tb
      simp only
      omega
    · rw [if_neg hk1]; exact Nat.zero_le _
  rw [← flat_sum] at s2
  have hff : f1 = f2 := by rw [c1, c2]
  have h3 := ofNode_len F N
  show (N.flatMap (ofNode F)).length + 1 ≤ 600
  omega
end Go.Proofs.YtjpmomklkkifjaaGreatDoor.T.J
