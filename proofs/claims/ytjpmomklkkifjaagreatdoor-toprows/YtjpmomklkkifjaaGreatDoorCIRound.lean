/-
  The contract of hangs: a way up that ends at the root. The contract of together: all nodes of a draft, where all goes together. The contract of nodeOf, of a folder with entries. The contract of fs.Of: folders and files of nodes and entries. The contract of up: does a path go up, or stay? A folder that is to go into itself. Plain facts.
-/
import Derived.Test.YtjpmomklkkifjaaGreatDoorCILink
import Derived.Test.YtjpmomklkkifjaaGreatDoorCFNodes2
import Derived.Test.YtjpmomklkkifjaaGreatDoorCFAddF
import Derived.Test.YtjpmomklkkifjaaGreatDoorCFListP
import Derived.Test.YtjpmomklkkifjaaGreatDoorCBCopied
import Derived.RegionTactic
import Derived.Test.YtjpmomklkkifjaaGreatDoorCFDone
import Derived.Deep.RegionHeldLaw
import Derived.Test.YtjpmomklkkifjaaGreatDoorCFWalk
import Derived.Test.YtjpmomklkkifjaaGreatDoorCFRename
namespace Go.Proofs.YtjpmomklkkifjaaGreatDoor.T
open Go.RowKit
set_option maxRecDepth 100000
set_option linter.unusedVariables false
set_option linter.unusedSimpArgs false

def iterF (f : Int → Int) : Nat → Int → Int
  | 0, i => i
  | k + 1, i => iterF f k (f i)
theorem iterF_succ (f : Int → Int) : ∀ (k : Nat) (i : Int), iterF f (k + 1) i = f (iterF f k i)
  | 0, _ => rfl
  | k + 1, i => by
    show iterF f (k + 1) (f i) = f (iterF f k (f i))
    exact iterF_succ f k (f i)

variable {w0 w w' : World} {db nb eb : Nat} {D : List DN} {E : List DE} {next : Int} {l : List Res} {A : List (Int × Item)}
set_option maxHeartbeats 4000000 in
theorem hangs_calls (h : H0 w0 w (dfR db nb eb (mark A D) E next l)) (hn : (D.map DN.id).Nodup) (hDl : D.length ≤ 1000) (i : Int) (k : Nat) (hk : k < D.length) (hend : iterF (lastF A) k i = 1)
    (hall : ∀ j, j < k → iterF (lastF A) j i ≠ 1 ∧ ∃ d ∈ D, d.id = iterF (lastF A) j i ∧ WfI d.id ∧ refsE A d.id = 1 ∧ lastF A d.id = d.up) :
    Calls Tryz.prog 169 #[.pointer (some ⟨db, 0, none⟩), .int .i64 i] w fun e w' => e = .returned (.bool true) ∧ Below w.heap.size w w' := by
  obtain ⟨c0, _, _, _⟩ := df_cells h
  have hlen : ∀ ty, (Builtin.len_ #[116] ty #[.map (some nb)]).run Tryz.prog w = .ok (.int .i64 D.length) w := fun ty => by
    have := P.len116 (Hold.sat h (.obj nb (P.IsMapP ((mark A D).map DN.pv))) (by simp [dfR])) ty
    rw [mark_pv, List.length_map] at this
    exact this
  have H1 := hide h
  have HAll := hide hall
  have HN := hide hn
  obtain ⟨f, hf⟩ : ∃ f, iterF (lastF A) = f := ⟨_, rfl⟩
  have Hend : Hid (f k i = 1) := by rw [← hf]; exact hend
  have H0i : Hid (f 0 i = i) := by rw [← hf]; rfl
  obtain ⟨n, hnn⟩ : ∃ n, D.length = n := ⟨_, rfl⟩
  rw [hnn] at hk hDl hlen
  clear h hall hn hend hnn
  go_enter Tryz.func169, Tryz.ntmps169
  go_wp2_with fail
  go_loopg [1, 11] (n + 1) (fun g v1 v11 wr => ∃ j : Nat, n - j < g ∧ j ≤ k ∧ v11 = .int .i64 j ∧ v1 = .int .i64 (f j i) ∧ Hid (Below w.heap.size w wr))
  case atStart => exact ⟨0, by omega, by omega, rfl, by rw [unhide H0i], Below.refl _ _⟩
  case round =>
    obtain ⟨j, hg, hj, rfl, rfl, HB⟩ := hrel
    have hjz : (j : Int) < (n : Int) := by omega
    by_cases hjk : j = k
    · subst hjk
      rw [unhide Hend]
      go_wp2_with fail
      go_ret
      exact ⟨rfl, unhide HB⟩
    · obtain ⟨h1, d, hd, hdi, hwf, hrf, hlf⟩ := unhide HAll j (by omega)
      rw [hf] at h1 hdi
      have hx := H0.step (unhide H1) (unhide HB)
      obtain ⟨k0, _, _, _⟩ := df_cells hx
      obtain ⟨_, hl⟩ := df_look hx (unhide HN) hd hwf
      have hdn := df_dn hx hd
      have s1 := hdn.2.1
      have s3 := hdn.2.2.2.1
      have s4 := hdn.2.2.2.2.1
      rw [hrf] at s3
      rw [hlf] at s4
      rw [hdi] at hl
      have hne : (f j i == 1) = false := by simpa using h1
      have Hnx : Hid (f (j + 1) i = d.up) := by
        show _ = _
        rw [← hf, iterF_succ]
        rw [← hf] at hdi
        rw [← hdi]; exact hlf
      generalize d.up = du at s1 s4 Hnx
      generalize d.blk = b at s1 s3 s4 hl
      generalize f j i = fi at hne hl
      have s3' : wr.cell? ⟨b, 3, none⟩ = some (.int .i64 1) := s3
      have HB2 := HB
      have hjlt : j < k := by omega
      clear hx hd hdi hwf hrf hlf hdn h1 s3 hjk
      go_wp2_with fail
      go_region
      all_goals
        go_wp2_with fail
        go_roundg (n - j)
        case measure => omega
        case rel => exact ⟨j + 1, by omega, by omega, by simp, by rw [unhide Hnx], (unhide HB2).drew⟩
end Go.Proofs.YtjpmomklkkifjaaGreatDoor.T
namespace Go.Proofs.YtjpmomklkkifjaaGreatDoor.T
open Go.RowKit
open Go.Maps (Keyed)
set_option maxRecDepth 100000
set_option linter.unusedVariables false
set_option linter.unusedSimpArgs false

variable {w0 w w' : World} {db nb eb : Nat} {D : List DN} {E : List DE} {next : Int} {l : List Res} {A : List (Int × Item)}
def MadeOk (w0 : World) (db nb eb : Nat) (A : List (Int × Item)) (D : List DN) (E : List DE) (next : Int) (nv : DN → NV) : Prop :=
  ∀ d ∈ D, (nv d).id = d.id ∧ ∀ (wx : World) (lx : List Res), H0 w0 wx (dfR db nb eb (mark A D) E next lx) → Calls Tryz.prog 120 #[.pointer (some ⟨db, 0, none⟩), .int .i64 d.id, .pointer (some ⟨d.blk, 0, none⟩)] wx fun e w' =>
    e = .returned (.tuple #[.agg #[.int .i64 (nv d).id, .int .i64 (nv d).kind, .int .i64 (nv d).up, .int .i64 (nv d).links, .string (nv d).text], .bool true]) ∧ H0 w0 w' (dfR db nb eb (mark A D) E next lx) ∧ Below wx.heap.size wx w'
theorem H0.nilRow33 {rs : List Res} (h : H0 w0 w rs) : H0 w0 w (rowNd (.slice none 0 0) [] :: rs) := Hold.nilRow h 33 5
theorem H0.appN (l1 : List Res) {l2 : List Res} {v : Value} {L : List NV} (h : H0 w0 w (l1 ++ rowNd v L :: l2)) {X : Nat} {u : NV} (hc : w.heap[X]? = some (.cells (encN u).toArray 33 (0, 0))) (hn : L.length ≤ 1000) (ty : TypeId) :
    ∃ v' w', (Builtin.append_ #[27, 27] ty #[v, .slice (some ⟨X, 0, none⟩) 1 1]).run Tryz.prog w = .ok v' w' ∧ H0 w0 w' (l1 ++ rowNd v' (L ++ [u]) :: l2) ∧ w.grownBy w' v.ownBlock := by
  obtain ⟨i0, hi, hz0, hz1, hz2⟩ := info_parts infoNode
  have hv : w.ownsRow w0.heap.size 33 5 v L.length (flatN L) := Hold.sat h (rowNd v L) (by simp)
  have hb : w0.heap.size ≤ w.heap.size := (H0.below h).size
  obtain ⟨v', w', hr, ho, hg, _, ha⟩ := run_append_own_at (P := Tryz.prog) w w0.heap.size 27 ty 33 i0 _ 5 48 Tryz.underlying27 hi hz0 hz1 hz2 rfl (by decide) v _ _ hv ⟨X, 0, none⟩ 1 1 (encN u) rfl (fun j x hj => by
    rw [Addr.add_lit, Nat.zero_add, cell_of_row _ _ j _ 33 (0, 0) hc]
    simpa using hj) (fun x hx => by simp [encN] at hx; rcases hx with rfl | rfl | rfl | rfl | rfl <;> rfl) (by unfold maxLen; omega) (by omega) hb
  refine ⟨v', w', hr, ?_, hg⟩
  rw [← flatN_snoc] at ho
  have e2 : L.length + 1 = (L ++ [u]).length := by simp
  rw [e2] at ho
  exact Hold.grow l1 h hg ho (ha.imp id fun h => ⟨_, h, Nat.le_refl _⟩)
theorem tg_apart {rb : Nat} {v : Value} {L : List NV} (h : H0 w0 w (rowNd v L :: someB rb :: dfR db nb eb (mark A D) E next l)) : some nb ≠ v.ownBlock ∧ some rb ≠ v.ownBlock := by
  constructor
  · intro e1
    have h1 := Hold.uniq h nb
    have h2 : 0 < blkN v nb := blkN_pos.2 e1.symm
    have h3 : (Res.obj nb (P.IsMapP ((mark A D).map DN.pv))).foot nb = 1 := one_self _
    simp only [dfR, total_cons, total_append] at h1
    have h4 : (rowNd v L).foot nb = blkN v nb := rfl
    omega
  · intro e1
    have h1 := Hold.uniq h rb
    have h2 : 0 < blkN v rb := blkN_pos.2 e1.symm
    have h3 : (someB rb).foot rb = 1 := one_self _
    simp only [dfR, total_cons, total_append] at h1
    have h4 : (rowNd v L).foot rb = blkN v rb := rfl
    omega

theorem df_push2 {a b : Res} (h : H0 w0 w (a :: b :: dfR db nb eb D E next l)) : H0 w0 w (dfR db nb eb D E next (a :: b :: l)) := H0.perm h (dfR_front.trans (dfR_front.cons a))
theorem df_pop2 {a b : Res} (h : H0 w0 w (dfR db nb eb D E next (a :: b :: l))) : H0 w0 w (a :: b :: dfR db nb eb D E next l) := H0.perm h (dfR_front.trans (dfR_front.cons a)).symm
set_option maxHeartbeats 16000000 in
theorem together_calls (h : H0 w0 w (dfR db nb eb (mark A D) E next l)) (hn : (D.map DN.id).Nodup) (hl : D.length ≤ 16) (hnx : next ≤ 1000) (hD : ∀ d ∈ D, WfI d.id ∧ 1 ≤ d.id ∧ d.id < next) (r : DN) (hr : r ∈ D) (hr1 : r.id = 1) (hrk : r.kind = ⟨#[100]⟩) (hru : r.up = 1) (nv : DN → NV) (hm : MadeOk w0 db nb eb A D E next nv) :
    Calls Tryz.prog 79 #[.pointer (some ⟨db, 0, none⟩)] w fun e w' => ∃ (v : Value) (F : List DN), e = .returned (.tuple #[v, .bool true]) ∧ F.Perm D ∧ H0 w0 w' (rowNd v (F.map nv) :: dfR db nb eb (mark A D) E next l) := by
  obtain ⟨c0, _, c2, _⟩ := df_cells h
  obtain ⟨hlk, _⟩ := df_look h hn hr (hD r hr).1
  rw [hr1] at hlk
  have hdn := df_dn h hr
  have b0 := hdn.1
  have b1 := hdn.2.1
  rw [hrk] at b0
  rw [hru] at b1
  have hs := Hold.sat h (.obj nb (P.IsMapP ((mark A D).map DN.pv))) (by simp [dfR])
  have hlen : ∀ ty, (Builtin.len_ #[116] ty #[.map (some nb)]).run Tryz.prog w = .ok (.int .i64 D.length) w := fun ty => by
    have := P.len116 hs ty
    rw [mark_pv, List.length_map] at this
    exact this
  rw [mark_pv] at hs
  obtain ⟨M, hown, hmm⟩ := P.sat_owns hs
  rw [List.length_map] at hown
  have hmn : ((D.map DN.pv).map P.PV.id).Nodup := by rw [dn_ids]; exact hn
  have hmw : ∀ v ∈ D.map DN.pv, WfI v.id := fun v hv => by
    obtain ⟨d, hd, rfl⟩ := List.mem_map.1 hv
    exact (hD d hd).1
  obtain ⟨br, hbr⟩ : ∃ br, r.blk = br := ⟨_, rfl⟩
  rw [hbr] at hlk b0 b1
  have hz1 : ¬ (16 : Int) < (D.length : Int) := by omega
  have hz2 : ¬ (1000 : Int) < next := by omega
  have hz3 : ¬ 16 < D.length := by omega
  have HCm := hide (P.came_start hmm)
  have Hsz : Hid (Maps.size M = D.length) := by show _ = _; rw [hmm.size, List.length_map]
  have HM := hide hmm
  have H1 := hide h
  have Hmn := hide hmn
  have Hmw := hide hmw
  have HN := hide hn
  have HDw := hide hD
  have HMd := hide hm
  have Hl16 := hide hl
  clear h hn hl hD hmm hmn hmw hs hdn hr hr1 hrk hru hm hbr
  go_enter Tryz.func79, Tryz.ntmps79
  go_wp2_with (first | (at_range; refine wpList_range_own _ rfl _ 116 rfl 3 167 kI Tryz.underlying116 Rv nb _ M rfl hown ?_; intro w1 hrg1 hg1 hs1) | go_in)
  try go_frame
  have hb1 : Below w.heap.size w w1 := (Below.refl _ w).grown hg1 (Nat.le_refl _) (fun j hj => by cases hj)
  have h2 := H0.nilRow33 (H0.foundObj (unhide H1) hb1 (b := w.heap.size) (Nat.le_refl _) (by omega))
  have H2 := hide h2
  have Hrg := hide hrg1
  clear h2 hb1 hg1 hs1 hown hrg1 c0 c2 H1 hlk b0 b1 hlen hz1 hz2 hz3
  go_wp2_with fail
  go_loopg [6] (D.length + 1) (fun k v6 wr => ∃ (acc : List P.PV) (left : Lit → Bool) (cnt : Nat) (F : List DN) (u6 : Value), u6 = v6 ∧ cnt < k ∧ nb < wr.heap.size ∧ w.heap.size < wr.heap.size ∧ Hid (wr.ranges Tryz.prog 3 Rv nb w.heap.size D.length M left cnt) ∧ Hid (P.Came (D.map DN.pv) acc left) ∧ Hid (acc = F.map DN.pv ∧ ∀ d ∈ F, d ∈ D) ∧ Hid (H0 w0 wr (rowNd u6 (F.map nv) :: someB w.heap.size :: dfR db nb eb (mark A D) E next l)))
  case atStart => exact ⟨[], _, _, [], _, rfl, by have := unhide Hsz; omega, (unhide Hrg).owns.lt, (unhide Hrg).lt, Hrg, HCm, ⟨rfl, by simp⟩, unhide H2⟩
  case round =>
    obtain ⟨acc, left, cnt, F, u6, rfl, hk, hnb, hrb, Hrg3, HC3, HF3, HI3⟩ := hrel
    clear Hrg H2 HCm Hsz
    have hrg := unhide Hrg3
    go_wp2_with (first | (at_next; refine wpList_next_ranges _ rfl _ rfl 3 kI Rv (Value.int .i64) id (fun key kl hkey => (by obtain ⟨x, hx, _⟩ := Maps.keyOf_int_inv Tryz.underlying3 hkey; exact ⟨x, hx⟩)) (fun v y hv => ⟨v, rfl⟩) nb w.heap.size D.length M left cnt rfl hrg ?_ ?_) | go_in)
    · intro hc0 hl0
      have hperm := P.Came.all (unhide HC3) (unhide Hmn) (unhide Hmw) hl0
      rw [(unhide HF3).1] at hperm
      have hfn : (F.map DN.id).Nodup := by
        have := hperm.map P.PV.id
        rw [dn_ids, dn_ids] at this
        exact this.nodup_iff.2 (unhide HN)
      have hFn : F.Nodup := (List.pairwise_map.1 hfn).imp fun hne e => hne (by rw [e])
      have hEn : D.Nodup := (List.pairwise_map.1 (unhide HN)).imp fun hne e => hne (by rw [e])
      have hFEp : F.Perm D := (List.perm_ext_iff_of_nodup hFn hEn).2 fun e => ⟨(unhide HF3).2 e, fun he => by
        have h1 : e.pv ∈ F.map DN.pv := hperm.mem_iff.2 (List.mem_map.2 ⟨e, he, rfl⟩)
        obtain ⟨e2, he2, e3⟩ := List.mem_map.1 h1
        have h4 : e2.id = e.id := congrArg P.PV.id e3
        have : e2 = e := nodup_inj DN.id (unhide HN) ((unhide HF3).2 e2 he2) he h4
        rw [← this]; exact he2⟩
      have Hp := hide hFEp
      clear hperm hfn hFn hEn hFEp hc0 hl0 hrg
      go_wp2_with fail
      refine bodyPost_ret (results_tmp2 rfl _ _ _) rfl ?_
      exact ⟨u6, F, rfl, unhide Hp, Hold.conv (unhide HI3) (fun x => by simp only [total_cons]; omega) fun r hr => Hold.sat (unhide HI3) r (by
        rcases List.mem_cons.1 hr with hr | hr
        · simp [hr]
        · simp [hr])⟩
    · intro x c kl y1 y2 w2 cnt2 hkey hlk hv hat hrg2 hlt hgr hsz2 hen
      obtain ⟨x', ex, hkl, hwx⟩ := Maps.keyOf_int_inv Tryz.underlying3 hkey
      cases ex
      subst hkl
      have hy : y1 = .held c := by
        have : some ((.held c, []) : DataW Value × List MemPlace) = some (y1, y2) := hv
        exact (congrArg Prod.fst (Option.some.inj this)).symm
      subst hy
      obtain ⟨u, hu, hcu⟩ : ∃ u, P.findP (D.map DN.pv) x = some u ∧ c = u.val := by
        have hl := fun z => (unhide HM).look x z hwx
        cases hf : P.findP (D.map DN.pv) x with
        | none =>
          exfalso
          have h1 := hl (.lit (.bool true))
          rw [hat, hf] at h1
          cases h1
        | some u =>
          refine ⟨u, rfl, ?_⟩
          have h1 := hl (.lit (.bool true))
          rw [hat, hf] at h1
          exact DataW.held.inj h1
      subst hcu
      have hmore := P.Came.more (unhide HC3) (u := u) (by rw [(P.findP_some hu).2]; exact hwx) (by rw [(P.findP_some hu).2]; exact hu) (by rw [(P.findP_some hu).2]; exact hlk)
      obtain ⟨d, hd, rfl⟩ := List.mem_map.1 (P.findP_some hu).1
      have hex : d.id = x := (P.findP_some hu).2
      subst hex
      have h3 : H0 w0 w2 (rowNd u6 (F.map nv) :: someB w.heap.size :: dfR db nb eb (mark A D) E next l) := H0.turned [_] (unhide HI3) hgr
      have hdv : d.pv.val = .pointer (some ⟨d.blk, 0, none⟩) := rfl
      rw [hdv] at hen
      obtain ⟨hmid, hmade⟩ := unhide HMd d hd
      have hmd := hmade w2 _ (df_push2 h3)
      have hnb2 : nb < w2.heap.size := hrg2.owns.lt
      have hrb2 : w.heap.size < w2.heap.size := hrg2.lt
      obtain ⟨_, hd1, hd2⟩ := unhide HDw d hd
      have hz1 : ¬ d.id < 1 := by omega
      have hz2 : ¬ next ≤ d.id := by omega
      have hFl : (F.map nv).length ≤ 1000 := by
        have h2 := P.nodup_subP (unhide HC3).nodup (unhide HC3).sub
        rw [(unhide HF3).1, List.length_map, List.length_map] at h2
        have := unhide Hl16
        rw [List.length_map]; omega
      have Hmore : Hid (P.Came (D.map DN.pv) (acc ++ [d.pv]) (fun z => left z && !z.sameKey (.int .i64 d.id))) := hmore
      have HMade := hide hmd
      have Hrg2 := hide hrg2
      have Hd := hide hd
      have HFl := hide hFl
      obtain ⟨bd, hbd⟩ : ∃ bd, d.blk = bd := ⟨_, rfl⟩
      rw [hbd] at hen HMade
      clear hkey hlk hv hat hrg2 hgr hsz2 hrg hmore h3 hmd hmade HC3 Hrg3 hu hwx hd hdv HI3 hFl hbd hnb hrb
      go_wp2_with fail
      refine (unhide HMade).mono ?_
      rintro e4 w4 ⟨rfl, h4, hb4⟩
      have hnb4 : nb < w4.heap.size := Nat.lt_of_lt_of_le hnb2 hb4.size
      have hrb4 : w.heap.size < w4.heap.size := Nat.lt_of_lt_of_le hrb2 hb4.size
      have hrg4 := ranges_same (unhide Hrg2) (hb4.block nb hnb2) (hb4.block _ hrb2)
      obtain ⟨u, hu⟩ : ∃ u, nv d = u := ⟨_, rfl⟩
      rw [hu]
      have h5 := H0.step h4 ((Below.refl _ w4).alloc (Nat.le_refl _) (.cells #[.int .i64 u.id, .int .i64 u.kind, .int .i64 u.up, .int .i64 u.links, .string u.text] 33))
      have hrg5 := hrg4.alloc (.cells #[.int .i64 u.id, .int .i64 u.kind, .int .i64 u.up, .int .i64 u.links, .string u.text] 33)
      have c2 := (df_cells h5).2.2.1
      obtain ⟨w5, hw5⟩ : ∃ w5, w4.alloc (.cells #[.int .i64 u.id, .int .i64 u.kind, .int .i64 u.up, .int .i64 u.links, .string u.text] 33) = w5 := ⟨_, rfl⟩
      have hx := cell_list_new w4 [.int .i64 u.id, .int .i64 u.kind, .int .i64 u.up, .int .i64 u.links, .string u.text] 33
      have hs5 : w5.heap.size = w4.heap.size + 1 := by rw [← hw5, World.size_alloc]
      have hx5 : ∀ j v, [Value.int .i64 u.id, .int .i64 u.kind, .int .i64 u.up, .int .i64 u.links, .string u.text][j]? = some v → w5.cell? ⟨w4.heap.size, j, none⟩ = some v := fun j v hv => by
        rw [← hw5]
        have := hx j v hv
        rw [Addr.add_lit, Nat.zero_add] at this
        exact this
      have x0 := hx5 0 _ rfl
      have x1 := hx5 1 _ rfl
      have x2 := hx5 2 _ rfl
      have x3 := hx5 3 _ rfl
      have x4 := hx5 4 _ rfl
      rw [hw5] at h5 hrg5 c2
      have h6 := H0.step (df_pop2 h5) ((Below.refl _ w5).alloc (Nat.le_refl _) (.cells #[.int .i64 u.id, .int .i64 u.kind, .int .i64 u.up, .int .i64 u.links, .string u.text] 33))
      have hrg6 := hrg5.alloc (.cells #[.int .i64 u.id, .int .i64 u.kind, .int .i64 u.up, .int .i64 u.links, .string u.text] 33)
      obtain ⟨v7, w7, hap, h7, hgw⟩ := H0.appN [] h6 (u := u) (heap_alloc_new w5 _) (unhide HFl) 27
      have hap2 := tg_apart h6
      have hrg7 := hrg6.kept hgw hap2.1 hap2.2
      have hnb7 : nb < w7.heap.size := hrg7.owns.lt
      have hrb7 : w.heap.size < w7.heap.size := hrg7.lt
      have H7 : Hid (H0 w0 w7 (rowNd v7 ((F ++ [d]).map nv) :: someB w.heap.size :: dfR db nb eb (mark A D) E next l)) := by
        show H0 _ _ _
        rw [List.map_append, List.map_cons, List.map_nil, hu]
        exact h7
      have HAp := hide hap
      have Hrg7 := hide hrg7
      clear h4 hb4 hrg4 h5 hrg5 h6 hrg6 h7 hap hgw hap2 hrg7 hx hx5 HMade Hrg2 hnb4 hrb4 hnb2 hrb2 hu hmid HFl hs5
      go_wp2_with (at_builtin; refine wpList_appendI rfl _ _ 27 27 rfl _ _ rfl rfl (unhide HAp) ?_)
      go_roundg cnt
      case measure => omega
      case rel => exact ⟨acc ++ [d.pv], _, cnt2, F ++ [d], v7, rfl, hlt, hnb7, hrb7, Hrg7, Hmore, ⟨by rw [(unhide HF3).1]; simp, fun z hz => by
        rcases List.mem_append.1 hz with hz | hz
        · exact (unhide HF3).2 z hz
        · rw [List.mem_singleton.1 hz]; exact unhide Hd⟩, H7⟩
end Go.Proofs.YtjpmomklkkifjaaGreatDoor.T
namespace Go.Proofs.YtjpmomklkkifjaaGreatDoor.T
open Go.RowKit
set_option maxRecDepth 100000
set_option linter.unusedVariables false
set_option linter.unusedSimpArgs false

def putAll (L : List Item) : List Item := L.foldl putL []
theorem putAll_snoc (L : List Item) (x : Item) : putAll (L ++ [x]) = putL (putAll L) x := by unfold putAll; rw [List.foldl_append]; rfl

variable {w0 w : World} {fb mb : Nat} {N : List NV} {F : Forest} {next : Int} {l2 : List Res}
theorem setF_head {tb : Nat} {L L' : List Item} (h : tb ∉ F.map (·.1)) : setF ((tb, L) :: F) tb L' = (tb, L') :: F := by
  unfold setF
  rw [List.map_cons]
  simp only [beq_self_eq_true, if_true]
  congr 1
  conv => rhs; rw [← List.map_id F]
  refine List.map_congr_left fun x hx => ?_
  have : x.1 ≠ tb := fun e => h (by rw [← e]; exact List.mem_map.2 ⟨x, hx, rfl⟩)
  rw [if_neg (by simpa using this)]
  rfl
theorem put_head {tb : Nat} {L : List Item} (h : FSIn w0 w fb mb N ((tb, L) :: F) next l2) (it : Item) (hk : it.key.toList.isEmpty = false) :
    Calls Tryz.prog 150 #[.pointer (some ⟨tb, 0, none⟩), .string it.key, .agg #[.string it.name, .int .i64 it.node]] w fun e w' => e = .returned (.tuple #[]) ∧ FSIn w0 w' fb mb N ((tb, putL L it) :: F) next l2 := by
  have hnd := h.nodup
  rw [List.map_cons, List.nodup_cons] at hnd
  obtain ⟨rest, hT, hback⟩ := h.tree (tb := tb) (by simp)
  have hl : lookF ((tb, L) :: F) tb = L := by simp [lookF]
  rw [hl] at hT
  refine (treePut_calls _ _ _ w tb L it rest hT hk).mono ?_
  intro e w' hE
  obtain ⟨he, hT'⟩ := hE
  refine ⟨he, ?_⟩
  have := hback w' _ hT'
  rw [setF_head hnd.1] at this
  exact this
theorem entry_name {it : Item} (h1 : it.key = keyS it.name) (h2 : checkP it.name = none) : it.key.toList.isEmpty = false := by rw [h1]; exact key_full h2

set_option maxHeartbeats 8000000 in
theorem nodeOf_ents (hR : Ready w0) (h : FSIn w0 w fb mb N F next l2) (id up links : Int) (text : ByteArray) {v : Value} {L : List Item} (hm : rowE v L ∈ l2) (hl : L.length ≤ 1000) (hL : ∀ x ∈ L, x.key = keyS x.name ∧ checkP x.name = none) :
    Calls Tryz.prog 105 #[.agg #[.int .i64 id, .int .i64 1, .int .i64 up, .int .i64 links, .string text], v] w fun e w' => ∃ tb, e = .returned (.agg #[.int .i64 id, .int .i64 1, .int .i64 up, .int .i64 links, .string text, .pointer (some ⟨tb, 0, none⟩)]) ∧ FSIn w0 w' fb mb N ((tb, putAll L) :: F) next l2 := by
  obtain ⟨B, hB⟩ : ∃ B, w.heap.size = B := ⟨_, rfl⟩
  have h1 := (h.made 33 [.int .i64 id, .int .i64 1, .int .i64 up, .int .i64 links, .string text]).made 80 [.int .i64 0, .int .i64 0, .int .i64 0, .int .i64 0, .string ⟨#[]⟩, .pointer none]
  have hz : (w.alloc (.cells [.int .i64 id, .int .i64 1, .int .i64 up, .int .i64 links, .string text].toArray 33)).heap.size = B + 1 := by simp [hB]
  rw [hz, hB] at h1
  have hn := newTree_calls h1
  have HNw := hide hn
  have hrow0 := h.rowAt (v := v) (e := 38) (k := 2) hm
  obtain ⟨p, c, rfl⟩ := row_cut hrow0
  have HKy : Hid (∀ x ∈ L, ∀ wx l, (∃ G, FSIn w0 wx fb mb N G next l) → Calls Tryz.prog 54 #[.string x.name] wx fun e w' => e = .returned (.string x.key) ∧ Below wx.heap.size wx w') := fun x hx wx l ⟨G, hg⟩ => by
    rw [(hL x hx).1]
    exact key_calls (hL x hx).2 wx (hg.ready hR)
  have HPt : Hid (∀ x ∈ L, ∀ wx tb M l, FSIn w0 wx fb mb N ((tb, M) :: F) next l → Calls Tryz.prog 150 #[.pointer (some ⟨tb, 0, none⟩), .string x.key, .agg #[.string x.name, .int .i64 x.node]] wx fun e w' => e = .returned (.tuple #[]) ∧ FSIn w0 w' fb mb N ((tb, putL M x) :: F) next l) := fun x hx wx tb M l hg => put_head hg x (entry_name (hL x hx).1 (hL x hx).2)
  obtain ⟨m, hmm⟩ : ∃ m, L.length = m := ⟨_, rfl⟩
  have Hm := hide hm
  have Hmm := hide hmm
  rw [hmm] at hl hm ⊢
  clear h h1 hz hn hrow0 hL
  go_enter Tryz.func105, Tryz.ntmps105
  go_wp2_with fail
  refine (unhide HNw).mono ?_
  rintro e w2 ⟨tb, rfl, h2⟩
  have H2 : Hid (FSIn w0 w2 fb mb N ((tb, putAll (L.take 0)) :: F) next (.cell (B + 1) 80 [.int .i64 0, .int .i64 0, .int .i64 0, .int .i64 0, .string ⟨#[]⟩, .pointer none] :: .cell B 33 [.int .i64 id, .int .i64 1, .int .i64 up, .int .i64 links, .string text] :: l2)) := h2
  clear h2 HNw hB hm hmm
  go_wp2_with fail
  go_loopg [16] (m + 1) (fun g vi wr => ∃ i : Nat, m - i < g ∧ i ≤ m ∧ vi = .int .i64 i ∧ Hid (FSIn w0 wr fb mb N ((tb, putAll (L.take i)) :: F) next (.cell (B + 1) 80 [.int .i64 0, .int .i64 0, .int .i64 0, .int .i64 0, .string ⟨#[]⟩, .pointer none] :: .cell B 33 [.int .i64 id, .int .i64 1, .int .i64 up, .int .i64 links, .string text] :: l2)))
  case atStart => exact ⟨0, by omega, by omega, rfl, H2⟩
  case round =>
    obtain ⟨i, hg, hi, rfl, HI⟩ := hrel
    clear H2
    by_cases him : i < m
    · have hiz : (i : Int) < (m : Int) := by omega
      have hil : i < L.length := by rw [unhide Hmm]; exact him
      obtain ⟨x, hx⟩ : ∃ x, L[i]? = some x := ⟨L[i], by simp [hil]⟩
      have hxm := List.mem_of_getElem? hx
      have hrow := (unhide HI).rowAt (v := .slice p L.length c) (e := 38) (k := 2) (.tail _ (.tail _ (unhide Hm)))
      rw [unhide Hmm] at hrow
      obtain ⟨g1, cap, e5, _⟩ := row_shape hrow (by omega)
      injection e5 with e5 _ e6
      subst e5 e6
      obtain ⟨r0, r1⟩ := entry_cell hrow hx
      have h3 := (unhide HI).alloc (.cells #[.string x.name, .int .i64 x.node] 38)
      have hky := fun wx (hx2 : FSIn w0 wx fb mb N ((tb, putAll (L.take i)) :: F) next (.cell (B + 1) 80 [.int .i64 0, .int .i64 0, .int .i64 0, .int .i64 0, .string ⟨#[]⟩, .pointer none] :: .cell B 33 [.int .i64 id, .int .i64 1, .int .i64 up, .int .i64 links, .string text] :: l2)) => unhide HKy x hxm wx _ ⟨_, hx2⟩
      have hpt := fun wx (hx2 : FSIn w0 wx fb mb N ((tb, putAll (L.take i)) :: F) next (.cell (B + 1) 80 [.int .i64 0, .int .i64 0, .int .i64 0, .int .i64 0, .string ⟨#[]⟩, .pointer none] :: .cell B 33 [.int .i64 id, .int .i64 1, .int .i64 up, .int .i64 links, .string text] :: l2)) => unhide HPt x hxm wx tb _ _ hx2
      have htk : putAll (L.take (i + 1)) = putL (putAll (L.take i)) x := by rw [List.take_add_one, hx]; exact putAll_snoc _ _
      obtain ⟨C, hC⟩ : ∃ C, wr.heap.size = C := ⟨_, rfl⟩
      have hx0 := cell_list_new wr [.string x.name, .int .i64 x.node] 38
      obtain ⟨w4, hw4⟩ : ∃ w4, wr.alloc (.cells #[.string x.name, .int .i64 x.node] 38) = w4 := ⟨_, rfl⟩
      have hCs : C < w4.heap.size := by rw [← hw4, World.size_alloc, hC]; omega
      have y0 : w4.cell? ⟨C, 0, none⟩ = some (.string x.name) := by rw [← hw4, ← hC]; exact hx0 0 _ rfl
      have y1 : w4.cell? ⟨C, 1, none⟩ = some (.int .i64 x.node) := by rw [← hw4, ← hC]; exact hx0 1 _ rfl
      rw [hw4] at h3
      rw [← htk] at hpt
      have H4 := hide h3
      have HK2 := hide hky
      have HP2 := hide hpt
      have HCs := hide hCs
      obtain ⟨xn, hxn⟩ : ∃ xn, x.name = xn := ⟨_, rfl⟩
      obtain ⟨xd, hxd⟩ : ∃ xd, x.node = xd := ⟨_, rfl⟩
      obtain ⟨xk, hxk⟩ : ∃ xk, x.key = xk := ⟨_, rfl⟩
      rw [hxn] at r0 y0 HK2 HP2 hw4
      rw [hxd] at r1 y1 HP2 hw4
      rw [hxk] at HK2 HP2
      clear h3 hky hpt hrow hx hil hxm hx0 htk hxn hxd hxk hCs
      go_wp2_with fail
      go_region_with (first | (go_at_call 54; refine (unhide HK2 _ (FSIn.drew (unhide H4))).mono ?_; rintro e w5 ⟨rfl, hb5⟩; have h5 := (FSIn.drew (unhide H4)).step hb5; have z0 := cell_later hb5 (show w4.drew.cell? ⟨C, 0, none⟩ = some (.string xn) from y0); have z1 := cell_later hb5 (show w4.drew.cell? ⟨C, 1, none⟩ = some (.int .i64 xd) from y1); have H5 := hide h5; clear h5 hb5) | (go_at_call 150; refine (unhide HP2 _ (unhide H5)).mono ?_; rintro e w6 ⟨rfl, h6⟩; have H6 := hide h6; clear h6))
      all_goals
        go_wp2_with fail
        go_roundg (m - i)
        case measure => omega
        case rel => exact ⟨i + 1, by omega, by omega, by simp, unhide H6⟩
    · have hiz : ¬ (i : Int) < (m : Int) := by omega
      have h3 := unhide HI
      rw [List.take_of_length_le (by rw [unhide Hmm]; omega)] at h3
      have b0 : wr.cell? ⟨B, 0, none⟩ = some (.int .i64 id) := h3.cellAt (.tail _ (.head _)) rfl
      have b1 : wr.cell? ⟨B, 1, none⟩ = some (.int .i64 1) := h3.cellAt (.tail _ (.head _)) rfl
      have b2 : wr.cell? ⟨B, 2, none⟩ = some (.int .i64 up) := h3.cellAt (.tail _ (.head _)) rfl
      have b3 : wr.cell? ⟨B, 3, none⟩ = some (.int .i64 links) := h3.cellAt (.tail _ (.head _)) rfl
      have b4 : wr.cell? ⟨B, 4, none⟩ = some (.string text) := h3.cellAt (.tail _ (.head _)) rfl
      obtain ⟨k0, k1, k2, k3, k4, k5, f0, f1, f2, f3, f4, f5⟩ := h3.six (b := B + 1) (.head _)
      have H3 := hide h3
      clear h3 HI
      go_wp2_with fail
      have h4 := (unhide H3).putsix [] (.int .i64 id) (.int .i64 1) (.int .i64 up) (.int .i64 links) (.string text) (.pointer (some ⟨tb, 0, none⟩))
      refine bodyPost_ret (results_cell_row (p := 4) rfl _ _ (B + 1) _ _ (0, 0) _ rfl (h4.heapAt (t := 80) (.head _)) Tryz.underlying80 rfl (by kernel_rfl)) rfl ?_
      exact ⟨tb, rfl, (h4.forget []).forget []⟩
end Go.Proofs.YtjpmomklkkifjaaGreatDoor.T
namespace Go.Proofs.YtjpmomklkkifjaaGreatDoor.T
open Go.RowKit
set_option maxRecDepth 100000
set_option linter.unusedVariables false
set_option linter.unusedSimpArgs false

def itemsOf (E : List DE) (i : Int) : List Item := match E.find? (fun e => e.folder == i) with | some e => e.items | none => []
def entsOfE (E : List DE) (u : NV) : List Item := if u.kind = 1 then putAll (itemsOf E u.id) else []
structure Built1 (E : List DE) (F' : Forest) (u v : NV) : Prop where
  id : v.id = u.id
  kind : v.kind = u.kind
  up : v.up = u.up
  links : v.links = u.links
  text : v.text = u.text
  ents : entsK F' v = entsOfE E u
  tree : v.kind = 1 → ∃ tb, v.tb = some tb ∧ tb ∈ F'.map (·.1)
inductive Built (E : List DE) (F' : Forest) : List NV → List NV → Prop
  | nil : Built E F' [] []
  | snoc {A B : List NV} {u v : NV} : Built E F' A B → Built1 E F' u v → Built E F' (A ++ [u]) (B ++ [v])
theorem Built.more {E : List DE} {F' : Forest} {A B : List NV} {tb : Nat} {L : List Item} (h : Built E F' A B) (hn : tb ∉ F'.map (·.1)) : Built E ((tb, L) :: F') A B := by
  induction h with
  | nil => exact .nil
  | snoc _ ht ih => exact .snoc ih ⟨ht.id, ht.kind, ht.up, ht.links, ht.text, by rw [entsK_new ht.tree hn]; exact ht.ents, fun hk => by obtain ⟨t, e, ht⟩ := ht.tree hk; exact ⟨t, e, by simp; exact .inr (by simpa using ht)⟩⟩
theorem Built.ids {E : List DE} {F' : Forest} {A B : List NV} (h : Built E F' A B) : B.map NV.id = A.map NV.id := by
  induction h with
  | nil => rfl
  | snoc _ ht ih => rw [List.map_append, List.map_append, ih, List.map_cons, List.map_cons, ht.id]
theorem H0.fsN {w0 w : World} {l2 : List Res} (h : H0 w0 w l2) (hb : w0.heap.size ≤ w.heap.size) (next : Int) : FSIn w0 ((w.alloc (.map #[] 0)).alloc (.cells #[.map (some w.heap.size), .int .i64 next] 77)) (w.heap.size + 1) w.heap.size [] [] next l2 := by
  have h1 := Hold.mapNew h hb
  have h2 := Hold.made h1 (by simp; omega) 77 [.map (some w.heap.size), .int .i64 next]
  rw [World.size_alloc] at h2
  exact ⟨[], .nil, h2⟩
def NewNode (E : List DE) (F' F2 : Forest) (u v : NV) : Prop :=
  v.id = u.id ∧ v.kind = u.kind ∧ v.up = u.up ∧ v.links = u.links ∧ v.text = u.text ∧ ((u.kind ≠ 1 ∧ F2 = F' ∧ v.tb = none) ∨ (u.kind = 1 ∧ ∃ tb, tb ∉ F'.map (·.1) ∧ F2 = (tb, putAll (itemsOf E u.id)) :: F' ∧ v.tb = some tb))
theorem Built.add {E : List DE} {F' F2 : Forest} {A B : List NV} {u v : NV} (h : Built E F' A B) (hn : NewNode E F' F2 u v) : Built E F2 (A ++ [u]) (B ++ [v]) := by
  obtain ⟨h1, h2, h3, h4, h5, h6⟩ := hn
  rcases h6 with ⟨hk, rfl, ht⟩ | ⟨hk, tb, hf, rfl, ht⟩
  · refine .snoc h ⟨h1, h2, h3, h4, h5, ?_, fun hv => absurd (h2 ▸ hv) hk⟩
    unfold entsK entsOfE
    rw [h2, if_neg hk, if_neg hk]
  · refine .snoc (h.more hf) ⟨h1, h2, h3, h4, h5, ?_, fun _ => ⟨tb, ht, by simp⟩⟩
    unfold entsK entsOfE entsOf
    rw [h2, if_pos hk, if_pos hk, ht]
    simp [lookF]

variable {w0 w : World} {l0 : List Res} {E : List DE} {eb : Nat}
theorem look_ents (h : Res.Sat w0.heap.size w (.obj eb (P.IsMapP (E.map DE.pv)))) (hn : (E.map DE.folder).Nodup) {i : Int} (hi : WfI i) :
    (∃ e ∈ E, e.folder = i ∧ itemsOf E i = e.items ∧ (Instr.lookup 117 (.map (some eb)) (.int .i64 i) false).run Tryz.prog w = .ok e.v w) ∨ ((∀ e ∈ E, e.folder ≠ i) ∧ itemsOf E i = [] ∧ (Instr.lookup 117 (.map (some eb)) (.int .i64 i) false).run Tryz.prog w = .ok (.slice none 0 0) w) := by
  have h1 := P.look117 h hi
  unfold P.atP at h1
  have hfind : E.find? (fun e => e.folder == i) = none ∧ (P.findP (E.map DE.pv) i = none) ∨ ∃ e, E.find? (fun e => e.folder == i) = some e ∧ P.findP (E.map DE.pv) i = some e.pv := by
    clear h h1 hn
    induction E with
    | nil => exact .inl ⟨rfl, rfl⟩
    | cons e E ih =>
      by_cases he : (e.folder == i) = true
      · exact .inr ⟨e, List.find?_cons_of_pos (p := fun e : DE => e.folder == i) he, by unfold P.findP; exact List.find?_cons_of_pos (p := fun v : P.PV => v.id == i) (a := e.pv) he⟩
      · rcases ih with ⟨a, b⟩ | ⟨x, a, b⟩
        · exact .inl ⟨(List.find?_cons_of_neg (p := fun e : DE => e.folder == i) he).trans a, by unfold P.findP at b ⊢; exact (List.find?_cons_of_neg (p := fun v : P.PV => v.id == i) (a := e.pv) he).trans b⟩
        · exact .inr ⟨x, (List.find?_cons_of_neg (p := fun e : DE => e.folder == i) he).trans a, by unfold P.findP at b ⊢; exact (List.find?_cons_of_neg (p := fun v : P.PV => v.id == i) (a := e.pv) he).trans b⟩
  rcases hfind with ⟨a, b⟩ | ⟨e, a, b⟩
  · refine .inr ⟨fun e he e2 => ?_, by unfold itemsOf; rw [a], by rw [b] at h1; exact h1⟩
    have := List.find?_eq_none.1 a e he
    exact this (by simpa using e2)
  · refine .inl ⟨e, List.mem_of_find?_eq_some a, by have := List.find?_some a; simpa using this, by unfold itemsOf; rw [a], by rw [b] at h1; exact h1⟩
theorem nodeOf_any (hR : Ready w0) {fb mb : Nat} {N' : List NV} {F' : Forest} {next : Int} {lx : List Res} (h : FSIn w0 w fb mb N' F' next lx) (u : NV) (ev : Value) (hev : (u.kind = 1 ∧ rowE ev (itemsOf E u.id) ∈ lx ∧ (itemsOf E u.id).length ≤ 1000 ∧ ∀ x ∈ itemsOf E u.id, x.key = keyS x.name ∧ checkP x.name = none) ∨ (ev = .slice none 0 0 ∧ (u.kind = 1 → itemsOf E u.id = []))) :
    Calls Tryz.prog 105 #[.agg #[.int .i64 u.id, .int .i64 u.kind, .int .i64 u.up, .int .i64 u.links, .string u.text], ev] w fun e w' => ∃ v F2, e = .returned v.val ∧ NewNode E F' F2 u v ∧ FSIn w0 w' fb mb N' F2 next lx := by
  have fresh : ∀ {w' : World} {tb : Nat} {L : List Item}, FSIn w0 w' fb mb N' ((tb, L) :: F') next lx → tb ∉ F'.map (·.1) := fun hx => by
    have := hx.nodup
    rw [List.map_cons, List.nodup_cons] at this
    exact this.1
  rcases hev with ⟨hk, hm, hl, hL⟩ | ⟨rfl, hk0⟩
  · rw [hk]
    refine (nodeOf_ents hR h u.id u.up u.links u.text hm hl hL).mono ?_
    rintro e w' ⟨tb, rfl, h2⟩
    exact ⟨⟨u.id, 1, u.up, u.links, u.text, some tb⟩, _, rfl, ⟨rfl, hk.symm, rfl, rfl, rfl, .inr ⟨hk, tb, fresh h2, rfl, rfl⟩⟩, h2⟩
  · by_cases hk : u.kind = 1
    · rw [hk]
      refine (nodeOf_folder w0 w fb mb N' F' next lx h u.id u.up u.links u.text).mono ?_
      rintro e w' ⟨tb, rfl, h2⟩
      exact ⟨⟨u.id, 1, u.up, u.links, u.text, some tb⟩, _, rfl, ⟨rfl, hk.symm, rfl, rfl, rfl, .inr ⟨hk, tb, fresh h2, by rw [hk0 hk]; rfl, rfl⟩⟩, h2⟩
    · refine (nodeOf_file w0 w fb mb N' F' next lx h u.id u.kind u.up u.links u.text hk).mono ?_
      rintro e w' ⟨rfl, h2⟩
      exact ⟨⟨u.id, u.kind, u.up, u.links, u.text, none⟩, _, rfl, ⟨rfl, rfl, rfl, rfl, rfl, .inl ⟨hk, rfl, rfl⟩⟩, h2⟩

set_option maxHeartbeats 8000000 in
theorem of_all (hR : Ready w0) (h : H0 w0 w l0) (he : Res.obj eb (P.IsMapP (E.map DE.pv)) ∈ l0) (hrows : ∀ e ∈ E, rowE e.v e.items ∈ l0) {vN : Value} {L : List NV} (hL : rowNd vN L ∈ l0) (hl : L.length ≤ 16) (hl0 : 0 < L.length) (hid : ∀ u ∈ L, WfI u.id) (hnd : (L.map NV.id).Nodup) (hE : (E.map DE.folder).Nodup)
    (hI : ∀ e ∈ E, e.items.length ≤ 1000 ∧ (∀ x ∈ e.items, x.key = keyS x.name ∧ checkP x.name = none)) (hk : ∀ u ∈ L, u.kind ≠ 1 → ∀ e ∈ E, e.folder ≠ u.id) (next : Int) :
    Calls Tryz.prog 80 #[vN, .map (some eb), .int .i64 next] w fun e w' => ∃ fb mb N' F', e = .returned (.pointer (some ⟨fb, 0, none⟩)) ∧ Built E F' L N' ∧ (∀ x ∈ F', ∃ u ∈ L, u.kind = 1 ∧ x.2 = putAll (itemsOf E u.id)) ∧ FSIn w0 w' fb mb N' F' next l0 := by
  have hb0 := (H0.below h).size
  have h1 := H0.fsN h hb0 next
  obtain ⟨mb, hmb⟩ : ∃ mb, w.heap.size = mb := ⟨_, rfl⟩
  rw [hmb] at h1
  obtain ⟨w1, hw1⟩ : ∃ w1, (w.alloc (.map #[] 0)).alloc (.cells #[.map (some mb), .int .i64 next] 77) = w1 := ⟨_, rfl⟩
  rw [hw1] at h1
  have hrow := h1.rowAt (v := vN) (e := 33) (k := 5) hL
  obtain ⟨g, cap, rfl, _⟩ := row_shape hrow hl0
  have hmm := @run_makeMap Tryz.prog
  obtain ⟨n, hn⟩ : ∃ n, L.length = n := ⟨_, rfl⟩
  have Hn := hide hn
  have H1 : Hid (∃ N' F', Built E F' (L.take 0) N' ∧ (∀ x ∈ F', ∃ u ∈ L, u.kind = 1 ∧ x.2 = putAll (itemsOf E u.id)) ∧ FSIn w0 w1 (mb + 1) mb N' F' next l0) := ⟨[], [], .nil, by simp, h1⟩
  have HLm := hide hL
  have HR := hide hR
  have HEm := hide he
  have HRw := hide hrows
  have HId := hide hid
  have HNd := hide hnd
  have HE := hide hE
  have HI := hide hI
  have HK := hide hk
  rw [hn] at hl ⊢
  clear h h1 hrow hR he hrows hid hnd hE hI hk hL hl0 hn
  go_enter Tryz.func80, Tryz.ntmps80
  go_wp2_with fail
  go_loopg [16] (n + 1) (fun k vi wr => ∃ i : Nat, n - i < k ∧ i ≤ n ∧ vi = .int .i64 i ∧ Hid (∃ N' F', Built E F' (L.take i) N' ∧ (∀ x ∈ F', ∃ u ∈ L, u.kind = 1 ∧ x.2 = putAll (itemsOf E u.id)) ∧ FSIn w0 wr (mb + 1) mb N' F' next l0))
  case atStart => exact ⟨0, by omega, by omega, rfl, H1⟩
  case round =>
    obtain ⟨i, hg, hi, rfl, HI2⟩ := hrel
    clear H1
    by_cases hin : i < n
    · have hiz : (i : Int) < (n : Int) := by omega
      have hil : i < L.length := by rw [unhide Hn]; exact hin
      obtain ⟨u, hu⟩ : ∃ u, L[i]? = some u := ⟨L[i], by simp [hil]⟩
      have huL := List.mem_of_getElem? hu
      obtain ⟨N', F', hB, hD, hx⟩ := unhide HI2
      have hrow := hx.rowAt (v := .slice (some ⟨g, 0, none⟩) L.length cap) (e := 33) (k := 5) (unhide HLm)
      rw [unhide Hn] at hrow
      obtain ⟨c0, c1, c2, c3, c4⟩ := node_cell hrow hu
      have hwf := unhide HId u huL
      have h3 := hx.made 33 [.int .i64 u.id, .int .i64 u.kind, .int .i64 u.up, .int .i64 u.links, .string u.text]
      obtain ⟨C, hC⟩ : ∃ C, wr.heap.size = C := ⟨_, rfl⟩
      rw [hC] at h3
      obtain ⟨w4, hw4⟩ : ∃ w4, wr.alloc (.cells [.int .i64 u.id, .int .i64 u.kind, .int .i64 u.up, .int .i64 u.links, .string u.text].toArray 33) = w4 := ⟨_, rfl⟩
      rw [hw4] at h3
      have hw4' : wr.alloc (.cells #[.int .i64 u.id, .int .i64 u.kind, .int .i64 u.up, .int .i64 u.links, .string u.text] 33) = w4 := hw4
      have hlook := look_ents (Hold.sat (FSIn.rest (FSIn.drew h3)) (.obj eb (P.IsMapP (E.map DE.pv))) (.tail _ (unhide HEm))) (unhide HE) hwf
      obtain ⟨ev, hev, hrun⟩ : ∃ ev, ((u.kind = 1 ∧ rowE ev (itemsOf E u.id) ∈ (.cell C 33 [.int .i64 u.id, .int .i64 u.kind, .int .i64 u.up, .int .i64 u.links, .string u.text] :: l0 : List Res) ∧ (itemsOf E u.id).length ≤ 1000 ∧ ∀ x ∈ itemsOf E u.id, x.key = keyS x.name ∧ checkP x.name = none) ∨ (ev = .slice none 0 0 ∧ (u.kind = 1 → itemsOf E u.id = []))) ∧ (Instr.lookup 117 (.map (some eb)) (.int .i64 u.id) false).run Tryz.prog w4.drew = .ok ev w4.drew := by
        rcases hlook with ⟨e, he, hef, hit, hr⟩ | ⟨hno, hit, hr⟩
        · by_cases hk : u.kind = 1
          · exact ⟨e.v, .inl ⟨hk, by rw [hit]; exact .tail _ (unhide HRw e he), by rw [hit]; exact (unhide HI e he).1, by rw [hit]; exact (unhide HI e he).2⟩, hr⟩
          · exact absurd hef (unhide HK u huL hk e he)
        · exact ⟨_, .inr ⟨rfl, fun _ => hit⟩, hr⟩
      have hno := nodeOf_any (E := E) (unhide HR) (FSIn.drew h3) u ev hev
      have hNl : N'.length = i := by
        have := congrArg List.length hB.ids
        simp only [List.length_map, List.length_take] at this
        omega
      have hfresh : u.id ∉ N'.map NV.id := by
        rw [hB.ids]
        intro hm
        obtain ⟨z, hz, hzi⟩ := List.mem_map.1 hm
        obtain ⟨q, hq, hzq⟩ := List.mem_take_iff_getElem.1 hz
        have h7 := List.getElem?_eq_some_iff.1 hu
        obtain ⟨hil2, hui⟩ := h7
        have := (List.nodup_iff_pairwise_ne.1 (unhide HNd))
        rw [List.pairwise_map] at this
        have h8 := List.pairwise_iff_getElem.1 this q i (by omega) hil2 (by omega)
        rw [hui] at h8
        exact h8 (by rw [← hzi, ← hzq])
      have HSx : Hid (∀ wx M G l, FSIn w0 wx (mb + 1) mb M G next l → Res.cell C 33 [.int .i64 u.id, .int .i64 u.kind, .int .i64 u.up, .int .i64 u.links, .string u.text] ∈ l → wx.cell? ⟨mb + 1, 0, none⟩ = some (.map (some mb)) ∧ wx.cell? ⟨C, 0, none⟩ = some (.int .i64 u.id) ∧ wx.cell? ⟨C, 1, none⟩ = some (.int .i64 u.kind) ∧ wx.cell? ⟨C, 2, none⟩ = some (.int .i64 u.up) ∧ wx.cell? ⟨C, 3, none⟩ = some (.int .i64 u.links) ∧ wx.cell? ⟨C, 4, none⟩ = some (.string u.text)) := fun wx M G l hx hm => ⟨hx.map0, hx.cellAt hm rfl, hx.cellAt hm rfl, hx.cellAt hm rfl, hx.cellAt hm rfl, hx.cellAt hm rfl⟩
      have HS0 := hide (unhide HSx _ _ _ _ (FSIn.drew h3) (.head _))
      have hNo2 : Calls Tryz.prog 105 #[.agg #[.int .i64 u.id, .int .i64 u.kind, .int .i64 u.up, .int .i64 u.links, .string u.text], ev] w4.drew fun e w' => ∃ v F2 w6, e = .returned v.val ∧ NewNode E F' F2 u v ∧ Hid (w'.cell? ⟨mb + 1, 0, none⟩ = some (.map (some mb)) ∧ w'.cell? ⟨C, 0, none⟩ = some (.int .i64 u.id) ∧ w'.cell? ⟨C, 1, none⟩ = some (.int .i64 u.kind) ∧ w'.cell? ⟨C, 2, none⟩ = some (.int .i64 u.up) ∧ w'.cell? ⟨C, 3, none⟩ = some (.int .i64 u.links) ∧ w'.cell? ⟨C, 4, none⟩ = some (.string u.text)) ∧ Sem.run Tryz.prog (Instr.mapUpdate 75 (.map (some mb)) (.int .i64 u.id) v.val) w' = .ok () w6 ∧ FSIn w0 w6 (mb + 1) mb (N' ++ [v]) F2 next (.cell C 33 [.int .i64 u.id, .int .i64 u.kind, .int .i64 u.up, .int .i64 u.links, .string u.text] :: l0) := by
        refine hno.mono ?_
        rintro e w' ⟨v, F2, rfl, hnew, h5⟩
        obtain ⟨w6, hput, h6⟩ := h5.mapPut (by omega) v (by rw [hnew.1]; exact hwf)
        rw [putN_snoc (by rw [hnew.1]; exact hfresh)] at h6
        rw [hnew.1] at hput
        exact ⟨v, F2, w6, rfl, hnew, unhide HSx _ _ _ _ h5 (.head _), hput, h6⟩
      have HNo := hide hNo2
      have Hrun := hide hrun
      have HB := hide hB
      have HD := hide hD
      have Hu := hide hu
      have HuL := hide huL
      obtain ⟨pe, ne, ce, hsl⟩ : ∃ p n c, ev = .slice p n c := by
        rcases hev with ⟨_, hm, _⟩ | ⟨rfl, _⟩
        · obtain ⟨p, c, h⟩ := row_cut (h3.rowAt hm)
          exact ⟨p, _, c, h⟩
        · exact ⟨_, _, _, rfl⟩
      subst hsl
      clear hlook hev hno hNo2 hB hD hx h3 hrow hNl hfresh hu huL hwf HI2 hil hw4
      go_wp2_with fail
      go_region_held (fun w' => w'.cell? ⟨mb + 1, 0, none⟩ = some (.map (some mb)) ∧ w'.cell? ⟨C, 0, none⟩ = some (.int .i64 u.id) ∧ w'.cell? ⟨C, 1, none⟩ = some (.int .i64 u.kind) ∧ w'.cell? ⟨C, 2, none⟩ = some (.int .i64 u.up) ∧ w'.cell? ⟨C, 3, none⟩ = some (.int .i64 u.links) ∧ w'.cell? ⟨C, 4, none⟩ = some (.string u.text)) (first | exact unhide HS6 | exact unhide HS5 | exact unhide HS0) ((go_at_call 105; refine (unhide HNo).mono ?_; rintro e w5 ⟨v, F2, w6, rfl, hnew, HS5, hput, h6⟩; have HS6 := hide (unhide HSx _ _ _ _ h6 (.head _)); have H6 := hide h6; have Hnew := hide hnew; clear h6 hnew))
      all_goals
        have h7 : FSIn w0 w6 (mb + 1) mb (N' ++ [v]) F2 next l0 := FSIn.forget [] (unhide H6)
        have hB2 : Built E F2 (L.take (i + 1)) (N' ++ [v]) := by
          rw [take_snoc (unhide Hu)]
          exact (unhide HB).add (unhide Hnew)
        have hD2 : ∀ x ∈ F2, ∃ u ∈ L, u.kind = 1 ∧ x.2 = putAll (itemsOf E u.id) := fun x hx => by
          rcases (unhide Hnew).2.2.2.2.2 with ⟨_, e1, _⟩ | ⟨hk, tb, _, e1, _⟩
          · rw [e1] at hx; exact unhide HD x hx
          · rw [e1] at hx
            rcases List.mem_cons.1 hx with rfl | hx
            · exact ⟨u, unhide HuL, hk, rfl⟩
            · exact unhide HD x hx
        have H7 : Hid (∃ N' F', Built E F' (L.take (i + 1)) N' ∧ (∀ x ∈ F', ∃ u ∈ L, u.kind = 1 ∧ x.2 = putAll (itemsOf E u.id)) ∧ FSIn w0 w6 (mb + 1) mb N' F' next l0) := ⟨_, F2, hB2, hD2, h7⟩
        clear h7 hB2 hD2 H6 HS6 HS5 HS0 hput
        go_wp2_with fail
        go_roundg (n - i)
        case measure => omega
        case rel => exact ⟨i + 1, by omega, by omega, by simp, H7⟩
    · have hiz : ¬ (i : Int) < (n : Int) := by omega
      obtain ⟨N', F', hB, hD, hx⟩ := unhide HI2
      rw [List.take_of_length_le (by rw [unhide Hn]; omega)] at hB
      have HB := hide hB
      have HD := hide hD
      have HX := hide hx
      clear hB hD hx HI2
      go_wp2_with fail
      go_ret
      exact ⟨mb + 1, rfl, mb, N', F', unhide HB, fun p q h => unhide HD (p, q) h, unhide HX⟩
end Go.Proofs.YtjpmomklkkifjaaGreatDoor.T
namespace Go.Proofs.YtjpmomklkkifjaaGreatDoor.T
open Go.RowKit
set_option maxRecDepth 100000
set_option linter.unusedVariables false
set_option linter.unusedSimpArgs false

def dotsB (p : ByteArray) : Bool := p.toList == [46] || p.toList == [46, 46]
noncomputable def upP (s : ByteArray) : Bool := match partsP s with
  | .error _ => true
  | .ok l => l.any dotsB

end Go.Proofs.YtjpmomklkkifjaaGreatDoor.T
namespace Go.Proofs.YtjpmomklkkifjaaGreatDoor.T
open Go.RowKit
set_option maxRecDepth 100000
set_option linter.unusedVariables false
set_option linter.unusedSimpArgs false

theorem no47 {s : ByteArray} (h : checkP s = none) : (47 : UInt8) ∉ s.data.toList := by
  obtain ⟨hn, e, _⟩ := name_of_check h
  rw [e]
  have h1 := encL_no47 (Name.no47 hn)
  simpa [encS] using h1
end Go.Proofs.YtjpmomklkkifjaaGreatDoor.T
