/-
  The contract of FS.Copy: a second one whose nodes and entries tell the same. What the rows of an image are, as plain data; twins have the same; their keys differ.
-/
import Derived.Test.YtjpmomklkkifjaaGreatDoorCFTwin
import Derived.Test.YtjpmomklkkifjaaGreatDoorCISort
namespace Go.Proofs.YtjpmomklkkifjaaGreatDoor.T
open Go.RowKit
open Go.Maps (Keyed)
set_option maxRecDepth 100000
set_option linter.unusedVariables false
set_option linter.unusedSimpArgs false

variable {w0 w w' : World} {fb mb : Nat} {N : List NV} {F : Forest} {next : Int} {l2 : List Res}
theorem FSIn.mapNew (h : FSIn w0 w fb mb N F next l2) : FSIn w0 (w.alloc (.map #[] 0)) fb mb N F next (.obj w.heap.size (IsMapN []) :: l2) := by
  obtain ⟨rs, hr, H⟩ := h
  have H1 := Hold.mapNew H H.size
  refine ⟨rs, hr, Hold.conv H1 (fun x => ?_) fun r hr => H1.sat r ?_⟩
  · simp only [total_cons, total_append]; omega
  · simp only [List.mem_cons, List.mem_append] at hr ⊢
    rcases hr with h | h | h | h | h <;> simp [h]
theorem FSIn.nodupG {X : Res} {rb gb gm : Nat} {N' : List NV} {F' : Forest} {next' : Int} {rs' : List Res} (hF' : ForR F' rs') (h : FSIn w0 w fb mb N F next (X :: someB rb :: gR gb gm N' next' rs' l2)) : (F'.map (·.1)).Nodup := by
  obtain ⟨rs, hr, H⟩ := h
  refine hF'.nodup fun x => ?_
  have := H.uniq x
  simp only [total_cons, total_append] at this
  omega
theorem fresh_id {acc : List NV} {u : NV} (h : ((acc ++ [u]).map NV.id).Nodup) : u.id ∉ acc.map NV.id := by
  rw [List.map_append, List.nodup_append] at h
  intro hm
  exact h.2.2 _ hm _ (by simp) rfl
def Drawn (F F' : Forest) : Prop := ∀ x ∈ F', ∃ t, t ∈ F.map (·.1) ∧ x.2 = lookF F t
def CopyFsEnd (w0 : World) (fb mb : Nat) (N : List NV) (F : Forest) (next : Int) (l2 : List Res) (e : Ending) (w' : World) : Prop :=
  ∃ gb gm N' F' acc rs', e = .returned (.pointer (some ⟨gb, 0, none⟩)) ∧ acc.Perm N ∧ Twins F F' acc N' ∧ Drawn F F' ∧ ForR F' rs' ∧ FSIn w0 w' fb mb N F next (gR gb gm N' next rs' l2)

set_option maxHeartbeats 16000000 in
theorem copyFs_calls (h : FSIn w0 w fb mb N F next l2) (hF : Fits N F next) (hn : (N.map NV.id).Nodup) :
    Calls Tryz.prog 27 #[.pointer (some ⟨fb, 0, none⟩)] w fun e w' => CopyFsEnd w0 fb mb N F next l2 e w' := by
  have hwf : ∀ v ∈ N, WfI v.id := fun v hv => by have := hF.id v hv; exact wfI_of (by omega) (by omega)
  have q0 := h.map0
  have q1 := h.next1
  have q1a : ∀ o, (w.alloc o).cell? ⟨fb, 1, none⟩ = some (.int .i64 next) := fun o => Lib.cell?_alloc_some o q1
  obtain ⟨gm, hgm⟩ : ∃ gm, w.heap.size = gm := ⟨_, rfl⟩
  have h1 := h.mapNew.made 77 [.map (some gm), .int .i64 next]
  rw [World.size_alloc, hgm] at h1
  obtain ⟨w1, hw1⟩ : ∃ w1, (w.alloc (.map #[] 0)).alloc (.cells [.map (some gm), .int .i64 next].toArray 77) = w1 := ⟨_, rfl⟩
  rw [hw1] at h1
  obtain ⟨D, hown, hm⟩ := sat_owns h1.mapSat
  have q2 := h1.map0
  have h16 := hF.few
  have H1 : Hid (FSIn w0 w1 fb mb N F next (gR (gm + 1) gm [] next [] l2)) := h1
  have HN := hide hn
  have HW := hide hwf
  have HM := hide hm
  have HTr := hide hF.tree
  have hcame : Came N [] (Maps.has D) := ⟨by simp, by simp, fun i hi => by rw [hm.has hi]; simp⟩
  have hsz : Maps.size D = N.length := hm.size
  have HC := hide hcame
  have Hsz := hide hsz
  have hmm := @run_makeMap Tryz.prog
  clear h h1 hn hwf hF hm hcame hsz
  go_enter Tryz.func27, Tryz.ntmps27
  go_wp2_with (first | (at_range; refine wpList_range_own _ rfl _ 75 rfl 3 80 kI Tryz.underlying75 Rv mb N.length D rfl hown ?_; intro w2 hrg1 hg1 hs1) | go_in)
  go_frame
  have hb1 : Below w1.heap.size w1 w2 := (Below.refl _ w1).grown hg1 (Nat.le_refl _) (fun j hj => by cases hj)
  have h2 := (unhide H1).foundObj hb1 (b := w1.heap.size) (Nat.le_refl _) (by omega)
  have H2 : Hid (FSIn w0 w2 fb mb N F next (someB w1.heap.size :: gR (gm + 1) gm [] next [] l2)) := h2
  have Hrg := hide hrg1
  clear h2 hb1 hg1 hs1 hown hrg1 q0 q1 q1a q2 H1 hmm
  go_wp2_with fail
  go_loopg [5] (N.length + 1) (fun k v5 wr => ∃ (acc : List NV) (left : Lit → Bool) (cnt : Nat) (N' : List NV) (F' : Forest) (rs' : List Res), cnt < k ∧ acc.length ≤ 16 ∧ Hid (wr.ranges Tryz.prog 3 Rv mb w1.heap.size N.length D left cnt) ∧ Hid (FSIn w0 wr fb mb N F next (someB w1.heap.size :: gR (gm + 1) gm N' next rs' l2)) ∧ Hid (Came N acc left) ∧ Hid (Twins F F' acc N') ∧ Hid (ForR F' rs') ∧ Hid (Drawn F F'))
  case atStart => exact ⟨[], _, _, [], [], [], by have := unhide Hsz; omega, by simp, Hrg, H2, HC, Twins.nil, ForR.nil, fun x hx => (by cases hx)⟩
  case round =>
    obtain ⟨acc, left, cnt, N', F', rs', hk, hacc, Hrg3, HI, HC3, HT, HF', HDr⟩ := hrel
    clear Hrg H2 HC Hsz
    have hrg := unhide Hrg3
    go_wp2_with (first | (at_next; refine wpList_next_ranges _ rfl _ rfl 3 kI Rv (Value.int .i64) id (fun key kl hkey => (by obtain ⟨x, hx, _⟩ := Maps.keyOf_int_inv Tryz.underlying3 hkey; exact ⟨x, hx⟩)) (fun v y hv => ⟨v, rfl⟩) mb w1.heap.size N.length D left cnt rfl hrg ?_ ?_) | go_in)
    · intro hc0 hl0
      have hperm := (unhide HC3).all (unhide HN) (unhide HW) hl0
      have Hp := hide hperm
      clear hperm hc0 hl0 hrg
      go_wp2_with fail
      go_ret
      exact ⟨_, _, N', F', acc, rs', rfl, unhide Hp, unhide HT, unhide HDr, unhide HF', (unhide HI).forget []⟩
    · intro x c kl y1 y2 w2 cnt2 hkey hlk hv hat hrg2 hlt hgr hsz2 hen
      obtain ⟨x', ex, hkl, hwx⟩ := Maps.keyOf_int_inv Tryz.underlying3 hkey
      cases ex
      subst hkl
      have hy : y1 = .held c := by
        have : some ((.held c, []) : DataW Value × List MemPlace) = some (y1, y2) := hv
        exact (congrArg Prod.fst (Option.some.inj this)).symm
      subst hy
      obtain ⟨u, hu, hcu⟩ : ∃ u, findN N x = some u ∧ c = u.val := by
        have hl := fun z => (unhide HM).look x z hwx
        cases hf : findN N x with
        | none =>
          exfalso
          have h1 := hl (.lit (.bool true))
          rw [hat, hf] at h1
          cases h1
        | some u =>
          refine ⟨u, rfl, ?_⟩
          have h1 := hl (.lit (.bool true))
          rw [hat, hf] at h1
          exact DataW.held.inj h1
      subst hcu
      have hid : u.id = x := (findN_some hu).2
      subst hid
      have hmore := (unhide HC3).more hwx hu hlk
      have hsub16 : (acc ++ [u]).length ≤ 16 := by
        have := (nodup_subN hmore.nodup hmore.sub (unhide HN))
        omega
      have htree := unhide HTr u (findN_some hu).1
      have hfresh : u.id ∉ N'.map NV.id := by rw [(unhide HT).ids]; exact fresh_id hmore.nodup
      have hlenN : N'.length ≤ 1000 := by rw [(unhide HT).length]; omega
      have h3 := FSIn.turned [] (unhide HI) hgr
      obtain ⟨C, hC⟩ : ∃ C, w2.heap.size = C := ⟨_, rfl⟩
      have h4 := h3.made 80 [.int .i64 u.id, .int .i64 u.kind, .int .i64 u.up, .int .i64 u.links, .string u.text, .pointer u.ptr]
      rw [hC] at h4
      have hrg4 := hrg2.alloc (.cells [.int .i64 u.id, .int .i64 u.kind, .int .i64 u.up, .int .i64 u.links, .string u.text, .pointer u.ptr].toArray 80)
      have hmC : mb < C := by rw [← hC]; exact hrg2.owns.lt
      have hrC : w1.heap.size < C := by rw [← hC]; exact hrg2.lt
      obtain ⟨w3, hw3⟩ : ∃ w3, w2.alloc (.cells [.int .i64 u.id, .int .i64 u.kind, .int .i64 u.up, .int .i64 u.links, .string u.text, .pointer u.ptr].toArray 80) = w3 := ⟨_, rfl⟩
      rw [hw3] at h4 hrg4
      have hC3 : C < w3.heap.size := by rw [← hw3, World.size_alloc, hC]; omega
      obtain ⟨n0, n1, n2, n3, n4, n5, _⟩ := h4.six (.head _)
      have hf := fun wx => folder_calls u wx
      unfold NV.val at hf hen
      have Hmore := hide hmore
      have H4 := hide h4
      have Hrg4 := hide hrg4
      have Hfr := hide hfresh
      have Hln := hide hlenN
      have Hwx := hide hwx
      cases hk1 : (u.kind == 1) with
      | false =>
        rw [hk1] at hf
        have hk1' : ¬ u.kind = 1 := by simpa using hk1
        have Hf := hide hf
        have Hk1 := hide hk1'
        clear hkey hv hat hrg2 hgr hsz2 hlk hrg h3 h4 hrg4 hmore HI HC3 Hrg3 hu hwx hf hk1 hk1' htree hfresh hlenN
        go_wp2_with fail
        refine (unhide Hf _).mono ?_
        rintro e w4 ⟨rfl, hb4⟩
        have h5 := (unhide H4).step hb4
        have hrg5 := ranges_same (unhide Hrg4) (hb4.block mb (by omega)) (hb4.block _ (by omega))
        obtain ⟨m0, m1, m2, m3, m4, m5, _⟩ := h5.six (.head _)
        have q5 : w4.cell? ⟨gm + 1, 0, none⟩ = some (.map (some gm)) := h5.cellAt (.tail _ (.tail _ (.head _))) (j := 0) rfl
        obtain ⟨w5, hput, h6, e1, e2⟩ := h5.drew.putCopy (unhide Hln) u (unhide Hwx)
        have hrg6 := ranges_same hrg5 e1 e2
        unfold NV.val at hput
        have hput' : Sem.run Tryz.prog (Instr.mapUpdate 75 (.map (some gm)) (.int .i64 u.id) (.agg #[.int .i64 u.id, .int .i64 u.kind, .int .i64 u.up, .int .i64 u.links, .string u.text, .pointer u.ptr])) w4.drew = .ok () w5 := hput
        rw [putN_snoc (unhide Hfr)] at h6
        have H6 := hide h6
        have Hrg6 := hide hrg6
        clear hput h5 hrg5 h6 hrg6 e1 e2 hb4 Hf H4 Hrg4 n0 n1 n2 n3 n4 n5
        go_wp2_with fail
        go_region
        all_goals
          go_wp2_with fail
          go_roundg cnt
          case measure => omega
          case rel => exact ⟨acc ++ [u], _, cnt2, N' ++ [u], F', rs', hlt, hsub16, Hrg6, (unhide H6).forget [], Hmore, (unhide HT).snoc ⟨rfl, rfl, rfl, rfl, rfl, by unfold entsK; rw [if_neg (unhide Hk1), if_neg (unhide Hk1)], fun hk => absurd hk (unhide Hk1)⟩, HF', HDr⟩
      | true =>
        rw [hk1] at hf
        have hk1' : u.kind = 1 := by simpa using hk1
        obtain ⟨tb, htb, ht⟩ := htree hk1'
        have hup : u.ptr = some ⟨tb, 0, none⟩ := by unfold NV.ptr; rw [htb]; rfl
        rw [hup] at hf n5 H4 hw3 hen
        have Hf := hide hf
        have Hk1 := hide hk1'
        have Htb := hide htb
        have Ht := hide ht
        clear hkey hv hat hrg2 hgr hsz2 hlk hrg h3 h4 hrg4 hmore HI HC3 Hrg3 hu hwx hf hk1 hk1' htree hfresh hlenN htb ht hup
        go_wp2_with fail
        refine (unhide Hf _).mono ?_
        rintro e w4 ⟨rfl, hb4⟩
        have h5 := (unhide H4).step hb4
        have hrg5 := ranges_same (unhide Hrg4) (hb4.block mb (by omega)) (hb4.block _ (by omega))
        obtain ⟨m0, m1, m2, m3, m4, m5, _⟩ := h5.six (.head _)
        have hcp := h5.copyTree (unhide Ht)
        have HCp := hide hcp
        have Hrg5 := hide hrg5
        clear h5 hrg5 hcp hb4 Hf H4 Hrg4 n0 n1 n2 n3 n4 n5
        go_wp2_with fail
        refine (unhide HCp).mono ?_
        rintro e w5 ⟨tb', h', k', rfl, s1, b1, b2, b3, h6, e1, e2⟩
        have hrg6 := ranges_same (unhide Hrg5) e1 e2
        have hFor : ForR ((tb', lookF F tb) :: F') (.cell tb' 130 [ptrV k'.b] :: .sub h' k' :: rs') := .cons tb' _ h' k' s1 b1 b2 b3 (unhide HF')
        have hnd := h6.nodupG hFor
        rw [List.map_cons, List.nodup_cons] at hnd
        have g5 := h6.frozenAt (.head _) 5
        have g6 : w5.cell? ⟨C, 5, none⟩ = some (.pointer (some ⟨tb, 0, none⟩)) := h6.cellAt (.head _) (j := 5) rfl
        have h7 := h6.store [] 5 (.pointer (some ⟨tb', 0, none⟩)) [.int .i64 u.id, .int .i64 u.kind, .int .i64 u.up, .int .i64 u.links, .string u.text, .pointer (some ⟨tb', 0, none⟩)] rfl
        have hrg7 := ranges_same hrg6 (Below.heap_setCell w5 ⟨C, 5, none⟩ (.pointer (some ⟨tb', 0, none⟩)) mb (by show mb ≠ C; omega)) (Below.heap_setCell w5 ⟨C, 5, none⟩ (.pointer (some ⟨tb', 0, none⟩)) w1.heap.size (by show _ ≠ C; omega))
        obtain ⟨w6, hw6⟩ : ∃ w6, w5.setCell ⟨C, 5, none⟩ (.pointer (some ⟨tb', 0, none⟩)) = w6 := ⟨_, rfl⟩
        rw [hw6] at h7 hrg7
        obtain ⟨p0, p1, p2, p3, p4, p5, _⟩ := FSIn.six h7 (.head _)
        have q5 : w6.cell? ⟨gm + 1, 0, none⟩ = some (.map (some gm)) := FSIn.cellAt h7 (.tail _ (.tail _ (.head _))) (j := 0) rfl
        obtain ⟨w7, hput, h8, e3, e4⟩ := (FSIn.drew h7).putCopy (unhide Hln) { u with tb := some tb' } (unhide Hwx)
        have hrg8 := ranges_same hrg7 e3 e4
        unfold NV.val NV.ptr at hput
        simp only at hput
        have hput' : Sem.run Tryz.prog (Instr.mapUpdate 75 (.map (some gm)) (.int .i64 u.id) (.agg #[.int .i64 u.id, .int .i64 u.kind, .int .i64 u.up, .int .i64 u.links, .string u.text, .pointer (some ⟨tb', 0, none⟩)])) w6.drew = .ok () w7 := hput
        rw [putN_snoc (v := { u with tb := some tb' }) (unhide Hfr)] at h8
        have H8 := hide h8
        have Hrg8 := hide hrg8
        have HF2 := hide hFor
        have HDr2 : Hid (Drawn F ((tb', lookF F tb) :: F')) := fun x hx => by
          rcases List.mem_cons.1 hx with rfl | hx
          · exact ⟨tb, unhide Ht, rfl⟩
          · exact unhide HDr x hx
        have HT2 : Hid (Twins F ((tb', lookF F tb) :: F') (acc ++ [u]) (N' ++ [{ u with tb := some tb' }])) :=
          ((unhide HT).more hnd.1).snoc ⟨rfl, rfl, rfl, rfl, rfl, by
            unfold entsK
            rw [if_pos (show ({ u with tb := some tb' } : NV).kind = 1 from unhide Hk1), if_pos (unhide Hk1)]
            unfold entsOf
            rw [unhide Htb]
            simp [lookF], fun _ => ⟨tb', rfl, by simp⟩⟩
        obtain ⟨u2, hu2⟩ : ∃ u2 : NV, ({ u with tb := some tb' } : NV) = u2 := ⟨_, rfl⟩
        rw [hu2] at H8 HT2
        have H9 : Hid (FSIn w0 w7 fb mb N F next (someB w1.heap.size :: gR (gm + 1) gm (N' ++ [u2]) next (.cell tb' 130 [ptrV k'.b] :: .sub h' k' :: rs') l2)) := (unhide H8).forget []
        clear hu2 H8
        clear hput h6 hrg6 h7 hrg7 h8 hrg8 e1 e2 e3 e4 hnd hFor s1 b1 b2 b3 m0 m1 m2 m3 m4 m5 HCp Hrg5
        go_wp2_with fail
        go_region
        all_goals
          go_wp2_with fail
          go_roundg cnt
          case measure => omega
          case rel => exact ⟨acc ++ [u], _, cnt2, N' ++ [u2], (tb', lookF F tb) :: F', .cell tb' 130 [ptrV k'.b] :: .sub h' k' :: rs', hlt, hsub16, Hrg8, H9, Hmore, HT2, HF2, HDr2⟩
end Go.Proofs.YtjpmomklkkifjaaGreatDoor.T
namespace Go.Proofs.YtjpmomklkkifjaaGreatDoor.T
open Go.RowKit
set_option maxRecDepth 100000
set_option linter.unusedVariables false
set_option linter.unusedSimpArgs false

def nodeCh (v : NV) : CH := ⟨⟨#[110]⟩ ++ toldS v.id.toNat, ((⟨#[if v.kind = 1 then 100 else 102]⟩ ++ toldS v.up.toNat) ++ toldS v.links.toNat) ++ v.text, false⟩
noncomputable def entCh (i : Int) (x : Item) : CH := ⟨(⟨#[101]⟩ ++ toldS i.toNat) ++ keyS x.name, toldS x.node.toNat ++ x.name, false⟩
noncomputable def ofNode (F : Forest) (v : NV) : List CH := nodeCh v :: (entsK F v).map (entCh v.id)
def nextCh (next : Int) : CH := ⟨⟨#[120]⟩, toldS next.toNat, false⟩
noncomputable def rowsOf (F : Forest) (next : Int) (L : List NV) : List CH := nextCh next :: L.flatMap (ofNode F)

theorem rowsOf_perm {F : Forest} {next : Int} {L N : List NV} (h : L.Perm N) : (rowsOf F next L).Perm (rowsOf F next N) := (h.flatMap_right (ofNode F)).cons _
theorem twin_rows {F F' : Forest} {v v' : NV} (h : Twin F F' v v') : ofNode F' v' = ofNode F v := by
  unfold ofNode nodeCh
  rw [h.ents, h.id, h.kind, h.up, h.links, h.text]
theorem twins_rows {F F' : Forest} {next : Int} {A B : List NV} (h : Twins F F' A B) : rowsOf F' next B = rowsOf F next A := by
  have : B.flatMap (ofNode F') = A.flatMap (ofNode F) := by
    induction h with
    | nil => rfl
    | snoc _ ht ih => rw [List.flatMap_append, List.flatMap_append, ih]; simp [twin_rows ht]
  unfold rowsOf
  rw [this]

theorem told_list : ∀ i : Fin 100, (toldS i.val).data.toList = [48, UInt8.ofNat (48 + i.val / 10), UInt8.ofNat (48 + i.val % 10)] := of_decide_eq_true (by kernel_rfl)
theorem told_sums : ∀ i j : Fin 100, UInt8.ofNat (48 + i.val / 10) = UInt8.ofNat (48 + j.val / 10) → UInt8.ofNat (48 + i.val % 10) = UInt8.ofNat (48 + j.val % 10) → i = j := of_decide_eq_true (by kernel_rfl)
theorem told_inj {a b : Nat} (ha : a < 100) (hb : b < 100) (h : toldS a = toldS b) : a = b := by
  have h1 := told_list ⟨a, ha⟩
  have h2 := told_list ⟨b, hb⟩
  simp only at h1 h2
  rw [h, h2] at h1
  injection h1 with _ h1
  injection h1 with h3 h1
  injection h1 with h4 _
  exact congrArg Fin.val (told_sums ⟨a, ha⟩ ⟨b, hb⟩ h3.symm h4.symm)
theorem bytes_ext {a b : ByteArray} (h : a.data.toList = b.data.toList) : a = b := ByteArray.ext (by simpa using h)
theorem app_list (a b : ByteArray) : (a ++ b).data.toList = a.data.toList ++ b.data.toList := by simp
theorem app_left {a b c d : ByteArray} (hs : a.size = c.size) (h : a ++ b = c ++ d) : a = c ∧ b = d := by
  have h1 := congrArg (fun x : ByteArray => x.data.toList) h
  simp only [app_list] at h1
  have h2 : a.data.toList.length = c.data.toList.length := by
    have e1 : a.data.toList.length = a.size := (Lib.size_eq a).symm
    have e2 : c.data.toList.length = c.size := (Lib.size_eq c).symm
    omega
  obtain ⟨h3, h4⟩ := List.append_inj h1 h2
  exact ⟨bytes_ext h3, bytes_ext h4⟩

theorem repl_len : ∀ (n : Nat) (l : List Int), l.length ≤ n → (repl l).length ≤ l.length := by
  intro n
  induction n with
  | zero =>
    intro l h
    have : l = [] := List.eq_nil_of_length_eq_zero (by omega)
    subst this
    simp [repl]
  | succ n ih =>
    intro l h
    match l with
    | [] => simp [repl]
    | [r] => simp [repl]
    | r :: q :: t =>
      rw [repl]
      split
      · have := ih t (by simp at h; omega)
        simp only [List.length_cons]; omega
      · have := ih (q :: t) (by simp at h ⊢; omega)
        simp only [List.length_cons] at this ⊢; omega
theorem keyS_size {s : ByteArray} (h : checkP s = none) : (keyS s).size ≤ 100 := by
  obtain ⟨hn, _, _⟩ := name_of_check h
  have h1 := hn.few
  have h2 := repl_len _ (foldL (signsOf s)) (Nat.le_refl _)
  have h3 : (foldL (signsOf s)).length = (splitL (signsOf s)).length := by simp [foldL]
  obtain ⟨f1, f2, _, _⟩ := runK_facts (repl (foldL (signsOf s)))
  have h4 : (keyS s).size = (keyZ (repl (foldL (signsOf s)))).length := by
    unfold keyS keyOf keyB toB
    simp [ByteArray.size]
  rw [h4]
  unfold keyZ
  simp only [List.length_append, List.length_cons, List.length_nil]
  omega
theorem name_size {s : ByteArray} (h : checkP s = none) : s.size ≤ 100 := by
  obtain ⟨hn, e, _⟩ := name_of_check h
  have := hn.bytes
  rw [e, encS_size]
  omega

structure RowsOk (N : List NV) (F : Forest) (next : Int) : Prop where
  fits : Fits N F next
  nodup : (N.map NV.id).Nodup
  root : N ≠ []
  ids : ∀ v ∈ N, 0 ≤ v.id ∧ v.id < 100
  ups : ∀ v ∈ N, 0 ≤ v.up ∧ v.up < 100
  links : ∀ v ∈ N, 0 ≤ v.links ∧ v.links < 100
  text : ∀ v ∈ N, v.text.size ≤ 20
  top : 0 ≤ next ∧ next < 100
  ents : ∀ v ∈ N, ∀ x ∈ entsK F v, x.key = keyS x.name ∧ checkP x.name = none ∧ 0 ≤ x.node ∧ x.node < 100
  sorted : ∀ v ∈ N, Sorted (entsK F v)
  many : (rowsOf F next N).length ≤ 1000

theorem nodeKey_ne {v : NV} {next : Int} : (nodeCh v).key ≠ (nextCh next).key := by
  intro h
  have h1 := congrArg (fun x : ByteArray => x.data.toList) h
  simp [nodeCh, nextCh, app_list] at h1
theorem entKey_ne {i : Int} {x : Item} {next : Int} : (entCh i x).key ≠ (nextCh next).key := by
  intro h
  have h1 := congrArg (fun x : ByteArray => x.data.toList) h
  simp [entCh, nextCh, app_list] at h1
theorem nodeEnt_ne {v : NV} {i : Int} {x : Item} : (nodeCh v).key ≠ (entCh i x).key := by
  intro h
  have h1 := congrArg (fun x : ByteArray => x.data.toList) h
  simp [entCh, nodeCh, app_list] at h1
theorem nodeKey_inj {u v : NV} (hu : 0 ≤ u.id ∧ u.id < 100) (hv : 0 ≤ v.id ∧ v.id < 100) (h : (nodeCh u).key = (nodeCh v).key) : u.id = v.id := by
  have h1 := (app_left rfl h).2
  have := told_inj (by omega) (by omega) h1
  omega
theorem entKey_inj {i j : Int} {x y : Item} (hi : 0 ≤ i ∧ i < 100) (hj : 0 ≤ j ∧ j < 100) (h : (entCh i x).key = (entCh j y).key) : i = j ∧ keyS x.name = keyS y.name := by
  have hi2 : i.toNat < 100 := by omega
  have hj2 : j.toNat < 100 := by omega
  have h0 : ((⟨#[101]⟩ : ByteArray) ++ toldS i.toNat).size = ((⟨#[101]⟩ : ByteArray) ++ toldS j.toNat).size := by
    rw [ByteArray.size_append, ByteArray.size_append, told_size hi2, told_size hj2]
  obtain ⟨h1, h2⟩ := app_left h0 h
  have h3 := (app_left rfl h1).2
  have := told_inj hi2 hj2 h3
  exact ⟨by omega, h2⟩
theorem ofNode_keys {F : Forest} {v : NV} {c : CH} (h : c ∈ ofNode F v) : c = nodeCh v ∨ ∃ x ∈ entsK F v, c = entCh v.id x := by
  rcases List.mem_cons.1 h with h | h
  · exact .inl h
  · obtain ⟨x, hx, rfl⟩ := List.mem_map.1 h
    exact .inr ⟨x, hx, rfl⟩
theorem RowsOk.keys {N : List NV} {F : Forest} {next : Int} (h : RowsOk N F next) : ((rowsOf F next N).map CH.key).Nodup := by
  have hall : ∀ (M : List NV), (∀ v ∈ M, v ∈ N) → (M.map NV.id).Nodup → ((M.flatMap (ofNode F)).map CH.key).Nodup := by
    intro M
    induction M with
    | nil => intros; simp
    | cons v M ih =>
      intro hs hn
      rw [List.map_cons, List.nodup_cons] at hn
      have ihM := ih (fun u hu => hs u (List.mem_cons_of_mem _ hu)) hn.2
      have hvN := hs v List.mem_cons_self
      rw [List.flatMap_cons, List.map_append, List.nodup_append]
      refine ⟨?_, ihM, ?_⟩
      · show (((nodeCh v).key) :: ((entsK F v).map (entCh v.id)).map CH.key).Nodup
        rw [List.nodup_cons]
        refine ⟨fun hm => ?_, ?_⟩
        · obtain ⟨c, hc, e⟩ := List.mem_map.1 hm
          obtain ⟨x, hx, rfl⟩ := List.mem_map.1 hc
          exact nodeEnt_ne e.symm
        · rw [List.map_map]
          refine List.pairwise_map.2 ?_
          refine (List.Pairwise.imp_of_mem (fun {a b} ha hb hk e => ?_) (h.sorted v hvN))
          have h1 := (entKey_inj (h.ids v hvN) (h.ids v hvN) e).2
          rw [← (h.ents v hvN a ha).1, ← (h.ents v hvN b hb).1] at h1
          rw [h1] at hk
          exact kLt_irrefl _ hk
      · intro a ha b hb e
        subst e
        obtain ⟨c, hc, e1⟩ := List.mem_map.1 ha
        obtain ⟨d, hd, e2⟩ := List.mem_map.1 hb
        obtain ⟨u, hu, hdu⟩ := List.mem_flatMap.1 hd
        have huN := hs u (List.mem_cons_of_mem _ hu)
        have hne : v.id ≠ u.id := fun e => hn.1 (e ▸ List.mem_map.2 ⟨u, hu, rfl⟩)
        have hk : c.key = d.key := e1.trans e2.symm
        rcases ofNode_keys hc with rfl | ⟨x, hx, rfl⟩ <;> rcases ofNode_keys hdu with rfl | ⟨y, hy, rfl⟩
        · exact hne (nodeKey_inj (h.ids v hvN) (h.ids u huN) hk)
        · exact nodeEnt_ne hk
        · exact nodeEnt_ne hk.symm
        · exact hne (entKey_inj (h.ids v hvN) (h.ids u huN) hk).1
  show ((nextCh next).key :: (N.flatMap (ofNode F)).map CH.key).Nodup
  rw [List.nodup_cons]
  refine ⟨fun hm => ?_, hall N (fun v hv => hv) h.nodup⟩
  obtain ⟨c, hc, e⟩ := List.mem_map.1 hm
  obtain ⟨u, hu, hcu⟩ := List.mem_flatMap.1 hc
  rcases ofNode_keys hcu with rfl | ⟨x, hx, rfl⟩
  · exact nodeKey_ne e
  · exact entKey_ne e

theorem Twins.back {F F' : Forest} {A B : List NV} (h : Twins F F' A B) : ∀ v' ∈ B, ∃ v ∈ A, Twin F F' v v' := by
  induction h with
  | nil => intro v' hv; cases hv
  | @snoc A B v v' _ ht ih =>
    intro x hx
    rcases List.mem_append.1 hx with hx | hx
    · obtain ⟨u, hu, h2⟩ := ih x hx
      exact ⟨u, List.mem_append_left _ hu, h2⟩
    · rw [List.mem_singleton.1 hx]
      exact ⟨v, List.mem_append_right _ (by simp), ht⟩
theorem RowsOk.copy {N acc N' : List NV} {F F' : Forest} {next : Int} (h : RowsOk N F next) (hp : acc.Perm N) (ht : Twins F F' acc N') (hd : Drawn F F') : RowsOk N' F' next := by
  have hb : ∀ v' ∈ N', ∃ v ∈ N, Twin F F' v v' := fun v' hv => by
    obtain ⟨v, h1, h2⟩ := ht.back v' hv
    exact ⟨v, hp.mem_iff.1 h1, h2⟩
  have hlen : N'.length = N.length := by rw [ht.length, hp.length_eq]
  have hf := h.fits
  refine ⟨⟨fun v hv hk => ?_, by rw [hlen]; exact hf.few, fun v hv => ?_, fun v hv => ?_, fun x hx => ?_, fun x hx => ?_, hf.next, fun x hx => ?_⟩, ?_, fun e => ?_, fun v hv => ?_, fun v hv => ?_, fun v hv => ?_, fun v hv => ?_, h.top, fun v hv => ?_, fun v hv => ?_, ?_⟩
  · obtain ⟨u, hu, t⟩ := hb v hv; exact t.tree hk
  · obtain ⟨u, hu, t⟩ := hb v hv; rw [t.id]; exact hf.id u hu
  · obtain ⟨u, hu, t⟩ := hb v hv; rw [t.up]; exact hf.up u hu
  · obtain ⟨t, ht, e⟩ := hd x hx; rw [e]; exact hf.ents _ (lookF_in ht)
  · obtain ⟨t, ht, e⟩ := hd x hx; rw [e]; exact hf.full _ (lookF_in ht)
  · obtain ⟨t, ht, e⟩ := hd x hx; rw [e]; exact hf.many _ (lookF_in ht)
  · rw [ht.ids]; exact (hp.map NV.id).nodup_iff.2 h.nodup
  · rw [e] at hlen; exact h.root (List.eq_nil_of_length_eq_zero hlen.symm)
  · obtain ⟨u, hu, t⟩ := hb v hv; rw [t.id]; exact h.ids u hu
  · obtain ⟨u, hu, t⟩ := hb v hv; rw [t.up]; exact h.ups u hu
  · obtain ⟨u, hu, t⟩ := hb v hv; rw [t.links]; exact h.links u hu
  · obtain ⟨u, hu, t⟩ := hb v hv; rw [t.text]; exact h.text u hu
  · obtain ⟨u, hu, t⟩ := hb v hv; rw [t.ents]; exact h.ents u hu
  · obtain ⟨u, hu, t⟩ := hb v hv; rw [t.ents]; exact h.sorted u hu
  · rw [twins_rows ht, (rowsOf_perm hp).length_eq]; exact h.many

theorem flat_len (F : Forest) (k : Nat) : ∀ (N : List NV), (∀ v ∈ N, (entsK F v).length ≤ k) → (N.flatMap (ofNode F)).length ≤ N.length * (k + 1)
  | [], _ => by simp
  | v :: N, h => by
    have := flat_len F k N fun u hu => h u (List.mem_cons_of_mem _ hu)
    have h1 := h v List.mem_cons_self
    rw [List.flatMap_cons, List.length_append, List.length_cons, Nat.add_mul, Nat.one_mul]
    have h2 : (ofNode F v).length = (entsK F v).length + 1 := by simp [ofNode]
    omega
theorem Good.rowsMany {k : Nat} {N : List NV} {F : Forest} {next : Int} (h : Good k N F next) (hk : k ≤ 90) (hmany : (rowsOf F next N).length ≤ 1000) : RowsOk N F next := by
  have hf := h.fits
  have hw := h.whole
  have hl := hw.linked
  have htop := h.goo.top
  have hids : ∀ v ∈ N, 0 ≤ v.id ∧ v.id < 100 := fun v hv => by have := hw.ids v hv; omega
  have hents := fun v hv => hw.ents hf (u := v) hv
  obtain ⟨r, hr, hr1, hr2, hr3⟩ := hl.root
  refine ⟨hf, hl.nodup, fun e => (by rw [e] at hr; cases hr), hids, fun v hv => ?_, fun v hv => ?_, fun v hv => ?_, by have := hf.next; omega, fun v hv x hx => ?_, fun v hv => (hents v hv).sorted, ?_⟩
  · rcases hl.kinds v hv with ⟨k1, _⟩ | ⟨_, k2, _⟩
    · by_cases h1 : v.id = 1
      · have : v = r := by
          have a := findN_mem hl.nodup hv
          have b := findN_mem hl.nodup hr
          rw [h1, ← hr1, b] at a
          exact (Option.some.inj a).symm
        rw [this, hr3]; omega
      · obtain ⟨it, h2, _⟩ := hl.ups v hv k1 h1
        obtain ⟨u, hu, e, _⟩ := hl.folder _ h2
        have := hids u hu
        simp only at e
        omega
    · omega
  · have := h.goo.links v hv; omega
  · rcases hl.kinds v hv with ⟨_, _, e⟩ | ⟨_, _, e⟩
    · rw [e]; decide
    · exact e
  · obtain ⟨_, u, hu, e⟩ := (hents v hv).node x hx
    have := hids u hu
    exact ⟨(hents v hv).key x hx, (hents v hv).name x hx, by omega, by omega⟩
  · exact hmany
theorem Good.many {k : Nat} {N : List NV} {F : Forest} {next : Int} (h : Good k N F next) (hk : k ≤ 60) : (rowsOf F next N).length ≤ 1000 := by
  have hw := h.whole
  have hlk : ∀ v ∈ N, (entsK F v).length ≤ k := fun v hv => by
    unfold entsK
    split
    · rename_i hk1
      obtain ⟨tb, htb, ht⟩ := hw.tree v hv hk1
      unfold entsOf
      rw [htb]
      exact h.few.look tb
    · simp
  have h1 := flat_len F k N hlk
  have h2 := h.fits.few
  show (N.flatMap (ofNode F)).length + 1 ≤ 1000
  have h3 : N.length * (k + 1) ≤ 16 * 61 := Nat.mul_le_mul h2 (by omega)
  omega
theorem Good.rows {k : Nat} {N : List NV} {F : Forest} {next : Int} (h : Good k N F next) (hk : k ≤ 60) : RowsOk N F next := h.rowsMany (by omega) (h.many hk)
end Go.Proofs.YtjpmomklkkifjaaGreatDoor.T
