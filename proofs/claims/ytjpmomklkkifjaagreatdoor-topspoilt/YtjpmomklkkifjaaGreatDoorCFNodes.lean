import Derived.Test.YtjpmomklkkifjaaGreatDoorCFFind
import Derived.Test.YtjpmomklkkifjaaGreatDoorCBAfter
import Derived.Test.YtjpmomklkkifjaaGreatDoorCFEntsK
import Derived.BigQuiet
import Derived.Test.YtjpmomklkkifjaaGreatDoorCBPure
import Derived.Test.YtjpmomklkkifjaaGreatDoorCFGood
set_option maxRecDepth 100000
set_option linter.unusedVariables false
set_option linter.unusedSimpArgs false
namespace Go.Proofs.YtjpmomklkkifjaaGreatDoor.T
open Go.RowKit
variable {w0 w : World} {fb mb : Nat} {N : List NV} {F : Forest} {next : Int} {l2 : List Res}
theorem FSIn.treeMore (h : FSIn w0 w fb mb N F next l2) {tb : Nat} (ht : tb ∈ F.map (·.1)) :
    ∃ rest : List Res, TreeIn w0.heap.size w0 (fun _ => 0) w tb (lookF F tb) rest ∧
      ∀ w' l', TreeIn w0.heap.size w0 (fun _ => 0) w' tb (lookF F tb) (l' ++ rest) → FSIn w0 w' fb mb N F next (l' ++ l2) := by
  have hsame := setF_same F tb fun x hx e => by rw [← e, lookF_mem h.nodup hx]
  obtain ⟨rs, hr, H⟩ := h
  obtain ⟨h', k, rs1, rs2, rfl, a1, a2, a3, a4, a5⟩ := hr.split ht
  refine ⟨.cell fb 77 [.map (some mb), .int .i64 next] :: .obj mb (IsMapN N) :: (rs1 ++ rs2 ++ l2), ⟨a1, h', k, a2, a3, a4, ?_⟩, fun w' l' hT => ?_⟩
  · refine H.conv (fun x => ?_) (fun r hr => H.sat r ?_)
    · simp only [total_append, total_cons]; omega
    · simp only [List.mem_append, List.mem_cons] at hr ⊢
      rcases hr with h | h | h | h | (h | h) | h <;> simp [h]
  · obtain ⟨s1, h2, k2, b1, b2, b3, H2⟩ := hT
    have hR := a5 h2 k2 (lookF F tb) s1 b1 b2 b3 fun x hx t vs e => by
      have h3 := H2.uniq tb
      subst e
      have h4 : 1 ≤ total (rs1 ++ rs2) tb := by
        have := total_mem hx tb
        rw [foot_cell, one_self] at this
        exact this
      simp only [total_append, total_cons, foot_cell, one_self] at h3 h4
      omega
    rw [hsame] at hR
    refine ⟨rs1 ++ .cell tb 130 [ptrV k2.b] :: .sub h2 k2 :: rs2, hR, ?_⟩
    refine H2.conv (fun x => ?_) (fun r hr => H2.sat r ?_)
    · simp only [total_append, total_cons]; omega
    · simp only [List.mem_append, List.mem_cons] at hr ⊢
      rcases hr with h | h | (h | h | h | h) | h | h <;> simp [h]
theorem FSIn.nilRow (h : FSIn w0 w fb mb N F next l2) (e : TypeId) (k : Nat) : FSIn w0 w fb mb N F next (.row (.slice none 0 0) e k 0 [] :: l2) := by
  obtain ⟨rs, hr, H⟩ := h
  have H1 := Hold.nilRow H e k
  refine ⟨rs, hr, H1.conv (fun x => ?_) fun r hr => H1.sat r ?_⟩
  · simp only [total_cons, total_append]; omega
  · simp only [List.mem_cons, List.mem_append] at hr ⊢
    rcases hr with h | h | h | h | h <;> simp [h]
theorem FSIn.rowAt (h : FSIn w0 w fb mb N F next l2) {v : Value} {e : TypeId} {k n : Nat} {xs : List Value} (hm : Res.row v e k n xs ∈ l2) : w.ownsRow w0.heap.size e k v n xs := by
  obtain ⟨rs, _, H⟩ := h
  exact H.sat (.row v e k n xs) (by simp [hm])
theorem FSIn.rest (h : FSIn w0 w fb mb N F next l2) : H0 w0 w l2 := by
  obtain ⟨rs, hr, H⟩ := h
  exact Hold.conv H (fun x => by simp only [total_cons, total_append]; omega) fun r hr => Hold.sat H r (by simp [hr])
theorem flatE_get : ∀ (l : List Item) (j : Nat) (h : j < l.length), (flatE l)[j * 2]? = some (.string l[j].name) ∧ (flatE l)[j * 2 + 1]? = some (.int .i64 l[j].node)
  | x :: l, 0, h => ⟨rfl, rfl⟩
  | x :: l, j + 1, h => by
    have e : flatE (x :: l) = .string x.name :: .int .i64 x.node :: flatE l := rfl
    have := flatE_get l j (by simpa using h)
    rw [e, show (j + 1) * 2 = j * 2 + 1 + 1 by omega]
    simpa using this
theorem entry_cell {base g n cap : Nat} {L : List Item} (h : w.ownsRow base 38 2 (.slice (some ⟨g, 0, none⟩) n cap) n (flatE L)) {j : Nat} {x : Item} (hk : L[j]? = some x) : w.cell? ⟨g, j * 2, none⟩ = some (.string x.name) ∧ w.cell? ⟨g, j * 2 + 1, none⟩ = some (.int .i64 x.node) := by
  have hl : L.length * 2 = n * 2 := by rw [← h.1, flatE_length]
  obtain ⟨hj, rfl⟩ := List.getElem?_eq_some_iff.1 hk
  have h1 := flatE_get L j hj
  exact ⟨by rw [h.cellAt _ (by omega)]; exact h1.1, by rw [h.cellAt _ (by omega)]; exact h1.2⟩
theorem entry_shape {base : Nat} {v : Value} {L : List Item} (h : w.ownsRow base 38 2 v L.length (flatE L)) (hl : L.length ≤ 1000) : (v = .slice none 0 0 ∧ L = []) ∨ ∃ g cap, v = .slice (some ⟨g, 0, none⟩) L.length cap := by
  rcases h.2 with ⟨h1, h2⟩ | ⟨g, cap, cur, h1, _⟩
  · exact .inl ⟨h1, List.eq_nil_of_length_eq_zero h2⟩
  · exact .inr ⟨g, cap, h1⟩
def EntsEnd (w0 : World) (fb mb : Nat) (N : List NV) (F : Forest) (next : Int) (l2 : List Res) (L : List Item) (e : Ending) (w' : World) : Prop := ∃ v, e = .returned v ∧ FSIn w0 w' fb mb N F next (rowE v L :: l2)
theorem after_in {tb : Nat} (hF : Fits N F next) (ht : tb ∈ F.map (·.1)) (key : ByteArray) (many : Int) (hm1 : -9223372036854775808 ≤ many) (hm2 : many ≤ 9223372036854775807) (wx : World) (l : List Res) (hx : FSIn w0 wx fb mb N F next l) :
    Calls Tryz.prog 45 #[.pointer (some ⟨tb, 0, none⟩), .string key, .int .i64 many] wx fun e w' => ∃ v, e = .returned v ∧ FSIn w0 w' fb mb N F next (rowE v ((afterL (lookF F tb) key).take many.toNat) :: l) := by
  obtain ⟨rest, hT, hback⟩ := hx.treeMore ht
  have hl : (lookF F tb).length ≤ 1000 := by have := (show Few 900 F from hF.many).look tb; omega
  exact (after_calls _ _ _ wx tb _ rest key many hm1 hm2 hT hl).mono fun e w' ⟨v, he, hT'⟩ => ⟨v, he, hback w' [_] hT'⟩
theorem many_in {tb : Nat} (hF : Fits N F next) (ht : tb ∈ F.map (·.1)) (wx : World) (l : List Res) (hx : FSIn w0 wx fb mb N F next l) :
    Calls Tryz.prog 46 #[.pointer (some ⟨tb, 0, none⟩)] wx fun e w' => e = .returned (.int .i64 (lookF F tb).length) ∧ FSIn w0 w' fb mb N F next l := by
  obtain ⟨rest, hT, hback⟩ := hx.treeSame ht
  have hl : (lookF F tb).length ≤ 1000 := by have := (show Few 900 F from hF.many).look tb; omega
  exact (many_calls _ _ _ wx tb _ rest hT (fun x hx => hF.full _ (lookF_in ht) x hx) hl).mono fun e w' ⟨he, hT'⟩ => ⟨he, hback w' hT'⟩
set_option maxHeartbeats 4000000 in
theorem entries_calls (h : FSIn w0 w fb mb N F next l2) (hF : Fits N F next) (i : Int) (hi : WfI i) :
    Calls Tryz.prog 16 #[.pointer (some ⟨fb, 0, none⟩), .int .i64 i] w fun e w' => EntsEnd w0 fb mb N F next l2 (entsK F (atN N i)) e w' := by
  have hlk := h.look hi w rfl
  have q0 := h.map0
  have hv := hF.vok i
  generalize atN N i = u at hlk hv ⊢
  have hf := fun wx => folder_calls u wx
  obtain ⟨B, hB⟩ : ∃ B, w.heap.size = B := ⟨_, rfl⟩
  have h1 := h.made 80 [.int .i64 u.id, .int .i64 u.kind, .int .i64 u.up, .int .i64 u.links, .string u.text, .pointer u.ptr]
  rw [hB] at h1
  unfold NV.val at hlk hf
  cases hk1 : (u.kind == 1) with
  | false =>
    rw [hk1] at hf
    have hk1' : ¬ u.kind = 1 := by simpa using hk1
    have hE : entsK F u = [] := by unfold entsK; rw [if_neg hk1']
    rw [hE]
    have H1 := hide h1
    have Hf := hide hf
    clear hf hk1' hE hv h h1 hF hi
    go_enter Tryz.func16, Tryz.ntmps16
    go_wp2_with fail
    refine (unhide Hf _).mono ?_
    rintro e w4 ⟨rfl, hb4⟩
    have H4 := hide ((unhide H1).step hb4)
    clear hb4 Hf H1
    go_wp2_with fail
    go_ret
    exact ⟨_, rfl, ((unhide H4).forget []).nilRow 38 2⟩
  | true =>
    rw [hk1] at hf
    have hk1' : u.kind = 1 := by simpa using hk1
    obtain ⟨tb, htb, ht⟩ := hv.1 hk1'
    have hup : u.ptr = some ⟨tb, 0, none⟩ := by unfold NV.ptr; rw [htb]; rfl
    have hee : entsK F u = lookF F tb := by unfold entsK entsOf; rw [if_pos hk1', htb]
    rw [hee]
    have hl : (lookF F tb).length ≤ 900 := (show Few 900 F from hF.many).look tb
    have hM := fun wx l (hx : FSIn w0 wx fb mb N F next l) => many_in hF ht wx l hx
    have hA := fun wx l (hx : FSIn w0 wx fb mb N F next l) => after_in hF ht ⟨#[]⟩ (lookF F tb).length (by omega) (by omega) wx l hx
    have hfull : (afterL (lookF F tb) ⟨#[]⟩).take (lookF F tb).length = lookF F tb := by
      rw [Full.after (fun x hx => hF.full _ (lookF_in ht) x hx), List.take_of_length_le (Nat.le_refl _)]
    rw [Int.toNat_natCast, hfull] at hA
    rw [hup] at h1 hf hlk
    generalize lookF F tb = L at hM hA hl ⊢
    obtain ⟨nl, hnl⟩ : ∃ nl, L.length = nl := ⟨_, rfl⟩
    rw [hnl] at hM hA hl
    have HM := hide hM
    have HA := hide hA
    have H1 := hide h1
    have Hf := hide hf
    clear hf hM hA hk1' hv h h1 hF hi hup hee htb ht hfull hk1 hnl
    go_enter Tryz.func16, Tryz.ntmps16
    go_wp2_with fail
    refine (unhide Hf _).mono ?_
    rintro e w4 ⟨rfl, hb4⟩
    have h4 := (unhide H1).step hb4
    obtain ⟨k0, k1, k2, k3, k4, k5, _⟩ := h4.six (b := B) (.head _)
    have H4 := hide h4
    clear hb4 Hf H1 h4 hlk q0 hB k0 k1 k2 k3 k4
    go_wp2_with fail
    go_cut [4] from 15 to 21 (fun a4 wc => Hid (FSIn w0 wc fb mb N F next (rowE a4 L :: l2)))
    case first =>
      go_region_with (first | (go_at_call 46; refine (unhide HM _ _ (unhide H4).drew).mono ?_; rintro e w5 ⟨rfl, h5⟩; have k6 := (h5.six (b := B) (.head _)).2.2.2.2.2.1; have H5 := hide h5; clear h5) | (go_at_call 45; refine (unhide HA _ _ (unhide H5)).mono ?_; rintro e w6 ⟨v, rfl, h6⟩; have H6 := hide h6; clear h6))
      all_goals (go_wp2_with fail; go_meet; exact FSIn.forget [_] (unhide H6))
    case rest =>
      go_wp2_with fail
      go_ret
      exact ⟨_, rfl, unhide hcut⟩
def namedB (L : List Item) (s : ByteArray) (i : Int) : Bool := L.any fun x => x.name.toList == s.toList && x.node == i
end Go.Proofs.YtjpmomklkkifjaaGreatDoor.T
namespace Go.Proofs.YtjpmomklkkifjaaGreatDoor.T
open Go.RowKit Go.Shelf Go.Sort
open Go.Maps (Keyed)
instance : Inhabited NV := ⟨NV.zero⟩
def encN (u : NV) : List Value := [.int .i64 u.id, .int .i64 u.kind, .int .i64 u.up, .int .i64 u.links, .string u.text]
def flatN (L : List NV) : List Value := L.flatMap encN
theorem flatN_length (L : List NV) : (flatN L).length = L.length * 5 := by
  induction L with
  | nil => rfl
  | cons x L ih => simp [flatN, encN] at ih ⊢; omega
theorem flatN_snoc (L : List NV) (x : NV) : flatN (L ++ [x]) = flatN L ++ encN x := by simp [flatN]
theorem flatN_get : ∀ (L : List NV) (j : Nat) (u : NV), L[j]? = some u → ∀ i x, (encN u)[i]? = some x → (flatN L)[j * 5 + i]? = some x
  | y :: L, 0, u, h, i, x, hx => by
    have e : y = u := by simpa using h
    subst e
    have hi : i < (encN y).length := (List.getElem?_eq_some_iff.1 hx).1
    show (encN y ++ flatN L)[0 * 5 + i]? = some x
    rw [Nat.zero_mul, Nat.zero_add, List.getElem?_append_left hi]
    exact hx
  | y :: L, j + 1, u, h, i, x, hx => by
    have := flatN_get L j u (by simpa using h) i x hx
    show (encN y ++ flatN L)[(j + 1) * 5 + i]? = some x
    rw [List.getElem?_append_right (by simp [encN]; omega)]
    simp only [encN, List.length_cons, List.length_nil]
    rw [show (j + 1) * 5 + i - (0 + 1 + 1 + 1 + 1 + 1) = j * 5 + i by omega]
    exact this
def rowNd (v : Value) (L : List NV) : Res := .row v 33 5 L.length (flatN L)
theorem infoNode : (Tryz.prog.info? 33).map (fun i => (i.zero, i.size, i.bytes)) = some (some (.agg #[.int .i64 0, .int .i64 0, .int .i64 0, .int .i64 0, .string ⟨#[]⟩]), 5, 48) := by kernel_rfl
theorem node_cell {w : World} {base g n cap : Nat} {L : List NV} (h : w.ownsRow base 33 5 (.slice (some ⟨g, 0, none⟩) n cap) n (flatN L)) {j : Nat} {u : NV} (hk : L[j]? = some u) :
    w.cell? ⟨g, j * 5, none⟩ = some (.int .i64 u.id) ∧ w.cell? ⟨g, j * 5 + 1, none⟩ = some (.int .i64 u.kind) ∧ w.cell? ⟨g, j * 5 + 2, none⟩ = some (.int .i64 u.up) ∧ w.cell? ⟨g, j * 5 + 3, none⟩ = some (.int .i64 u.links) ∧ w.cell? ⟨g, j * 5 + 4, none⟩ = some (.string u.text) := by
  have hl : L.length * 5 = n * 5 := by rw [← h.1, flatN_length]
  obtain ⟨hj, _⟩ := List.getElem?_eq_some_iff.1 hk
  have h1 := flatN_get L j u hk
  exact ⟨by rw [h.cellAt _ (by omega)]; exact h1 0 _ rfl, by rw [h.cellAt _ (by omega)]; exact h1 1 _ rfl, by rw [h.cellAt _ (by omega)]; exact h1 2 _ rfl, by rw [h.cellAt _ (by omega)]; exact h1 3 _ rfl, by rw [h.cellAt _ (by omega)]; exact h1 4 _ rfl⟩
def cmpI (x y : Int) : Int := if x < y then -1 else if y < x then 1 else 0
theorem isNaN_calls (x : Int) (w : World) : Calls Tryz.prog 84 #[.int .i64 x] w fun e w' => e = .returned (.bool false) ∧ w' = w := by
  go_enter Tryz.func84, Tryz.ntmps84
  go_wp2_with fail
  go_ret
  exact ⟨by simp, rfl⟩
theorem compareI_calls (x y : Int) (w : World) : Calls Tryz.prog 43 #[.int .i64 x, .int .i64 y] w fun e w' => e = .returned (.int .i64 (cmpI x y)) ∧ w' = w := by
  have hn := fun z wx => isNaN_calls z wx
  unfold cmpI
  by_cases h1 : x < y
  · rw [if_pos h1]
    go_enter Tryz.func43, Tryz.ntmps43
    go_wp2_with fail
    refine (hn _ _).mono ?_
    rintro e wx ⟨rfl, rfl⟩
    go_wp2_with fail
    refine (hn _ _).mono ?_
    rintro e wx ⟨rfl, rfl⟩
    go_wp2_with fail
    go_ret
    exact ⟨rfl, rfl⟩
  · rw [if_neg h1]
    by_cases h2 : y < x
    · rw [if_pos h2]
      go_enter Tryz.func43, Tryz.ntmps43
      go_wp2_with fail
      refine (hn _ _).mono ?_
      rintro e wx ⟨rfl, rfl⟩
      go_wp2_with fail
      refine (hn _ _).mono ?_
      rintro e wx ⟨rfl, rfl⟩
      go_wp2_with fail
      go_ret
      exact ⟨rfl, rfl⟩
    · rw [if_neg h2]
      go_enter Tryz.func43, Tryz.ntmps43
      go_wp2_with fail
      refine (hn _ _).mono ?_
      rintro e wx ⟨rfl, rfl⟩
      go_wp2_with fail
      refine (hn _ _).mono ?_
      rintro e wx ⟨rfl, rfl⟩
      go_wp2_with fail
      go_ret
      exact ⟨rfl, rfl⟩
theorem byId_calls (x y : NV) (W : World) : Calls Tryz.prog 42 #[.agg (encN x).toArray, .agg (encN y).toArray] W fun e w' => e = .returned (.int .i64 (cmpI x.id y.id)) ∧ ∃ q os', w' = grow (W.drewN q) os' := by
  have hc := fun wx => compareI_calls x.id y.id wx
  generalize cmpI x.id y.id = r at hc ⊢
  have HC := hide hc
  clear hc
  simp only [encN]
  go_enter Tryz.func42, Tryz.ntmps42
  go_wp2_with fail
  refine (unhide HC _).mono ?_
  rintro e wx ⟨rfl, hwx⟩
  have hwx := hwx.symm
  subst hwx
  go_wp2_with fail
  go_ret
  exact ⟨rfl, 0, _, by rw [alloc_eq_grow, alloc_eq_grow, grow_grow]; rfl⟩
theorem cmpI_lt (x y : NV) : ltOf (fun a b : NV => cmpI a.id b.id) x y = decide (x.id < y.id) := by
  show decide (cmpI x.id y.id < 0) = decide (x.id < y.id)
  unfold cmpI
  by_cases h1 : x.id < y.id
  · simp [h1]
  · rw [if_neg h1]
    by_cases h2 : y.id < x.id
    · simp [h1, h2]
    · simp [h1, h2]
theorem swoI : SWO (ltOf fun a b : NV => cmpI a.id b.id) where
  irrefl x := by rw [cmpI_lt]; simp
  trans x y z h1 h2 := by rw [cmpI_lt] at *; simp at *; omega
  ntrans x y z h1 h2 := by rw [cmpI_lt] at *; simp at *; omega
theorem flatK_flatN (L : List NV) : flatK encN 5 L.toArray = (flatN L).toArray := by
  apply Array.ext_getElem?
  intro t
  by_cases ht : t < L.length * 5
  · have hk : t / 5 < L.length := by omega
    have hr : t % 5 < 5 := Nat.mod_lt _ (by omega)
    have h0 : t < (flatK encN 5 L.toArray).size := by simpa using ht
    have h1 := get_flatK encN 5 L.toArray t (by simpa using ht)
    rw [getElem!_pos (flatK encN 5 L.toArray) t h0] at h1
    rw [Array.getElem?_eq_getElem h0, h1]
    have h2 : L.toArray[t / 5]! = L[t / 5] := by
      simp only [List.getElem!_toArray]
      rw [getElem!_pos L _ hk]
    rw [h2]
    have h3 : (encN L[t / 5]).length = 5 := rfl
    have h5 : t % 5 < (encN L[t / 5]).length := by rw [h3]; exact hr
    have h4 := flatN_get L (t / 5) L[t / 5] (List.getElem?_eq_getElem hk) (t % 5) ((encN L[t / 5])[t % 5]!) (by rw [getElem!_pos (encN L[t / 5]) (t % 5) h5]; exact List.getElem?_eq_getElem h5)
    rw [show t / 5 * 5 + t % 5 = t by omega] at h4
    rw [List.getElem?_toArray]
    exact h4.symm
  · rw [Array.getElem?_eq_none (by simp; omega), Array.getElem?_eq_none (by simp [flatN_length]; omega)]
theorem row_put {w : World} {base g n cap : Nat} {t : TypeId} {k : Nat} {xs ys : List Value} (h : w.ownsRow base t k (.slice (some ⟨g, 0, none⟩) n cap) n xs) (hl : ys.length = xs.length) (m : Nat) (os : Array Obj) :
    (grow (putRow id (Go.Sort.ahead w m) g 0 ys.toArray) os).ownsRow base t k (.slice (some ⟨g, 0, none⟩) n cap) n ys ∧ w.grownBy (grow (putRow id (Go.Sort.ahead w m) g 0 ys.toArray) os) (some g) := by
  obtain ⟨hx, h2⟩ := h
  rcases h2 with ⟨hh, _⟩ | ⟨g', cap', cur, hv, hb, hg, hn, hm, hc, ht⟩
  · cases hh
  injection hv with hv1 _ hv2
  injection hv1 with hv1
  injection hv1 with hv1
  subst hv1 hv2
  have hlt : g < w.heap.size := (Array.getElem?_eq_some_iff.1 hg).1
  have hsz : (putRow id (Go.Sort.ahead w m) g 0 ys.toArray).heap.size = w.heap.size := by simp [putRow, mapBlock, Go.Sort.ahead]
  have hblk : (putRow id (Go.Sort.ahead w m) g 0 ys.toArray).heap[g]? = some (.cells (putCells id 0 ys.toArray cur) t (0, 0)) := by
    unfold putRow mapBlock
    show ((w.heap.modify g _))[g]? = _
    rw [Array.getElem?_modify, if_pos rfl, hg]
    rfl
  have hle : n * k ≤ cur.size := by rw [hc]; exact Nat.mul_le_mul_right k hn
  refine ⟨⟨by rw [hl]; exact hx, .inr ⟨g, cap, putCells id 0 ys.toArray cur, rfl, hb, ?_, hn, hm, by simp [putCells, hc], ?_⟩⟩, ⟨rfl, rfl, rfl, ?_, fun i hi hne => ?_⟩⟩
  · show ((putRow id (Go.Sort.ahead w m) g 0 ys.toArray).heap ++ os)[g]? = _
    rw [Array.getElem?_append_left (by rw [hsz]; exact hlt)]
    exact hblk
  · apply List.ext_getElem?
    intro j
    by_cases hj : j < n * k
    · have hjy : j < ys.length := by omega
      rw [List.getElem?_take_of_lt hj, Array.getElem?_toList]
      unfold putCells
      rw [Array.getElem?_mapIdx, Array.getElem?_eq_getElem (by omega)]
      simp only [Option.map_some, List.size_toArray, Nat.zero_le, Nat.zero_add, true_and, if_pos hjy, Nat.sub_zero, id, List.getElem!_toArray]
      rw [getElem!_pos ys j hjy, List.getElem?_eq_getElem hjy]
    · rw [List.getElem?_eq_none (by rw [List.length_take]; omega), List.getElem?_eq_none (by omega)]
  · show w.heap.size ≤ ((putRow id (Go.Sort.ahead w m) g 0 ys.toArray).heap ++ os).size
    rw [Array.size_append, hsz]
    omega
  · show ((putRow id (Go.Sort.ahead w m) g 0 ys.toArray).heap ++ os)[i]? = _
    rw [Array.getElem?_append_left (by rw [hsz]; exact hi)]
    unfold putRow mapBlock
    show ((w.heap.modify g _))[i]? = _
    rw [Array.getElem?_modify, if_neg (fun e => hne (by rw [e]))]
theorem holds_row {w : World} {base g n cap : Nat} {t : TypeId} {k : Nat} {xs : List Value} (h : w.ownsRow base t k (.slice (some ⟨g, 0, none⟩) n cap) n xs) : Holds id w g 0 xs.toArray := by
  intro j hj
  have hj' : j < xs.length := by simpa using hj
  rw [Nat.zero_add]
  refine ⟨?_, h.frozenAt j⟩
  rw [h.cellAt j (by have := h.1; omega)]
  simp only [id, List.getElem!_toArray]
  rw [getElem!_pos xs j hj', List.getElem?_eq_getElem hj']
set_option maxHeartbeats 1000000 in
theorem sortNodes_calls {w : World} {base g n cap : Nat} {L : List NV} (h : w.ownsRow base 33 5 (.slice (some ⟨g, 0, none⟩) n cap) n (flatN L)) (hl : L.length = n) (hn : n ≤ 1000) :
    Calls Tryz.prog 41 #[.slice (some ⟨g, 0, none⟩) n cap, .func (.func 42) #[] #[]] w fun e w' => e = .returned (.tuple #[]) ∧ ∃ L', L'.Perm L ∧ L'.Pairwise (fun a b => a.id ≤ b.id) ∧ w'.ownsRow base 33 5 (.slice (some ⟨g, 0, none⟩) n cap) n (flatN L') ∧ w.grownBy w' (some g) := by
  have eg : ∀ args w, (callFunc 42 args).run Tryz.prog w = .ok (.enter 42 args) w := enters_of Tryz.func42 (by kernel_rfl) rfl
  have hH : HoldsK encN 5 w g 0 L.toArray := by
    unfold HoldsK
    rw [flatK_flatN]
    exact holds_row h
  have hlt : g < w.heap.size := by
    rcases h.2 with ⟨hh, _⟩ | ⟨g', cap', cur, hv, hb, hg, _⟩
    · cases hh
    · injection hv with hv1 _ _
      injection hv1 with hv1
      injection hv1 with hv1
      subst hv1
      exact (Array.getElem?_eq_some_iff.1 hg).1
  have hc := AnyQ.slices_SortFunc sortLaysN 5 Tryz.isAgg33 Tryz.sizeOf33 encN (fun _ => rfl) (fun x v hv => by simp [encN] at hv; rcases hv with rfl | rfl | rfl | rfl | rfl <;> rfl) (fun a b : NV => cmpI a.id b.id) swoI 42 #[] g 0 cap L.toArray w eg (fun _ _ _ _ x y => byId_calls x y _) hH hlt (by simp; omega)
  have e1 : L.toArray.size = n := by simp [hl]
  rw [e1] at hc
  refine Calls.mono (show Calls Tryz.prog 41 _ _ _ from hc) ?_
  rintro e w' ⟨he, d', m, os, ⟨hs, _, hp⟩, hsort, rfl⟩
  have hs' : d'.size = n := by rw [hs, e1]
  have hd : d'.toList.length = n := by simpa using hs'
  have hex : (d'.extract 0 n).toList = d'.toList := by rw [← hs']; simp
  have hex2 : (L.toArray.extract 0 n).toList = L := by rw [← hl]; simp
  rw [hex, hex2] at hp
  have hk : flatK encN 5 d' = (flatN d'.toList).toArray := by
    have := flatK_flatN d'.toList
    simpa using this
  have hr := row_put h (ys := flatN d'.toList) (by rw [flatN_length, flatN_length, hd, hl]) m os
  have hw : sortWorldK encN 5 w g 0 m d' os = grow (putRow id (Go.Sort.ahead w m) g 0 (flatN d'.toList).toArray) os := by
    unfold sortWorldK putRowK
    rw [hk]
  rw [hw]
  refine ⟨he, d'.toList, hp, ?_, hr⟩
  rw [List.pairwise_iff_getElem]
  intro i j hi hj hij
  have h1 := hsort i j (by omega) hij (by omega)
  rw [cmpI_lt] at h1
  have hi' : i < d'.size := by simpa using hi
  have hj' : j < d'.size := by simpa using hj
  rw [getElem!_pos d' i hi', getElem!_pos d' j hj'] at h1
  have h2 : ¬ d'[j].id < d'[i].id := of_decide_eq_false h1
  have : d'.toList[i].id ≤ d'.toList[j].id := by
    rw [Array.getElem_toList, Array.getElem_toList]
    omega
  exact this
end Go.Proofs.YtjpmomklkkifjaaGreatDoor.T
