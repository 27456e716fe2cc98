import Derived.Test.YtjpmomklkkifjaaGreatDoorCBOwn
import Derived.Test.YtjpmomklkkifjaaGreatDoorProg
import Derived.Maps.RangeWalk
import Derived.Maps.Ext
import Derived.Maps.OwnSet
import Derived.Shelf.Small.Strs
import Derived.WalkKit
import Derived.WalkLawsBesides
import Derived.WalkSpells
import Derived.Deep.LoopGhost
import Derived.BigCall
import Derived.Outline
set_option maxRecDepth 100000
set_option linter.unusedVariables false
set_option linter.unusedSimpArgs false
namespace Go.Proofs.YtjpmomklkkifjaaGreatDoor.T
open Go.RowKit
open Go.Maps (Keyed)
open Go.WideElems (rd rg pl)
def Rv (v : Value) : Option (DataW Value × List MemPlace) := some (.held v, [])
structure NV where
  id : Int
  kind : Int
  up : Int
  links : Int
  text : ByteArray
  tb : Option Nat
def NV.ptr (v : NV) : Option Addr := v.tb.map fun b => ⟨b, 0, none⟩
def NV.val (v : NV) : Value := .agg #[.int .i64 v.id, .int .i64 v.kind, .int .i64 v.up, .int .i64 v.links, .string v.text, .pointer v.ptr]
def NV.zero : NV := ⟨0, 0, 0, 0, ⟨#[]⟩, none⟩
def WfI (i : Int) : Prop := (Lit.int .i64 i).wf = true
theorem wfI_of {i : Int} (h1 : -9223372036854775808 ≤ i) (h2 : i ≤ 9223372036854775807) : WfI i := by
  unfold WfI Lit.wf
  simp [IntKind.wrap, IntKind.signed, IntKind.bits, IntKind.min, IntKind.max]
  omega
def findN (N : List NV) (i : Int) : Option NV := N.find? fun v => v.id == i
def atN (N : List NV) (i : Int) : NV := (findN N i).getD NV.zero
def putN (N : List NV) (v : NV) : List NV := if (findN N v.id).isSome then N.map (fun x => if x.id == v.id then v else x) else N ++ [v]
def delN (N : List NV) (i : Int) : List NV := N.filter fun v => !(v.id == i)
structure MapN (N : List NV) (D : DataW Value) : Prop where
  size : Maps.size D = N.length
  look : ∀ i z, WfI i → D.atKey (.int .i64 i) z = (match findN N i with | none => z | some v => .held v.val)
  nodup : (N.map NV.id).Nodup
  wf : ∀ v ∈ N, WfI v.id
theorem key_int (i : Int) : WideAt.IsKeyLit (.int .i64 i) := by trivial
theorem findN_some {N : List NV} {i : Int} {v : NV} (h : findN N i = some v) : v ∈ N ∧ v.id = i := ⟨List.mem_of_find?_eq_some h, by have := List.find?_some h; simpa using this⟩
theorem findN_none {N : List NV} {i : Int} (h : findN N i = none) : ∀ v ∈ N, v.id ≠ i := by
  intro v hv e
  have := List.find?_eq_none.1 h v hv
  simp [e] at this
theorem findN_mem {N : List NV} (hn : (N.map NV.id).Nodup) {v : NV} (hv : v ∈ N) : findN N v.id = some v := by
  induction N with
  | nil => simp at hv
  | cons x N ih =>
    simp only [List.map_cons, List.nodup_cons] at hn
    unfold findN
    rw [List.find?_cons]
    rcases List.mem_cons.1 hv with rfl | hv
    · simp
    · have hne : x.id ≠ v.id := fun e => hn.1 (by rw [e]; exact List.mem_map.2 ⟨v, hv, rfl⟩)
      have : (x.id == v.id) = false := by simpa using hne
      rw [this]
      exact ih hn.2 hv
theorem putN_ids (N : List NV) (v : NV) : (putN N v).map NV.id = if (findN N v.id).isSome then N.map NV.id else N.map NV.id ++ [v.id] := by
  unfold putN
  split
  · rw [List.map_map]
    refine List.map_congr_left fun x _ => ?_
    show (if (x.id == v.id) = true then v else x).id = x.id
    split
    · rename_i h; simp at h; exact h.symm
    · rfl
  · simp
theorem putN_nodup {N : List NV} (hn : (N.map NV.id).Nodup) (v : NV) : ((putN N v).map NV.id).Nodup := by
  rw [putN_ids]
  split
  · exact hn
  · rename_i h
    have h0 : findN N v.id = none := by cases hf : findN N v.id with | none => rfl | some x => rw [hf] at h; simp at h
    rw [List.nodup_append]
    refine ⟨hn, by simp, fun a ha b hb => ?_⟩
    simp at hb
    subst hb
    obtain ⟨x, hx, rfl⟩ := List.mem_map.1 ha
    exact findN_none h0 x hx
theorem putN_length (N : List NV) (v : NV) : (putN N v).length = if (findN N v.id).isSome then N.length else N.length + 1 := by
  unfold putN
  split <;> simp
theorem find_map_same {N : List NV} {v : NV} (h : (findN N v.id).isSome = true) : (N.map (fun x => if x.id == v.id then v else x)).find? (fun x => x.id == v.id) = some v := by
  induction N with
  | nil => simp [findN] at h
  | cons x N ih =>
    rw [List.map_cons, List.find?_cons]
    by_cases hx : (x.id == v.id) = true
    · rw [if_pos hx]; simp
    · rw [if_neg hx]
      have hx' : (x.id == v.id) = false := by simpa using hx
      rw [hx']
      refine ih ?_
      unfold findN at h ⊢
      rw [List.find?_cons, hx'] at h
      exact h
theorem find_map_other {N : List NV} {v : NV} {i : Int} (h : i ≠ v.id) : (N.map (fun x => if x.id == v.id then v else x)).find? (fun x => x.id == i) = N.find? (fun x => x.id == i) := by
  induction N with
  | nil => rfl
  | cons x N ih =>
    rw [List.map_cons, List.find?_cons, List.find?_cons, ih]
    by_cases hx : (x.id == v.id) = true
    · rw [if_pos hx]
      have h1 : (v.id == i) = false := by simpa using fun e => h e.symm
      have h2 : (x.id == i) = false := by have hx' : x.id = v.id := by simpa using hx
                                          rw [hx']; exact h1
      rw [h1, h2]
    · rw [if_neg hx]
theorem findN_put_same (N : List NV) (v : NV) : findN (putN N v) v.id = some v := by
  unfold putN
  split
  · rename_i h; exact find_map_same h
  · rename_i h
    have h0 : findN N v.id = none := by cases hf : findN N v.id with | none => rfl | some x => rw [hf] at h; simp at h
    unfold findN at h0 ⊢
    rw [List.find?_append, h0]
    simp
theorem findN_put_other {N : List NV} {v : NV} {i : Int} (h : i ≠ v.id) : findN (putN N v) i = findN N i := by
  unfold putN
  split
  · exact find_map_other h
  · unfold findN
    rw [List.find?_append]
    have h1 : (v.id == i) = false := by simpa using fun e => h e.symm
    rw [List.find?_cons, h1]
    simp
theorem findN_del_same (N : List NV) (i : Int) : findN (delN N i) i = none := by
  unfold findN delN
  rw [List.find?_eq_none]
  intro x hx
  have := (List.mem_filter.1 hx).2
  simpa using this
theorem findN_del_other {N : List NV} {i j : Int} (h : j ≠ i) : findN (delN N i) j = findN N j := by
  unfold findN delN
  exact Maps.find_filter_keep (fun v hv => by simp at hv ⊢; rw [hv]; exact h) N
theorem delN_length {N : List NV} (hn : (N.map NV.id).Nodup) (i : Int) : (delN N i).length + (if (findN N i).isSome then 1 else 0) = N.length := by
  induction N with
  | nil => rfl
  | cons x N ih =>
    simp only [List.map_cons, List.nodup_cons] at hn
    have := ih hn.2
    unfold delN findN at *
    rw [List.filter_cons, List.find?_cons]
    by_cases hx : (x.id == i) = true
    · have hi : N.find? (fun v => v.id == i) = none := by
        rw [List.find?_eq_none]
        intro y hy e
        have e1 : y.id = i := by simpa using e
        have e2 : x.id = i := by simpa using hx
        exact hn.1 (List.mem_map.2 ⟨y, hy, by rw [e1, e2]⟩)
      rw [hi] at this
      simp only [hx]
      simp at this ⊢
      omega
    · have hx' : (x.id == i) = false := by simpa using hx
      simp only [hx']
      simp only [Bool.not_false, if_true, List.length_cons]
      omega
theorem MapN.has {N : List NV} {D : DataW Value} (h : MapN N D) {i : Int} (hi : WfI i) : Maps.has D (.int .i64 i) = (findN N i).isSome := by
  cases hf : findN N i with
  | none => exact Maps.has_false_of_atKey fun z => by rw [h.look i z hi, hf]
  | some v => exact Maps.has_true_of_atKey (y := .held v.val) fun z => by rw [h.look i z hi, hf]
theorem MapN.put {N : List NV} {D : DataW Value} (h : MapN N D) (ht : Maps.Tidy D) {v : NV} (hi : WfI v.id) : MapN (putN N v) (D.put (.int .i64 v.id) (.held v.val)) := by
  refine ⟨?_, fun i z hw => ?_, putN_nodup h.nodup v, fun x hx => ?_⟩
  · rw [Maps.size_put ht, h.has hi, h.size, putN_length]
  · by_cases he : i = v.id
    · subst he
      rw [Maps.atKey_put_same ht.isMap (key_int _), findN_put_same]
    · rw [Maps.atKey_put_other (by intro e; cases e; exact he rfl), h.look i z hw, findN_put_other he]
  · have : x.id ∈ (putN N v).map NV.id := List.mem_map.2 ⟨x, hx, rfl⟩
    rw [putN_ids] at this
    split at this
    · obtain ⟨y, hy, e⟩ := List.mem_map.1 this
      rw [← e]; exact h.wf y hy
    · rcases List.mem_append.1 this with h1 | h1
      · obtain ⟨y, hy, e⟩ := List.mem_map.1 h1
        rw [← e]; exact h.wf y hy
      · simp at h1; rw [h1]; exact hi
theorem MapN.del {N : List NV} {D : DataW Value} (h : MapN N D) (ht : Maps.Tidy D) {i : Int} (hi : WfI i) : MapN (delN N i) (D.del (.int .i64 i)) := by
  refine ⟨?_, fun j z hw => ?_, ?_, fun x hx => h.wf x (List.mem_filter.1 hx).1⟩
  · have h1 := Maps.size_del (k := .int .i64 i) ht
    rw [h.has hi, h.size] at h1
    have h2 := delN_length h.nodup i
    omega
  · by_cases he : j = i
    · subst he
      rw [Maps.atKey_del_same, findN_del_same]
    · rw [Maps.atKey_del_other (by intro e; cases e; exact he rfl), h.look j z hw, findN_del_other he]
  · have e : (delN N i).map NV.id = (N.map NV.id).filter fun x => !(x == i) := by
      unfold delN
      rw [List.filter_map]
      rfl
    rw [e]
    exact h.nodup.filter _
def IsMapN (N : List NV) (o : Obj) : Prop := ∃ es clock, o = .map es clock ∧ Go.WideElems.Fit Tryz.prog 3 Rv es clock ∧ MapN N (.map ((es.toList.map (rg Tryz.prog 3 Rv)).foldr DataW.insert []))
theorem kI : Keyed Tryz.prog 3 := Maps.int_keyed Tryz.underlying3
theorem keyI {i : Int} (h : WfI i) : keyOf Tryz.prog 3 (.int .i64 i) = some (.int .i64 i) := Maps.keyOf_int_mk Tryz.underlying3 h
theorem sat_owns {base : Nat} {w : World} {b : Nat} {N : List NV} (h : Res.Sat base w (.obj b (IsMapN N))) : ∃ D, w.ownsMap Tryz.prog 3 Rv b N.length D ∧ MapN N D := by
  obtain ⟨_, o, ho, es, clock, rfl, F, hm⟩ := h
  have := hm.size
  simp [Maps.size, length_sorted] at this
  exact ⟨_, ⟨es, clock, ho, F, by omega, rfl⟩, hm⟩
theorem owns_sat {base : Nat} {w : World} {b n : Nat} {N : List NV} {D : DataW Value} (hb : base ≤ b) (h : w.ownsMap Tryz.prog 3 Rv b n D) (hm : MapN N D) : Res.Sat base w (.obj b (IsMapN N)) := by
  obtain ⟨es, clock, ho, F, _, rfl⟩ := h
  exact ⟨hb, _, ho, es, clock, rfl, F, hm⟩
theorem look_run {base : Nat} {w : World} {b : Nat} {N : List NV} (h : Res.Sat base w (.obj b (IsMapN N))) {i : Int} (hi : WfI i) : (Instr.lookup 75 (.map (some b)) (.int .i64 i) false).run Tryz.prog w = .ok (atN N i).val w := by
  obtain ⟨D, ho, hm⟩ := sat_owns h
  obtain ⟨v, ps, hrun, hv⟩ := ho.lookup kI Tryz.underlying75 (z := NV.zero.val) (Tryz.zeroValue80 w) (zd := .held NV.zero.val) (zp := []) rfl (keyI hi)
  rw [hrun, hm.look i _ hi] at *
  unfold Rv at hv
  unfold atN
  cases hf : findN N i with
  | none => rw [hf] at hv; simp at hv; rw [hv.1]; rfl
  | some x => rw [hf] at hv; simp at hv; rw [hv.1]; rfl
theorem len_run {base : Nat} {w : World} {b : Nat} {N : List NV} (h : Res.Sat base w (.obj b (IsMapN N))) (ty : TypeId) : (Builtin.len_ #[75] ty #[.map (some b)]).run Tryz.prog w = .ok (.int .i64 N.length) w := by
  obtain ⟨D, ho, hm⟩ := sat_owns h
  rw [ho.len Tryz.underlying75 ty, hm.size]
theorem Hold.mapPut {base : Nat} {w0 w : World} {K0 : Nat → Nat} (l1 : List Res) {b : Nat} {N : List NV} {l2 : List Res} (H : Hold base w0 K0 w (l1 ++ .obj b (IsMapN N) :: l2)) (hN : N.length ≤ 1000) (v : NV) (hi : WfI v.id) :
    ∃ w', (Instr.mapUpdate 75 (.map (some b)) (.int .i64 v.id) v.val).run Tryz.prog w = .ok () w' ∧ Hold base w0 K0 w' (l1 ++ .obj b (IsMapN (putN N v)) :: l2) := by
  have hs := H.sat (.obj b (IsMapN N)) (by simp)
  obtain ⟨D, ho, hm⟩ := sat_owns hs
  obtain ⟨w', hrun, ho', hg⟩ := ho.update kI Tryz.underlying75 (by unfold maxLen; omega) (val := v.val) (d := .held v.val) (ps := []) (keyI hi) rfl
  refine ⟨w', hrun, H.put l1 ((Kept.refl _ w).grown hg fun x hx _ => ?_) (owns_sat hs.1 ho' (hm.put (ho.tidy kI) hi)) (fun x _ => Nat.le_refl _) (one_le b)⟩
  cases hx
  show 0 < one b b
  rw [one_self]; decide
theorem Hold.mapDel {base : Nat} {w0 w : World} {K0 : Nat → Nat} (l1 : List Res) {b : Nat} {N : List NV} {l2 : List Res} (H : Hold base w0 K0 w (l1 ++ .obj b (IsMapN N) :: l2)) (i : Int) (hi : WfI i) (ty : TypeId) :
    ∃ w', (Builtin.delete_ #[75, 3] ty #[.map (some b), .int .i64 i]).run Tryz.prog w = .ok (.tuple #[]) w' ∧ Hold base w0 K0 w' (l1 ++ .obj b (IsMapN (delN N i)) :: l2) := by
  have hs := H.sat (.obj b (IsMapN N)) (by simp)
  obtain ⟨D, ho, hm⟩ := sat_owns hs
  obtain ⟨w', hrun, ho', hg⟩ := ho.drop kI Tryz.underlying75 (keyI hi) ty
  refine ⟨w', hrun, H.put l1 ((Kept.refl _ w).grown hg.grown fun x hx _ => ?_) (owns_sat hs.1 ho' (hm.del (ho.tidy kI) hi)) (fun x _ => Nat.le_refl _) (one_le b)⟩
  cases hx
  show 0 < one b b
  rw [one_self]; decide
theorem Hold.mapNew {base : Nat} {w0 w : World} {K0 : Nat → Nat} {rs : List Res} (H : Hold base w0 K0 w rs) (hb : base ≤ w.heap.size) : Hold base w0 K0 (w.alloc (.map #[] 0)) (.obj w.heap.size (IsMapN []) :: rs) := by
  refine H.new ((Kept.refl _ w).alloc _) (owns_sat hb (World.ownsMap_made w Tryz.prog 3 Rv) ⟨rfl, fun i z _ => rfl, by simp, by simp⟩) (fun x hx => by obtain rfl := one_pos.1 hx; exact Nat.le_refl _) (one_le _)
end Go.Proofs.YtjpmomklkkifjaaGreatDoor.T
namespace Go.Proofs.YtjpmomklkkifjaaGreatDoor.T
open Go.RowKit Go.Shelf
theorem hide {p : Prop} (h : p) : Hid p := h
theorem unhide {p : Prop} (h : Hid p) : p := h
def cmpRen : Go.Shelf.Ren := ⟨fun | 106 => 53 | 213 => 96 | 265 => 140 | n => n, fun | 9 => 9 | 3 => 3 | n => n, fun | n => n⟩
theorem cmpLays : Go.Proofs.Lays.n106 Tryz.prog cmpRen := {
  mixed := by kernel_rfl
  f106 := Tryz.func53.trans (congrArg some (by kernel_rfl))
  f213 := Tryz.func96.trans (congrArg some (by kernel_rfl))
  f265 := Tryz.func140.trans (congrArg some (by kernel_rfl))
  t3 := Tryz.underlying3
  a3 := Tryz.isAgg3
  z3 := Tryz.sizeOf3
  v3 := Tryz.zeroValue3
  t9 := Tryz.underlying9
  a9 := Tryz.isAgg9
  z9 := Tryz.sizeOf9
  v9 := Tryz.zeroValue9 }
theorem compare_calls (a b : ByteArray) (w : World) :
    Calls Tryz.prog 53 #[.string a, .string b] w fun e w' => e = .returned (.int .i64 (cmpB a b)) ∧ w' = w := Any.strings_Compare cmpLays a b w
def itemV (it : Item) : Value := .agg #[.string it.key, .string it.name, .int .i64 it.node]
theorem closure_calls (k n : ByteArray) (x : Int) (key : ByteArray) (w : World) :
    Calls Tryz.prog 176 #[.agg #[.string k, .string n, .int .i64 x], .string key] w fun e w' => e = .returned (.int .i64 (cmpB k key)) ∧ w' = w.alloc (.cells #[.string k, .string n, .int .i64 x] 190) := by
  have h1 := fun wx => compare_calls k key wx
  go_enter Tryz.func176, Tryz.ntmps176
  go_wp2_with (go_at_call 53; refine (h1 _).mono ?_; rintro e wx ⟨rfl, rfl⟩)
  go_ret
  exact ⟨rfl, rfl⟩
theorem beq_nat (n m : Nat) : ((n : Int) == (m : Int)) = decide (n = m) := by
  by_cases h : n = m
  · simp [h]
  · rw [beq_eq_false_iff_ne.2 (by omega)]; simp [h]
theorem leaf_calls (b : Nat) (v0 v1 : Value) (n : Nat) (w : World) (h1 : w.cell? ⟨b, 1, none⟩ = some v1) (base : Nat) (xs : List Value) (ho : w.ownsRow base 128 1 v1 n xs) (hn : n ≤ 100) :
    Calls Tryz.prog 132 #[.pointer (some ⟨b, 0, none⟩)] w fun e w' => e = .returned (.bool (decide (n = 0))) ∧ w' = w := by
  rcases ho.2 with ⟨rfl, rfl⟩ | ⟨g, cap, cur, rfl, _⟩
  · clear ho
    go_enter Tryz.func132, Tryz.ntmps132
    go_wp2
    go_ret
    exact ⟨by simp, rfl⟩
  · clear ho
    go_enter Tryz.func132, Tryz.ntmps132
    go_wp2
    go_ret
    refine ⟨?_, rfl⟩
    show Ending.returned (Value.bool ((n : Int) == 0)) = _
    have := beq_nat n 0
    simp only [Int.natCast_zero] at this
    rw [show ((n : Int) == 0) = decide (n = 0) from this]
theorem over_calls (b : Nat) (v0 : Value) (n : Nat) (w : World) (h1 : w.cell? ⟨b, 0, none⟩ = some v0) (base : Nat) (xs : List Value) (ho : w.ownsRow base 190 3 v0 n xs) (hn : n ≤ 100) :
    Calls Tryz.prog 191 #[.pointer (some ⟨b, 0, none⟩)] w fun e w' => e = .returned (.bool (decide (3 < n))) ∧ w' = w := by
  rcases ho.2 with ⟨rfl, rfl⟩ | ⟨g, cap, cur, rfl, _⟩
  · clear ho
    go_enter Tryz.func191, Tryz.ntmps191
    go_wp2
    go_ret
    exact ⟨by simp, rfl⟩
  · clear ho
    go_enter Tryz.func191, Tryz.ntmps191
    go_wp2
    go_ret
    refine ⟨?_, rfl⟩
    simp
    try omega
def Found (its : List Item) (key : ByteArray) (at' : Nat) (is' : Bool) : Prop :=
  at' ≤ its.length ∧ (∀ x ∈ its.take at', kLt x.key key) ∧ ((is' = true ∧ ∃ x, its[at']? = some x ∧ x.key = key) ∨ (is' = false ∧ ∀ x ∈ its.drop at', kLt key x.key))
def FindEnd (its : List Item) (key : ByteArray) (w : World) (e : Ending) (w' : World) : Prop := ∃ (at' : Nat) (is' : Bool), e = .returned (.tuple #[.int .i64 at', .bool is']) ∧ Found its key at' is' ∧ Below w.heap.size w w'
set_option maxRecDepth 100000 in
theorem search_calls (base : Nat) (v : Value) (its : List Item) (key : ByteArray) (w : World) (ho : w.ownsRow base 190 3 v its.length (flat its)) (hs : Sorted its) (hn : its.length ≤ 100) :
    Calls Tryz.prog 175 #[v, .string key, .func (.func 176) #[] #[]] w fun e w' => FindEnd its key w e w' := by
  obtain ⟨N, hN⟩ : ∃ N, its.length = N := ⟨_, rfl⟩
  rw [hN] at hn ho
  rcases ho.2 with ⟨rfl, rfl⟩ | ⟨g, cap, cur, rfl, hr⟩
  · have HN := hide hN
    clear ho hN
    have HS := hide hs
    clear hs
    go_enter Tryz.func175, Tryz.ntmps175
    go_wp2_with fail
    go_loopg [9, 10] 1 (fun k i j wr => i = .int .i64 0 ∧ j = .int .i64 0 ∧ wr = w)
    case atStart => exact ⟨rfl, rfl, rfl⟩
    case round =>
      obtain ⟨rfl, rfl, rfl⟩ := hrel
      go_wp2_with fail
      go_ret2
      exact ⟨0, false, rfl, ⟨by omega, by simp, .inr ⟨rfl, by have := unhide HN; rw [List.length_eq_zero_iff.1 this]; simp⟩⟩, Below.refl _ _⟩
  · have hc : ∀ j, j < N → ∃ k n x, its[j]? = some ⟨k, n, x⟩ ∧ w.cell? ⟨g, j * 3, none⟩ = some (.string k) ∧ w.cell? ⟨g, j * 3 + 1, none⟩ = some (.string n) ∧ w.cell? ⟨g, j * 3 + 2, none⟩ = some (.int .i64 x) := by
      intro j hj
      have h1 := flat_get its j (by omega)
      refine ⟨(its[j]'(by omega)).key, (its[j]'(by omega)).name, (its[j]'(by omega)).node, List.getElem?_eq_getElem (by omega), ?_, ?_, ?_⟩
      · rw [ho.cellAt (j * 3) (by omega)]; exact h1.1
      · rw [ho.cellAt (j * 3 + 1) (by omega)]; exact h1.2.1
      · rw [ho.cellAt (j * 3 + 2) (by omega)]; exact h1.2.2
    have hg : g < w.heap.size := (Array.getElem?_eq_some_iff.1 hr.2.1).1
    have HN := hide hN
    have HC := hide hc
    have HS := hide hs
    have HO := hide ho
    clear ho hN hs hc hr
    go_enter Tryz.func175, Tryz.ntmps175
    go_wp2_with fail
    go_loopg [9, 10] (N + 1) (fun k vi vj wr => ∃ i j : Nat, j - i ≤ k ∧ i ≤ j ∧ j ≤ N ∧ vi = .int .i64 i ∧ vj = .int .i64 j ∧ Hid ((∀ t x, t < i → its[t]? = some x → kLt x.key key) ∧ (∀ t x, j ≤ t → its[t]? = some x → ¬ kLt x.key key)) ∧ Hid (Below w.heap.size w wr))
    case atStart => exact ⟨0, N, by omega, by omega, by omega, rfl, rfl, ⟨fun t x ht => by omega, fun t x ht hx => by have := unhide HN; have := (List.getElem?_eq_some_iff.1 hx).1; omega⟩, Below.refl _ _⟩
    case round =>
      obtain ⟨i, j, hk, hij, hjN, rfl, rfl, HF, HB⟩ := hrel
      by_cases hlt : i < j
      · have hltz : (i : Int) < (j : Int) := by omega
        obtain ⟨c, hc⟩ : ∃ c, c = (i + j) / 2 := ⟨_, rfl⟩
        have hc1 : i ≤ c := by omega
        have hc2 : c < j := by omega
        have zc : ((i : Int) + (j : Int)) / 2 = (c : Int) := by omega
        have hcN : (c : Int) < (N : Int) := by omega
        obtain ⟨kk, nn, xx, hx, q1, q2, q3⟩ := unhide HC c (by omega)
        have bw := unhide HB
        have c1 := (bw.cell (p := ⟨g, c * 3, none⟩) hg).trans q1
        have c2 := (bw.cell (p := ⟨g, c * 3 + 1, none⟩) hg).trans q2
        have c3 := (bw.cell (p := ⟨g, c * 3 + 2, none⟩) hg).trans q3
        have hcl := fun wx => closure_calls kk nn xx key wx
        have Hx := hide hx
        clear hx hc q1 q2 q3 bw
        have Hd : Hid (∀ z, z = cmpB kk key → (z < 0 → kLt kk key) ∧ (¬ z < 0 → ¬ kLt kk key)) := by rintro z rfl; exact ⟨fun h => h, fun h => h⟩
        obtain ⟨z, hz⟩ : ∃ z, z = cmpB kk key := ⟨_, rfl⟩
        rw [← hz] at hcl
        have Hz := hide hz
        clear hz
        by_cases hc0 : z < 0
        · have hd0 : decide (z < 0) = true := decide_eq_true hc0
          go_wp2_with (go_at_call 176; refine (hcl _).mono ?_; rintro e wx ⟨rfl, rfl⟩)
          go_roundg (j - (c + 1))
          case measure => omega
          case rel => exact ⟨c + 1, j, by omega, by omega, by omega, by simp, rfl, ⟨fun t x ht hx => by
              have hF := unhide HF
              have hS := unhide HS
              have h1 : kLt kk key := (unhide Hd z (unhide Hz)).1 hc0
              rcases Nat.lt_or_ge t c with h2 | h2
              · have hc' := unhide Hx
                obtain ⟨ht1, rfl⟩ := List.getElem?_eq_some_iff.1 hx
                obtain ⟨hc1', hc2'⟩ := List.getElem?_eq_some_iff.1 hc'
                have := List.pairwise_iff_getElem.1 hS t c ht1 hc1' h2
                rw [hc2'] at this
                exact kLt_trans this h1
              · obtain rfl : t = c := by omega
                rw [unhide Hx] at hx
                simp at hx
                subst hx
                exact h1, (unhide HF).2⟩, (unhide HB).alloc (unhide HB).size _⟩
        · have hd0 : decide (z < 0) = false := decide_eq_false hc0
          go_wp2_with (go_at_call 176; refine (hcl _).mono ?_; rintro e wx ⟨rfl, rfl⟩)
          go_roundg (c - i)
          case measure => omega
          case rel => exact ⟨i, c, by omega, by omega, by omega, rfl, rfl, ⟨(unhide HF).1, fun t x ht hx hlt' => by
              have hS := unhide HS
              have h1 : ¬ kLt kk key := (unhide Hd z (unhide Hz)).2 hc0
              rcases Nat.lt_or_ge c t with h2 | h2
              · have hc' := unhide Hx
                obtain ⟨ht1, rfl⟩ := List.getElem?_eq_some_iff.1 hx
                obtain ⟨hc1', hc2'⟩ := List.getElem?_eq_some_iff.1 hc'
                have := List.pairwise_iff_getElem.1 hS c t hc1' ht1 h2
                rw [hc2'] at this
                exact h1 (kLt_trans this hlt')
              · obtain rfl : t = c := by omega
                rw [unhide Hx] at hx
                simp at hx
                subst hx
                exact h1 hlt'⟩, (unhide HB).alloc (unhide HB).size _⟩
      · have hltz : ¬ (i : Int) < (j : Int) := by omega
        obtain rfl : i = j := by omega
        have hfound : ∀ is', (is' = true ∧ ∃ x, its[i]? = some x ∧ x.key = key) ∨ (is' = false ∧ ∀ x, its[i]? = some x → x.key ≠ key) → Found its key i is' := by
          intro is' h
          refine ⟨by have := unhide HN; omega, fun x hx => ?_, ?_⟩
          · obtain ⟨t, ht, rfl⟩ := List.mem_iff_getElem.1 hx
            rw [List.length_take] at ht
            exact (unhide HF).1 t _ (by omega) (by rw [List.getElem?_eq_getElem (by omega), List.getElem_take])
          · rcases h with h | ⟨h1, h2⟩
            · exact .inl h
            · refine .inr ⟨h1, fun x hx => ?_⟩
              obtain ⟨t, ht, rfl⟩ := List.mem_iff_getElem.1 hx
              rw [List.length_drop] at ht
              rw [List.getElem_drop]
              have h3 := (unhide HF).2 (i + t) _ (by omega) (List.getElem?_eq_getElem (by omega))
              rcases kLt_tri (its[i + t]'(by omega)).key key with h4 | h4 | h4
              · exact absurd h4 h3
              · exfalso
                rcases Nat.eq_zero_or_pos t with h5 | h5
                · subst h5
                  exact h2 _ (List.getElem?_eq_getElem (by omega)) h4
                · have h6 := List.pairwise_iff_getElem.1 (unhide HS) i (i + t) (by omega) (by omega) (by omega)
                  rw [h4] at h6
                  exact (unhide HF).2 i _ (by omega) (List.getElem?_eq_getElem (by omega)) h6
              · exact h4
        have HFo := hide hfound
        clear hfound
        by_cases hiN : i < N
        · have hiz : (i : Int) < (N : Int) := by omega
          obtain ⟨kk, nn, xx, hx, q1, q2, q3⟩ := unhide HC i (by omega)
          have bw := unhide HB
          have c1 := (bw.cell (p := ⟨g, i * 3, none⟩) hg).trans q1
          have c2 := (bw.cell (p := ⟨g, i * 3 + 1, none⟩) hg).trans q2
          have c3 := (bw.cell (p := ⟨g, i * 3 + 2, none⟩) hg).trans q3
          have hcl := fun wx => closure_calls kk nn xx key wx
          have Hx := hide hx
          clear hx q1 q2 q3 bw
          obtain ⟨z, hz⟩ : ∃ z, z = cmpB kk key := ⟨_, rfl⟩
          rw [← hz] at hcl
          have Hz := hide hz
          clear hz
          go_wp2_with (go_at_call 176; refine (hcl _).mono ?_; rintro e wx ⟨rfl, rfl⟩)
          go_ret2
          refine ⟨i, z == 0, rfl, unhide HFo _ ?_, (unhide HB).alloc (unhide HB).size _⟩
          have hz := unhide Hz
          by_cases hz0 : z = 0
          · left
            refine ⟨by simp [hz0], _, unhide Hx, ?_⟩
            exact (cmpB_zero _ _).1 (by rw [← hz, hz0])
          · right
            refine ⟨by simp [hz0], fun x hx' he => ?_⟩
            rw [unhide Hx] at hx'
            simp at hx'
            subst hx'
            exact hz0 (by rw [hz]; exact (cmpB_zero _ _).2 he)
        · have hiz : ¬ (i : Int) < (N : Int) := by omega
          go_wp2_with fail
          go_ret2
          refine ⟨i, false, rfl, unhide HFo _ (.inr ⟨rfl, fun x hx' => ?_⟩), unhide HB⟩
          have := (List.getElem?_eq_some_iff.1 hx').1
          have := unhide HN
          omega
theorem find_calls (b : Nat) (v0 : Value) (its : List Item) (key : ByteArray) (w : World) (h1 : w.cell? ⟨b, 0, none⟩ = some v0) (base : Nat) (ho : w.ownsRow base 190 3 v0 its.length (flat its)) (hs : Sorted its) (hn : its.length ≤ 100) :
    Calls Tryz.prog 131 #[.pointer (some ⟨b, 0, none⟩), .string key] w fun e w' => FindEnd its key w e w' := by
  have hc := search_calls base v0 its key w ho hs hn
  have HO := ho.2
  rcases HO with ⟨rfl, h0⟩ | ⟨g, cap, cur, rfl, _⟩
  · clear ho
    have Hc := hide hc
    have H0 := hide h0
    clear hc h0
    go_enter Tryz.func131, Tryz.ntmps131
    go_wp2_with (go_at_call 175; refine (unhide Hc).mono ?_; rintro e wx ⟨at', is', rfl, hF, hB⟩; have HF := hide hF; have HB := hide hB; clear hF hB)
    go_ret2
    exact ⟨at', is', rfl, HF, HB⟩
  · clear ho
    have Hc := hide hc
    clear hc
    go_enter Tryz.func131, Tryz.ntmps131
    go_wp2_with (go_at_call 175; refine (unhide Hc).mono ?_; rintro e wx ⟨at', is', rfl, hF, hB⟩; have HF := hide hF; have HB := hide hB; clear hF hB)
    go_ret2
    exact ⟨at', is', rfl, HF, HB⟩
end Go.Proofs.YtjpmomklkkifjaaGreatDoor.T
