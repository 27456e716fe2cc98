/-
  A map of nodes by their numbers, as a piece of memory: what is looked up, laid, struck. A map of values by numbers, as a piece of memory: what is looked up, laid. Go's slices.SortFunc lies in the program, at nodes and at changes.
-/
import Derived.Test.YtjpmomklkkifjaaGreatDoorCBOwn
import Derived.Test.YtjpmomklkkifjaaGreatDoorProg
import Derived.Maps.RangeWalk
import Derived.Maps.Ext
import Derived.Maps.OwnSet
import Derived.Shelf.SlSortCmp.NoneTotal
namespace Go.Proofs.YtjpmomklkkifjaaGreatDoor.T
open Go.RowKit
open Go.Maps (Keyed)
open Go.WideElems (rd rg pl)
set_option maxRecDepth 100000
set_option linter.unusedVariables false
set_option linter.unusedSimpArgs false

def Rv (v : Value) : Option (DataW Value × List MemPlace) := some (.held v, [])

structure NV where
  id : Int
  kind : Int
  up : Int
  links : Int
  text : ByteArray
  tb : Option Nat
def NV.ptr (v : NV) : Option Addr := v.tb.map fun b => ⟨b, 0, none⟩
def NV.val (v : NV) : Value := .agg #[.int .i64 v.id, .int .i64 v.kind, .int .i64 v.up, .int .i64 v.links, .string v.text, .pointer v.ptr]
def NV.zero : NV := ⟨0, 0, 0, 0, ⟨#[]⟩, none⟩

def WfI (i : Int) : Prop := (Lit.int .i64 i).wf = true
theorem wfI_of {i : Int} (h1 : -9223372036854775808 ≤ i) (h2 : i ≤ 9223372036854775807) : WfI i := by
  unfold WfI Lit.wf
  simp [IntKind.wrap, IntKind.signed, IntKind.bits, IntKind.min, IntKind.max]
  omega
def findN (N : List NV) (i : Int) : Option NV := N.find? fun v => v.id == i
def atN (N : List NV) (i : Int) : NV := (findN N i).getD NV.zero
def putN (N : List NV) (v : NV) : List NV := if (findN N v.id).isSome then N.map (fun x => if x.id == v.id then v else x) else N ++ [v]
def delN (N : List NV) (i : Int) : List NV := N.filter fun v => !(v.id == i)

structure MapN (N : List NV) (D : DataW Value) : Prop where
  size : Maps.size D = N.length
  look : ∀ i z, WfI i → D.atKey (.int .i64 i) z = (match findN N i with | none => z | some v => .held v.val)
  nodup : (N.map NV.id).Nodup
  wf : ∀ v ∈ N, WfI v.id

theorem key_int (i : Int) : WideAt.IsKeyLit (.int .i64 i) := by trivial
theorem findN_some {N : List NV} {i : Int} {v : NV} (h : findN N i = some v) : v ∈ N ∧ v.id = i := ⟨List.mem_of_find?_eq_some h, by have := List.find?_some h; simpa using this⟩
theorem findN_none {N : List NV} {i : Int} (h : findN N i = none) : ∀ v ∈ N, v.id ≠ i := by
  intro v hv e
  have := List.find?_eq_none.1 h v hv
  simp [e] at this
theorem findN_mem {N : List NV} (hn : (N.map NV.id).Nodup) {v : NV} (hv : v ∈ N) : findN N v.id = some v := by
  induction N with
  | nil => simp at hv
  | cons x N ih =>
    simp only [List.map_cons, List.nodup_cons] at hn
    unfold findN
    rw [List.find?_cons]
    rcases List.mem_cons.1 hv with rfl | hv
    · simp
    · have hne : x.id ≠ v.id := fun e => hn.1 (by rw [e]; exact List.mem_map.2 ⟨v, hv, rfl⟩)
      have : (x.id == v.id) = false := by simpa using hne
      rw [this]
      exact ih hn.2 hv

theorem putN_ids (N : List NV) (v : NV) : (putN N v).map NV.id = if (findN N v.id).isSome then N.map NV.id else N.map NV.id ++ [v.id] := by
  unfold putN
  split
  · rw [List.map_map]
    refine List.map_congr_left fun x _ => ?_
    show (if (x.id == v.id) = true then v else x).id = x.id
    split
    · rename_i h; simp at h; exact h.symm
    · rfl
  · simp
theorem putN_nodup {N : List NV} (hn : (N.map NV.id).Nodup) (v : NV) : ((putN N v).map NV.id).Nodup := by
  rw [putN_ids]
  split
  · exact hn
  · rename_i h
    have h0 : findN N v.id = none := by cases hf : findN N v.id with | none => rfl | some x => rw [hf] at h; simp at h
    rw [List.nodup_append]
    refine ⟨hn, by simp, fun a ha b hb => ?_⟩
    simp at hb
    subst hb
    obtain ⟨x, hx, rfl⟩ := List.mem_map.1 ha
    exact findN_none h0 x hx
theorem putN_length (N : List NV) (v : NV) : (putN N v).length = if (findN N v.id).isSome then N.length else N.length + 1 := by
  unfold putN
  split <;> simp
theorem find_map_same {N : List NV} {v : NV} (h : (findN N v.id).isSome = true) : (N.map (fun x => if x.id == v.id then v else x)).find? (fun x => x.id == v.id) = some v := by
  induction N with
  | nil => simp [findN] at h
  | cons x N ih =>
    rw [List.map_cons, List.find?_cons]
    by_cases hx : (x.id == v.id) = true
    · rw [if_pos hx]; simp
    · rw [if_neg hx]
      have hx' : (x.id == v.id) = false := by simpa using hx
      rw [hx']
      refine ih ?_
      unfold findN at h ⊢
      rw [List.find?_cons, hx'] at h
      exact h
theorem find_map_other {N : List NV} {v : NV} {i : Int} (h : i ≠ v.id) : (N.map (fun x => if x.id == v.id then v else x)).find? (fun x => x.id == i) = N.find? (fun x => x.id == i) := by
  induction N with
  | nil => rfl
  | cons x N ih =>
    rw [List.map_cons, List.find?_cons, List.find?_cons, ih]
    by_cases hx : (x.id == v.id) = true
    · rw [if_pos hx]
      have h1 : (v.id == i) = false := by simpa using fun e => h e.symm
      have h2 : (x.id == i) = false := by have hx' : x.id = v.id := by simpa using hx
                                          rw [hx']; exact h1
      rw [h1, h2]
    · rw [if_neg hx]
theorem findN_put_same (N : List NV) (v : NV) : findN (putN N v) v.id = some v := by
  unfold putN
  split
  · rename_i h; exact find_map_same h
  · rename_i h
    have h0 : findN N v.id = none := by cases hf : findN N v.id with | none => rfl | some x => rw [hf] at h; simp at h
    unfold findN at h0 ⊢
    rw [List.find?_append, h0]
    simp
theorem findN_put_other {N : List NV} {v : NV} {i : Int} (h : i ≠ v.id) : findN (putN N v) i = findN N i := by
  unfold putN
  split
  · exact find_map_other h
  · unfold findN
    rw [List.find?_append]
    have h1 : (v.id == i) = false := by simpa using fun e => h e.symm
    rw [List.find?_cons, h1]
    simp
theorem findN_del_same (N : List NV) (i : Int) : findN (delN N i) i = none := by
  unfold findN delN
  rw [List.find?_eq_none]
  intro x hx
  have := (List.mem_filter.1 hx).2
  simpa using this
theorem findN_del_other {N : List NV} {i j : Int} (h : j ≠ i) : findN (delN N i) j = findN N j := by
  unfold findN delN
  exact Maps.find_filter_keep (fun v hv => by simp at hv ⊢; rw [hv]; exact h) N
theorem delN_length {N : List NV} (hn : (N.map NV.id).Nodup) (i : Int) : (delN N i).length + (if (findN N i).isSome then 1 else 0) = N.length := by
  induction N with
  | nil => rfl
  | cons x N ih =>
    simp only [List.map_cons, List.nodup_cons] at hn
    have := ih hn.2
    unfold delN findN at *
    rw [List.filter_cons, List.find?_cons]
    by_cases hx : (x.id == i) = true
    · have hi : N.find? (fun v => v.id == i) = none := by
        rw [List.find?_eq_none]
        intro y hy e
        have e1 : y.id = i := by simpa using e
        have e2 : x.id = i := by simpa using hx
        exact hn.1 (List.mem_map.2 ⟨y, hy, by rw [e1, e2]⟩)
      rw [hi] at this
      simp only [hx]
      simp at this ⊢
      omega
    · have hx' : (x.id == i) = false := by simpa using hx
      simp only [hx']
      simp only [Bool.not_false, if_true, List.length_cons]
      omega

theorem MapN.has {N : List NV} {D : DataW Value} (h : MapN N D) {i : Int} (hi : WfI i) : Maps.has D (.int .i64 i) = (findN N i).isSome := by
  cases hf : findN N i with
  | none => exact Maps.has_false_of_atKey fun z => by rw [h.look i z hi, hf]
  | some v => exact Maps.has_true_of_atKey (y := .held v.val) fun z => by rw [h.look i z hi, hf]
theorem MapN.put {N : List NV} {D : DataW Value} (h : MapN N D) (ht : Maps.Tidy D) {v : NV} (hi : WfI v.id) : MapN (putN N v) (D.put (.int .i64 v.id) (.held v.val)) := by
  refine ⟨?_, fun i z hw => ?_, putN_nodup h.nodup v, fun x hx => ?_⟩
  · rw [Maps.size_put ht, h.has hi, h.size, putN_length]
  · by_cases he : i = v.id
    · subst he
      rw [Maps.atKey_put_same ht.isMap (key_int _), findN_put_same]
    · rw [Maps.atKey_put_other (by intro e; cases e; exact he rfl), h.look i z hw, findN_put_other he]
  · have : x.id ∈ (putN N v).map NV.id := List.mem_map.2 ⟨x, hx, rfl⟩
    rw [putN_ids] at this
    split at this
    · obtain ⟨y, hy, e⟩ := List.mem_map.1 this
      rw [← e]; exact h.wf y hy
    · rcases List.mem_append.1 this with h1 | h1
      · obtain ⟨y, hy, e⟩ := List.mem_map.1 h1
        rw [← e]; exact h.wf y hy
      · simp at h1; rw [h1]; exact hi
theorem MapN.del {N : List NV} {D : DataW Value} (h : MapN N D) (ht : Maps.Tidy D) {i : Int} (hi : WfI i) : MapN (delN N i) (D.del (.int .i64 i)) := by
  refine ⟨?_, fun j z hw => ?_, ?_, fun x hx => h.wf x (List.mem_filter.1 hx).1⟩
  · have h1 := Maps.size_del (k := .int .i64 i) ht
    rw [h.has hi, h.size] at h1
    have h2 := delN_length h.nodup i
    omega
  · by_cases he : j = i
    · subst he
      rw [Maps.atKey_del_same, findN_del_same]
    · rw [Maps.atKey_del_other (by intro e; cases e; exact he rfl), h.look j z hw, findN_del_other he]
  · have e : (delN N i).map NV.id = (N.map NV.id).filter fun x => !(x == i) := by
      unfold delN
      rw [List.filter_map]
      rfl
    rw [e]
    exact h.nodup.filter _

def IsMapN (N : List NV) (o : Obj) : Prop := ∃ es clock, o = .map es clock ∧ Go.WideElems.Fit Tryz.prog 3 Rv es clock ∧ MapN N (.map ((es.toList.map (rg Tryz.prog 3 Rv)).foldr DataW.insert []))

theorem kI : Keyed Tryz.prog 3 := Maps.int_keyed Tryz.underlying3
theorem keyI {i : Int} (h : WfI i) : keyOf Tryz.prog 3 (.int .i64 i) = some (.int .i64 i) := Maps.keyOf_int_mk Tryz.underlying3 h

theorem sat_owns {base : Nat} {w : World} {b : Nat} {N : List NV} (h : Res.Sat base w (.obj b (IsMapN N))) : ∃ D, w.ownsMap Tryz.prog 3 Rv b N.length D ∧ MapN N D := by
  obtain ⟨_, o, ho, es, clock, rfl, F, hm⟩ := h
  have := hm.size
  simp [Maps.size, length_sorted] at this
  exact ⟨_, ⟨es, clock, ho, F, by omega, rfl⟩, hm⟩
theorem owns_sat {base : Nat} {w : World} {b n : Nat} {N : List NV} {D : DataW Value} (hb : base ≤ b) (h : w.ownsMap Tryz.prog 3 Rv b n D) (hm : MapN N D) : Res.Sat base w (.obj b (IsMapN N)) := by
  obtain ⟨es, clock, ho, F, _, rfl⟩ := h
  exact ⟨hb, _, ho, es, clock, rfl, F, hm⟩

theorem look_run {base : Nat} {w : World} {b : Nat} {N : List NV} (h : Res.Sat base w (.obj b (IsMapN N))) {i : Int} (hi : WfI i) : (Instr.lookup 75 (.map (some b)) (.int .i64 i) false).run Tryz.prog w = .ok (atN N i).val w := by
  obtain ⟨D, ho, hm⟩ := sat_owns h
  obtain ⟨v, ps, hrun, hv⟩ := ho.lookup kI Tryz.underlying75 (z := NV.zero.val) (Tryz.zeroValue80 w) (zd := .held NV.zero.val) (zp := []) rfl (keyI hi)
  rw [hrun, hm.look i _ hi] at *
  unfold Rv at hv
  unfold atN
  cases hf : findN N i with
  | none => rw [hf] at hv; simp at hv; rw [hv.1]; rfl
  | some x => rw [hf] at hv; simp at hv; rw [hv.1]; rfl
theorem len_run {base : Nat} {w : World} {b : Nat} {N : List NV} (h : Res.Sat base w (.obj b (IsMapN N))) (ty : TypeId) : (Builtin.len_ #[75] ty #[.map (some b)]).run Tryz.prog w = .ok (.int .i64 N.length) w := by
  obtain ⟨D, ho, hm⟩ := sat_owns h
  rw [ho.len Tryz.underlying75 ty, hm.size]

theorem Hold.mapPut {base : Nat} {w0 w : World} {K0 : Nat → Nat} (l1 : List Res) {b : Nat} {N : List NV} {l2 : List Res} (H : Hold base w0 K0 w (l1 ++ .obj b (IsMapN N) :: l2)) (hN : N.length ≤ 1000) (v : NV) (hi : WfI v.id) :
    ∃ w', (Instr.mapUpdate 75 (.map (some b)) (.int .i64 v.id) v.val).run Tryz.prog w = .ok () w' ∧ Hold base w0 K0 w' (l1 ++ .obj b (IsMapN (putN N v)) :: l2) := by
  have hs := H.sat (.obj b (IsMapN N)) (by simp)
  obtain ⟨D, ho, hm⟩ := sat_owns hs
  obtain ⟨w', hrun, ho', hg⟩ := ho.update kI Tryz.underlying75 (by unfold maxLen; omega) (val := v.val) (d := .held v.val) (ps := []) (keyI hi) rfl
  refine ⟨w', hrun, H.put l1 ((Kept.refl _ w).grown hg fun x hx _ => ?_) (owns_sat hs.1 ho' (hm.put (ho.tidy kI) hi)) (fun x _ => Nat.le_refl _) (one_le b)⟩
  cases hx
  show 0 < one b b
  rw [one_self]; decide
theorem Hold.mapDel {base : Nat} {w0 w : World} {K0 : Nat → Nat} (l1 : List Res) {b : Nat} {N : List NV} {l2 : List Res} (H : Hold base w0 K0 w (l1 ++ .obj b (IsMapN N) :: l2)) (i : Int) (hi : WfI i) (ty : TypeId) :
    ∃ w', (Builtin.delete_ #[75, 3] ty #[.map (some b), .int .i64 i]).run Tryz.prog w = .ok (.tuple #[]) w' ∧ Hold base w0 K0 w' (l1 ++ .obj b (IsMapN (delN N i)) :: l2) := by
  have hs := H.sat (.obj b (IsMapN N)) (by simp)
  obtain ⟨D, ho, hm⟩ := sat_owns hs
  obtain ⟨w', hrun, ho', hg⟩ := ho.drop kI Tryz.underlying75 (keyI hi) ty
  refine ⟨w', hrun, H.put l1 ((Kept.refl _ w).grown hg.grown fun x hx _ => ?_) (owns_sat hs.1 ho' (hm.del (ho.tidy kI) hi)) (fun x _ => Nat.le_refl _) (one_le b)⟩
  cases hx
  show 0 < one b b
  rw [one_self]; decide
theorem Hold.mapNew {base : Nat} {w0 w : World} {K0 : Nat → Nat} {rs : List Res} (H : Hold base w0 K0 w rs) (hb : base ≤ w.heap.size) : Hold base w0 K0 (w.alloc (.map #[] 0)) (.obj w.heap.size (IsMapN []) :: rs) := by
  refine H.new ((Kept.refl _ w).alloc _) (owns_sat hb (World.ownsMap_made w Tryz.prog 3 Rv) ⟨rfl, fun i z _ => rfl, by simp, by simp⟩) (fun x hx => by obtain rfl := one_pos.1 hx; exact Nat.le_refl _) (one_le _)

end Go.Proofs.YtjpmomklkkifjaaGreatDoor.T
namespace Go.Proofs.YtjpmomklkkifjaaGreatDoor.T.P
open Go.RowKit
open Go.Maps (Keyed)
open Go.WideElems (rd rg pl)
open Go.Proofs.YtjpmomklkkifjaaGreatDoor.T
set_option maxRecDepth 100000
set_option linter.unusedVariables false
set_option linter.unusedSimpArgs false

structure PV where
  id : Int
  val : Value

def findP (N : List PV) (i : Int) : Option PV := N.find? fun v => v.id == i
def atP (z : Value) (N : List PV) (i : Int) : Value := ((findP N i).map PV.val).getD z
def putP (N : List PV) (v : PV) : List PV := if (findP N v.id).isSome then N.map (fun x => if x.id == v.id then v else x) else N ++ [v]

structure MapP (N : List PV) (D : DataW Value) : Prop where
  size : Maps.size D = N.length
  look : ∀ i z, WfI i → D.atKey (.int .i64 i) z = (match findP N i with | none => z | some v => .held v.val)
  nodup : (N.map PV.id).Nodup
  wf : ∀ v ∈ N, WfI v.id

theorem findP_some {N : List PV} {i : Int} {v : PV} (h : findP N i = some v) : v ∈ N ∧ v.id = i := ⟨List.mem_of_find?_eq_some h, by have := List.find?_some h; simpa using this⟩
theorem findP_none {N : List PV} {i : Int} (h : findP N i = none) : ∀ v ∈ N, v.id ≠ i := by
  intro v hv e
  have := List.find?_eq_none.1 h v hv
  simp [e] at this
theorem findP_mem {N : List PV} (hn : (N.map PV.id).Nodup) {v : PV} (hv : v ∈ N) : findP N v.id = some v := by
  induction N with
  | nil => simp at hv
  | cons x N ih =>
    simp only [List.map_cons, List.nodup_cons] at hn
    unfold findP
    rw [List.find?_cons]
    rcases List.mem_cons.1 hv with rfl | hv
    · simp
    · have hne : x.id ≠ v.id := fun e => hn.1 (by rw [e]; exact List.mem_map.2 ⟨v, hv, rfl⟩)
      have : (x.id == v.id) = false := by simpa using hne
      rw [this]
      exact ih hn.2 hv

theorem putP_ids (N : List PV) (v : PV) : (putP N v).map PV.id = if (findP N v.id).isSome then N.map PV.id else N.map PV.id ++ [v.id] := by
  unfold putP
  split
  · rw [List.map_map]
    refine List.map_congr_left fun x _ => ?_
    show (if (x.id == v.id) = true then v else x).id = x.id
    split
    · rename_i h; simp at h; exact h.symm
    · rfl
  · simp
theorem putP_nodup {N : List PV} (hn : (N.map PV.id).Nodup) (v : PV) : ((putP N v).map PV.id).Nodup := by
  rw [putP_ids]
  split
  · exact hn
  · rename_i h
    have h0 : findP N v.id = none := by cases hf : findP N v.id with | none => rfl | some x => rw [hf] at h; simp at h
    rw [List.nodup_append]
    refine ⟨hn, by simp, fun a ha b hb => ?_⟩
    simp at hb
    subst hb
    obtain ⟨x, hx, rfl⟩ := List.mem_map.1 ha
    exact findP_none h0 x hx
theorem putP_length (N : List PV) (v : PV) : (putP N v).length = if (findP N v.id).isSome then N.length else N.length + 1 := by
  unfold putP
  split <;> simp
theorem find_map_same {N : List PV} {v : PV} (h : (findP N v.id).isSome = true) : (N.map (fun x => if x.id == v.id then v else x)).find? (fun x => x.id == v.id) = some v := by
  induction N with
  | nil => simp [findP] at h
  | cons x N ih =>
    rw [List.map_cons, List.find?_cons]
    by_cases hx : (x.id == v.id) = true
    · rw [if_pos hx]; simp
    · rw [if_neg hx]
      have hx' : (x.id == v.id) = false := by simpa using hx
      rw [hx']
      refine ih ?_
      unfold findP at h ⊢
      rw [List.find?_cons, hx'] at h
      exact h
theorem find_map_other {N : List PV} {v : PV} {i : Int} (h : i ≠ v.id) : (N.map (fun x => if x.id == v.id then v else x)).find? (fun x => x.id == i) = N.find? (fun x => x.id == i) := by
  induction N with
  | nil => rfl
  | cons x N ih =>
    rw [List.map_cons, List.find?_cons, List.find?_cons, ih]
    by_cases hx : (x.id == v.id) = true
    · rw [if_pos hx]
      have h1 : (v.id == i) = false := by simpa using fun e => h e.symm
      have h2 : (x.id == i) = false := by have hx' : x.id = v.id := by simpa using hx
                                          rw [hx']; exact h1
      rw [h1, h2]
    · rw [if_neg hx]
theorem findP_put_same (N : List PV) (v : PV) : findP (putP N v) v.id = some v := by
  unfold putP
  split
  · rename_i h; exact find_map_same h
  · rename_i h
    have h0 : findP N v.id = none := by cases hf : findP N v.id with | none => rfl | some x => rw [hf] at h; simp at h
    unfold findP at h0 ⊢
    rw [List.find?_append, h0]
    simp
theorem findP_put_other {N : List PV} {v : PV} {i : Int} (h : i ≠ v.id) : findP (putP N v) i = findP N i := by
  unfold putP
  split
  · exact find_map_other h
  · unfold findP
    rw [List.find?_append]
    have h1 : (v.id == i) = false := by simpa using fun e => h e.symm
    rw [List.find?_cons, h1]
    simp
theorem MapP.has {N : List PV} {D : DataW Value} (h : MapP N D) {i : Int} (hi : WfI i) : Maps.has D (.int .i64 i) = (findP N i).isSome := by
  cases hf : findP N i with
  | none => exact Maps.has_false_of_atKey fun z => by rw [h.look i z hi, hf]
  | some v => exact Maps.has_true_of_atKey (y := .held v.val) fun z => by rw [h.look i z hi, hf]
theorem MapP.put {N : List PV} {D : DataW Value} (h : MapP N D) (ht : Maps.Tidy D) {v : PV} (hi : WfI v.id) : MapP (putP N v) (D.put (.int .i64 v.id) (.held v.val)) := by
  refine ⟨?_, fun i z hw => ?_, putP_nodup h.nodup v, fun x hx => ?_⟩
  · rw [Maps.size_put ht, h.has hi, h.size, putP_length]
  · by_cases he : i = v.id
    · subst he
      rw [Maps.atKey_put_same ht.isMap (key_int _), findP_put_same]
    · rw [Maps.atKey_put_other (by intro e; cases e; exact he rfl), h.look i z hw, findP_put_other he]
  · have : x.id ∈ (putP N v).map PV.id := List.mem_map.2 ⟨x, hx, rfl⟩
    rw [putP_ids] at this
    split at this
    · obtain ⟨y, hy, e⟩ := List.mem_map.1 this
      rw [← e]; exact h.wf y hy
    · rcases List.mem_append.1 this with h1 | h1
      · obtain ⟨y, hy, e⟩ := List.mem_map.1 h1
        rw [← e]; exact h.wf y hy
      · simp at h1; rw [h1]; exact hi
def IsMapP (N : List PV) (o : Obj) : Prop := ∃ es clock, o = .map es clock ∧ Go.WideElems.Fit Tryz.prog 3 Rv es clock ∧ MapP N (.map ((es.toList.map (rg Tryz.prog 3 Rv)).foldr DataW.insert []))
theorem sat_owns {base : Nat} {w : World} {b : Nat} {N : List PV} (h : Res.Sat base w (.obj b (IsMapP N))) : ∃ D, w.ownsMap Tryz.prog 3 Rv b N.length D ∧ MapP N D := by
  obtain ⟨_, o, ho, es, clock, rfl, F, hm⟩ := h
  have := hm.size
  simp [Maps.size, length_sorted] at this
  exact ⟨_, ⟨es, clock, ho, F, by omega, rfl⟩, hm⟩
theorem owns_sat {base : Nat} {w : World} {b n : Nat} {N : List PV} {D : DataW Value} (hb : base ≤ b) (h : w.ownsMap Tryz.prog 3 Rv b n D) (hm : MapP N D) : Res.Sat base w (.obj b (IsMapP N)) := by
  obtain ⟨es, clock, ho, F, _, rfl⟩ := h
  exact ⟨hb, _, ho, es, clock, rfl, F, hm⟩
theorem zero167 (w : World) : (zeroValue 167).run Tryz.prog w = .ok (.pointer none) w := by first | kernel_rfl | rfl | (simp [zeroValue, go_sem]; done)
theorem zero30 (w : World) : (zeroValue 30).run Tryz.prog w = .ok (.slice none 0 0) w := by first | kernel_rfl | rfl | (simp [zeroValue, go_sem]; done)

theorem look116 {base : Nat} {w : World} {b : Nat} {N : List PV} (h : Res.Sat base w (.obj b (IsMapP N))) {i : Int} (hi : WfI i) : (Instr.lookup 116 (.map (some b)) (.int .i64 i) true).run Tryz.prog w = .ok (.tuple #[atP (.pointer none) N i, .bool (findP N i).isSome]) w := by
  obtain ⟨D, ho, hm⟩ := sat_owns h
  obtain ⟨v, ps, hrun, hv⟩ := ho.look_ok kI Tryz.underlying116 (z := .pointer none) (zero167 w) (zd := .held (.pointer none)) (zp := []) rfl (keyI hi)
  rw [hrun, hm.has hi, hm.look i _ hi] at *
  unfold Rv at hv
  unfold atP
  cases hf : findP N i with
  | none => rw [hf] at hv; simp at hv; rw [hv.1]; rfl
  | some x => rw [hf] at hv; simp at hv; rw [hv.1]; rfl
theorem look117 {base : Nat} {w : World} {b : Nat} {N : List PV} (h : Res.Sat base w (.obj b (IsMapP N))) {i : Int} (hi : WfI i) : (Instr.lookup 117 (.map (some b)) (.int .i64 i) false).run Tryz.prog w = .ok (atP (.slice none 0 0) N i) w := by
  obtain ⟨D, ho, hm⟩ := sat_owns h
  obtain ⟨v, ps, hrun, hv⟩ := ho.lookup kI Tryz.underlying117 (z := .slice none 0 0) (zero30 w) (zd := .held (.slice none 0 0)) (zp := []) rfl (keyI hi)
  rw [hrun, hm.look i _ hi] at *
  unfold Rv at hv
  unfold atP
  cases hf : findP N i with
  | none => rw [hf] at hv; simp at hv; rw [hv.1]; rfl
  | some x => rw [hf] at hv; simp at hv; rw [hv.1]; rfl
theorem look116f {base : Nat} {w : World} {b : Nat} {N : List PV} (h : Res.Sat base w (.obj b (IsMapP N))) {i : Int} (hi : WfI i) : (Instr.lookup 116 (.map (some b)) (.int .i64 i) false).run Tryz.prog w = .ok (atP (.pointer none) N i) w := by
  obtain ⟨D, ho, hm⟩ := sat_owns h
  obtain ⟨v, ps, hrun, hv⟩ := ho.lookup kI Tryz.underlying116 (z := .pointer none) (zero167 w) (zd := .held (.pointer none)) (zp := []) rfl (keyI hi)
  rw [hrun, hm.look i _ hi] at *
  unfold Rv at hv
  unfold atP
  cases hf : findP N i with
  | none => rw [hf] at hv; simp at hv; rw [hv.1]; rfl
  | some x => rw [hf] at hv; simp at hv; rw [hv.1]; rfl
theorem len116 {base : Nat} {w : World} {b : Nat} {N : List PV} (h : Res.Sat base w (.obj b (IsMapP N))) (ty : TypeId) : (Builtin.len_ #[116] ty #[.map (some b)]).run Tryz.prog w = .ok (.int .i64 N.length) w := by
  obtain ⟨D, ho, hm⟩ := sat_owns h
  rw [ho.len Tryz.underlying116 ty, hm.size]

theorem put116 {base : Nat} {w0 w : World} {K0 : Nat → Nat} (l1 : List Res) {b : Nat} {N : List PV} {l2 : List Res} (H : Hold base w0 K0 w (l1 ++ .obj b (IsMapP N) :: l2)) (hN : N.length ≤ 1000) (v : PV) (hi : WfI v.id) :
    ∃ w', (Instr.mapUpdate 116 (.map (some b)) (.int .i64 v.id) v.val).run Tryz.prog w = .ok () w' ∧ Hold base w0 K0 w' (l1 ++ .obj b (IsMapP (putP N v)) :: l2) := by
  have hs := H.sat (.obj b (IsMapP N)) (by simp)
  obtain ⟨D, ho, hm⟩ := sat_owns hs
  obtain ⟨w', hrun, ho', hg⟩ := ho.update kI Tryz.underlying116 (by unfold maxLen; omega) (val := v.val) (d := .held v.val) (ps := []) (keyI hi) rfl
  refine ⟨w', hrun, H.put l1 ((Kept.refl _ w).grown hg fun x hx _ => ?_) (owns_sat hs.1 ho' (hm.put (ho.tidy kI) hi)) (fun x _ => Nat.le_refl _) (one_le b)⟩
  cases hx
  show 0 < one b b
  rw [one_self]; decide
theorem put117 {base : Nat} {w0 w : World} {K0 : Nat → Nat} (l1 : List Res) {b : Nat} {N : List PV} {l2 : List Res} (H : Hold base w0 K0 w (l1 ++ .obj b (IsMapP N) :: l2)) (hN : N.length ≤ 1000) (v : PV) (hi : WfI v.id) :
    ∃ w', (Instr.mapUpdate 117 (.map (some b)) (.int .i64 v.id) v.val).run Tryz.prog w = .ok () w' ∧ Hold base w0 K0 w' (l1 ++ .obj b (IsMapP (putP N v)) :: l2) := by
  have hs := H.sat (.obj b (IsMapP N)) (by simp)
  obtain ⟨D, ho, hm⟩ := sat_owns hs
  obtain ⟨w', hrun, ho', hg⟩ := ho.update kI Tryz.underlying117 (by unfold maxLen; omega) (val := v.val) (d := .held v.val) (ps := []) (keyI hi) rfl
  refine ⟨w', hrun, H.put l1 ((Kept.refl _ w).grown hg fun x hx _ => ?_) (owns_sat hs.1 ho' (hm.put (ho.tidy kI) hi)) (fun x _ => Nat.le_refl _) (one_le b)⟩
  cases hx
  show 0 < one b b
  rw [one_self]; decide
theorem mapNew {base : Nat} {w0 w : World} {K0 : Nat → Nat} {rs : List Res} (H : Hold base w0 K0 w rs) (hb : base ≤ w.heap.size) : Hold base w0 K0 (w.alloc (.map #[] 0)) (.obj w.heap.size (IsMapP []) :: rs) := by
  refine H.new ((Kept.refl _ w).alloc _) (owns_sat hb (World.ownsMap_made w Tryz.prog 3 Rv) ⟨rfl, fun i z _ => rfl, by simp, by simp⟩) (fun x hx => by obtain rfl := one_pos.1 hx; exact Nat.le_refl _) (one_le _)
end Go.Proofs.YtjpmomklkkifjaaGreatDoor.T.P
namespace Go.Proofs.YtjpmomklkkifjaaGreatDoor.T
open Go.RowKit Go.Shelf
set_option maxRecDepth 100000

def sortRenN : Go.Shelf.Ren := ⟨fun | 6 => 41 | 14 => 82 | 15 => 83 | 20 => 121 | 21 => 122 | 22 => 123 | 23 => 124 | 24 => 125 | 25 => 126 | 26 => 127 | 27 => 128 | 28 => 129 | 29 => 130 | 46 => 170 | 47 => 171 | 48 => 172 | 49 => 173 | 50 => 174 | 57 => 206 | n => n, fun | 0 => 0 | 3 => 3 | 4 => 4 | 5 => 5 | 9 => 9 | 22 => 27 | 24 => 33 | 25 => 83 | 39 => 126 | 45 => 174 | 46 => 175 | 50 => 179 | 53 => 182 | 55 => 62 | 66 => 215 | 70 => 219 | 76 => 245 | 77 => 246 | n => n, fun | n => n⟩
theorem sortLaysN : SlLaysF0.n6 Tryz.prog sortRenN := {
  mixed := by kernel_rfl
  f6 := ⟨"slices.SortFunc[[]jobcase/api.Node,jobcase/api.Node]", by kernel_rfl, Tryz.func41.trans (congrArg some (by kernel_rfl))⟩
  f14 := ⟨"slices.pdqsortCmpFunc[jobcase/api.Node]", by kernel_rfl, Tryz.func82.trans (congrArg some (by kernel_rfl))⟩
  f15 := Tryz.func83.trans (congrArg some (by kernel_rfl))
  f20 := ⟨"slices.insertionSortCmpFunc[jobcase/api.Node]", by kernel_rfl, Tryz.func121.trans (congrArg some (by kernel_rfl))⟩
  f21 := ⟨"slices.heapSortCmpFunc[jobcase/api.Node]", by kernel_rfl, Tryz.func122.trans (congrArg some (by kernel_rfl))⟩
  f22 := ⟨"slices.breakPatternsCmpFunc[jobcase/api.Node]", by kernel_rfl, Tryz.func123.trans (congrArg some (by kernel_rfl))⟩
  f23 := ⟨"slices.choosePivotCmpFunc[jobcase/api.Node]", by kernel_rfl, Tryz.func124.trans (congrArg some (by kernel_rfl))⟩
  f24 := ⟨"slices.reverseRangeCmpFunc[jobcase/api.Node]", by kernel_rfl, Tryz.func125.trans (congrArg some (by kernel_rfl))⟩
  f25 := ⟨"slices.partialInsertionSortCmpFunc[jobcase/api.Node]", by kernel_rfl, Tryz.func126.trans (congrArg some (by kernel_rfl))⟩
  f26 := ⟨"slices.partitionEqualCmpFunc[jobcase/api.Node]", by kernel_rfl, Tryz.func127.trans (congrArg some (by kernel_rfl))⟩
  f27 := ⟨"slices.partitionCmpFunc[jobcase/api.Node]", by kernel_rfl, Tryz.func128.trans (congrArg some (by kernel_rfl))⟩
  f28 := Tryz.func129.trans (congrArg some (by kernel_rfl))
  f29 := Tryz.func130.trans (congrArg some (by kernel_rfl))
  f46 := ⟨"slices.siftDownCmpFunc[jobcase/api.Node]", by kernel_rfl, Tryz.func170.trans (congrArg some (by kernel_rfl))⟩
  f47 := Tryz.func171.trans (congrArg some (by kernel_rfl))
  f48 := Tryz.func172.trans (congrArg some (by kernel_rfl))
  f49 := ⟨"slices.medianAdjacentCmpFunc[jobcase/api.Node]", by kernel_rfl, Tryz.func173.trans (congrArg some (by kernel_rfl))⟩
  f50 := ⟨"slices.medianCmpFunc[jobcase/api.Node]", by kernel_rfl, Tryz.func174.trans (congrArg some (by kernel_rfl))⟩
  f57 := ⟨"slices.order2CmpFunc[jobcase/api.Node]", by kernel_rfl, Tryz.func206.trans (congrArg some (by kernel_rfl))⟩
  t0 := Tryz.underlying0
  a0 := Tryz.isAgg0
  z0 := Tryz.sizeOf0
  v0 := Tryz.zeroValue0
  t3 := Tryz.underlying3
  a3 := Tryz.isAgg3
  z3 := Tryz.sizeOf3
  v3 := Tryz.zeroValue3
  t4 := Tryz.underlying4
  a4 := Tryz.isAgg4
  z4 := Tryz.sizeOf4
  v4 := Tryz.zeroValue4
  t5 := Tryz.underlying5
  a5 := Tryz.isAgg5
  z5 := Tryz.sizeOf5
  v5 := Tryz.zeroValue5
  t9 := Tryz.underlying9
  a9 := Tryz.isAgg9
  z9 := Tryz.sizeOf9
  v9 := Tryz.zeroValue9
  t22 := Tryz.underlying27
  a22 := Tryz.isAgg27
  z22 := Tryz.sizeOf27
  v22 := Tryz.zeroValue27
  t25 := Tryz.underlying83
  a25 := Tryz.isAgg83
  z25 := Tryz.sizeOf83
  v25 := Tryz.zeroValue83
  t39 := Tryz.underlying126
  a39 := Tryz.isAgg126
  z39 := Tryz.sizeOf126
  v39 := Tryz.zeroValue126
  t45 := Tryz.underlying174
  a45 := Tryz.isAgg174
  z45 := Tryz.sizeOf174
  v45 := Tryz.zeroValue174
  t46 := Tryz.underlying175
  a46 := Tryz.isAgg175
  z46 := Tryz.sizeOf175
  v46 := Tryz.zeroValue175
  t50 := Tryz.underlying179
  a50 := Tryz.isAgg179
  z50 := Tryz.sizeOf179
  v50 := Tryz.zeroValue179
  t53 := Tryz.underlying182
  a53 := Tryz.isAgg182
  z53 := Tryz.sizeOf182
  v53 := Tryz.zeroValue182
  t55 := Tryz.underlying62
  a55 := Tryz.isAgg62
  z55 := Tryz.sizeOf62
  v55 := Tryz.zeroValue62
  t66 := Tryz.underlying215
  a66 := Tryz.isAgg215
  z66 := Tryz.sizeOf215
  v66 := Tryz.zeroValue215
  t70 := Tryz.underlying219
  a70 := Tryz.isAgg219
  z70 := Tryz.sizeOf219
  v70 := Tryz.zeroValue219
  t76 := Tryz.underlying245
  a76 := Tryz.isAgg245
  z76 := Tryz.sizeOf245
  v76 := Tryz.zeroValue245
  t77 := Tryz.underlying246
  a77 := Tryz.isAgg246
  z77 := Tryz.sizeOf246
  v77 := Tryz.zeroValue246 }
def sortRenC : Go.Shelf.Ren := ⟨fun | 6 => 71 | 14 => 112 | 15 => 83 | 20 => 158 | 21 => 159 | 22 => 160 | 23 => 161 | 24 => 162 | 25 => 163 | 26 => 164 | 27 => 165 | 28 => 129 | 29 => 130 | 46 => 198 | 47 => 171 | 48 => 172 | 49 => 199 | 50 => 200 | 57 => 222 | n => n, fun | 0 => 0 | 3 => 3 | 4 => 4 | 5 => 5 | 9 => 9 | 22 => 54 | 24 => 69 | 25 => 113 | 39 => 126 | 45 => 174 | 46 => 175 | 50 => 179 | 53 => 182 | 55 => 62 | 66 => 215 | 70 => 219 | 76 => 245 | 77 => 246 | n => n, fun | n => n⟩
theorem sortLaysC : SlLaysF0.n6 Tryz.prog sortRenC := {
  mixed := by kernel_rfl
  f6 := ⟨"slices.SortFunc[[]jobcase/api.Change,jobcase/api.Change]", by kernel_rfl, Tryz.func71.trans (congrArg some (by kernel_rfl))⟩
  f14 := ⟨"slices.pdqsortCmpFunc[jobcase/api.Change]", by kernel_rfl, Tryz.func112.trans (congrArg some (by kernel_rfl))⟩
  f15 := Tryz.func83.trans (congrArg some (by kernel_rfl))
  f20 := ⟨"slices.insertionSortCmpFunc[jobcase/api.Change]", by kernel_rfl, Tryz.func158.trans (congrArg some (by kernel_rfl))⟩
  f21 := ⟨"slices.heapSortCmpFunc[jobcase/api.Change]", by kernel_rfl, Tryz.func159.trans (congrArg some (by kernel_rfl))⟩
  f22 := ⟨"slices.breakPatternsCmpFunc[jobcase/api.Change]", by kernel_rfl, Tryz.func160.trans (congrArg some (by kernel_rfl))⟩
  f23 := ⟨"slices.choosePivotCmpFunc[jobcase/api.Change]", by kernel_rfl, Tryz.func161.trans (congrArg some (by kernel_rfl))⟩
  f24 := ⟨"slices.reverseRangeCmpFunc[jobcase/api.Change]", by kernel_rfl, Tryz.func162.trans (congrArg some (by kernel_rfl))⟩
  f25 := ⟨"slices.partialInsertionSortCmpFunc[jobcase/api.Change]", by kernel_rfl, Tryz.func163.trans (congrArg some (by kernel_rfl))⟩
  f26 := ⟨"slices.partitionEqualCmpFunc[jobcase/api.Change]", by kernel_rfl, Tryz.func164.trans (congrArg some (by kernel_rfl))⟩
  f27 := ⟨"slices.partitionCmpFunc[jobcase/api.Change]", by kernel_rfl, Tryz.func165.trans (congrArg some (by kernel_rfl))⟩
  f28 := Tryz.func129.trans (congrArg some (by kernel_rfl))
  f29 := Tryz.func130.trans (congrArg some (by kernel_rfl))
  f46 := ⟨"slices.siftDownCmpFunc[jobcase/api.Change]", by kernel_rfl, Tryz.func198.trans (congrArg some (by kernel_rfl))⟩
  f47 := Tryz.func171.trans (congrArg some (by kernel_rfl))
  f48 := Tryz.func172.trans (congrArg some (by kernel_rfl))
  f49 := ⟨"slices.medianAdjacentCmpFunc[jobcase/api.Change]", by kernel_rfl, Tryz.func199.trans (congrArg some (by kernel_rfl))⟩
  f50 := ⟨"slices.medianCmpFunc[jobcase/api.Change]", by kernel_rfl, Tryz.func200.trans (congrArg some (by kernel_rfl))⟩
  f57 := ⟨"slices.order2CmpFunc[jobcase/api.Change]", by kernel_rfl, Tryz.func222.trans (congrArg some (by kernel_rfl))⟩
  t0 := Tryz.underlying0
  a0 := Tryz.isAgg0
  z0 := Tryz.sizeOf0
  v0 := Tryz.zeroValue0
  t3 := Tryz.underlying3
  a3 := Tryz.isAgg3
  z3 := Tryz.sizeOf3
  v3 := Tryz.zeroValue3
  t4 := Tryz.underlying4
  a4 := Tryz.isAgg4
  z4 := Tryz.sizeOf4
  v4 := Tryz.zeroValue4
  t5 := Tryz.underlying5
  a5 := Tryz.isAgg5
  z5 := Tryz.sizeOf5
  v5 := Tryz.zeroValue5
  t9 := Tryz.underlying9
  a9 := Tryz.isAgg9
  z9 := Tryz.sizeOf9
  v9 := Tryz.zeroValue9
  t22 := Tryz.underlying54
  a22 := Tryz.isAgg54
  z22 := Tryz.sizeOf54
  v22 := Tryz.zeroValue54
  t25 := Tryz.underlying113
  a25 := Tryz.isAgg113
  z25 := Tryz.sizeOf113
  v25 := Tryz.zeroValue113
  t39 := Tryz.underlying126
  a39 := Tryz.isAgg126
  z39 := Tryz.sizeOf126
  v39 := Tryz.zeroValue126
  t45 := Tryz.underlying174
  a45 := Tryz.isAgg174
  z45 := Tryz.sizeOf174
  v45 := Tryz.zeroValue174
  t46 := Tryz.underlying175
  a46 := Tryz.isAgg175
  z46 := Tryz.sizeOf175
  v46 := Tryz.zeroValue175
  t50 := Tryz.underlying179
  a50 := Tryz.isAgg179
  z50 := Tryz.sizeOf179
  v50 := Tryz.zeroValue179
  t53 := Tryz.underlying182
  a53 := Tryz.isAgg182
  z53 := Tryz.sizeOf182
  v53 := Tryz.zeroValue182
  t55 := Tryz.underlying62
  a55 := Tryz.isAgg62
  z55 := Tryz.sizeOf62
  v55 := Tryz.zeroValue62
  t66 := Tryz.underlying215
  a66 := Tryz.isAgg215
  z66 := Tryz.sizeOf215
  v66 := Tryz.zeroValue215
  t70 := Tryz.underlying219
  a70 := Tryz.isAgg219
  z70 := Tryz.sizeOf219
  v70 := Tryz.zeroValue219
  t76 := Tryz.underlying245
  a76 := Tryz.isAgg245
  z76 := Tryz.sizeOf245
  v76 := Tryz.zeroValue245
  t77 := Tryz.underlying246
  a77 := Tryz.isAgg246
  z77 := Tryz.sizeOf246
  v77 := Tryz.zeroValue246 }
end Go.Proofs.YtjpmomklkkifjaaGreatDoor.T
