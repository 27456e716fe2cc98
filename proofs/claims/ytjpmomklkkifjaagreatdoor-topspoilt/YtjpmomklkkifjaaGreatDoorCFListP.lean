import Derived.Test.YtjpmomklkkifjaaGreatDoorCBSearch
import Derived.Test.YtjpmomklkkifjaaGreatDoorCJCut
import Derived.Test.YtjpmomklkkifjaaGreatDoorCFNodes
import Derived.Test.YtjpmomklkkifjaaGreatDoorCFLater
import Derived.Test.YtjpmomklkkifjaaGreatDoorCFGood
import Derived.Test.YtjpmomklkkifjaaGreatDoorCFFind
set_option maxRecDepth 100000
set_option linter.unusedVariables false
set_option linter.unusedSimpArgs false
namespace Go.Proofs.YtjpmomklkkifjaaGreatDoor.T.P
open Go.RowKit
open Go.Maps (Keyed)
open Go.WideElems (rd rg pl)
open Go.Proofs.YtjpmomklkkifjaaGreatDoor.T
structure PV where
  id : Int
  val : Value
def findP (N : List PV) (i : Int) : Option PV := N.find? fun v => v.id == i
def atP (z : Value) (N : List PV) (i : Int) : Value := ((findP N i).map PV.val).getD z
def putP (N : List PV) (v : PV) : List PV := if (findP N v.id).isSome then N.map (fun x => if x.id == v.id then v else x) else N ++ [v]
structure MapP (N : List PV) (D : DataW Value) : Prop where
  size : Maps.size D = N.length
  look : ∀ i z, WfI i → D.atKey (.int .i64 i) z = (match findP N i with | none => z | some v => .held v.val)
  nodup : (N.map PV.id).Nodup
  wf : ∀ v ∈ N, WfI v.id
theorem findP_some {N : List PV} {i : Int} {v : PV} (h : findP N i = some v) : v ∈ N ∧ v.id = i := ⟨List.mem_of_find?_eq_some h, by have := List.find?_some h; simpa using this⟩
theorem findP_none {N : List PV} {i : Int} (h : findP N i = none) : ∀ v ∈ N, v.id ≠ i := by
  intro v hv e
  have := List.find?_eq_none.1 h v hv
  simp [e] at this
theorem findP_mem {N : List PV} (hn : (N.map PV.id).Nodup) {v : PV} (hv : v ∈ N) : findP N v.id = some v := by
  induction N with
  | nil => simp at hv
  | cons x N ih =>
    simp only [List.map_cons, List.nodup_cons] at hn
    unfold findP
    rw [List.find?_cons]
    rcases List.mem_cons.1 hv with rfl | hv
    · simp
    · have hne : x.id ≠ v.id := fun e => hn.1 (by rw [e]; exact List.mem_map.2 ⟨v, hv, rfl⟩)
      have : (x.id == v.id) = false := by simpa using hne
      rw [this]
      exact ih hn.2 hv
theorem putP_ids (N : List PV) (v : PV) : (putP N v).map PV.id = if (findP N v.id).isSome then N.map PV.id else N.map PV.id ++ [v.id] := by
  unfold putP
  split
  · rw [List.map_map]
    refine List.map_congr_left fun x _ => ?_
    show (if (x.id == v.id) = true then v else x).id = x.id
    split
    · rename_i h; simp at h; exact h.symm
    · rfl
  · simp
theorem putP_nodup {N : List PV} (hn : (N.map PV.id).Nodup) (v : PV) : ((putP N v).map PV.id).Nodup := by
  rw [putP_ids]
  split
  · exact hn
  · rename_i h
    have h0 : findP N v.id = none := by cases hf : findP N v.id with | none => rfl | some x => rw [hf] at h; simp at h
    rw [List.nodup_append]
    refine ⟨hn, by simp, fun a ha b hb => ?_⟩
    simp at hb
    subst hb
    obtain ⟨x, hx, rfl⟩ := List.mem_map.1 ha
    exact findP_none h0 x hx
theorem putP_length (N : List PV) (v : PV) : (putP N v).length = if (findP N v.id).isSome then N.length else N.length + 1 := by
  unfold putP
  split <;> simp
theorem find_map_same {N : List PV} {v : PV} (h : (findP N v.id).isSome = true) : (N.map (fun x => if x.id == v.id then v else x)).find? (fun x => x.id == v.id) = some v := by
  induction N with
  | nil => simp [findP] at h
  | cons x N ih =>
    rw [List.map_cons, List.find?_cons]
    by_cases hx : (x.id == v.id) = true
    · rw [if_pos hx]; simp
    · rw [if_neg hx]
      have hx' : (x.id == v.id) = false := by simpa using hx
      rw [hx']
      refine ih ?_
      unfold findP at h ⊢
      rw [List.find?_cons, hx'] at h
      exact h
theorem find_map_other {N : List PV} {v : PV} {i : Int} (h : i ≠ v.id) : (N.map (fun x => if x.id == v.id then v else x)).find? (fun x => x.id == i) = N.find? (fun x => x.id == i) := by
  induction N with
  | nil => rfl
  | cons x N ih =>
    rw [List.map_cons, List.find?_cons, List.find?_cons, ih]
    by_cases hx : (x.id == v.id) = true
    · rw [if_pos hx]
      have h1 : (v.id == i) = false := by simpa using fun e => h e.symm
      have h2 : (x.id == i) = false := by have hx' : x.id = v.id := by simpa using hx
                                          rw [hx']; exact h1
      rw [h1, h2]
    · rw [if_neg hx]
theorem findP_put_same (N : List PV) (v : PV) : findP (putP N v) v.id = some v := by
  unfold putP
  split
  · rename_i h; exact find_map_same h
  · rename_i h
    have h0 : findP N v.id = none := by cases hf : findP N v.id with | none => rfl | some x => rw [hf] at h; simp at h
    unfold findP at h0 ⊢
    rw [List.find?_append, h0]
    simp
theorem findP_put_other {N : List PV} {v : PV} {i : Int} (h : i ≠ v.id) : findP (putP N v) i = findP N i := by
  unfold putP
  split
  · exact find_map_other h
  · unfold findP
    rw [List.find?_append]
    have h1 : (v.id == i) = false := by simpa using fun e => h e.symm
    rw [List.find?_cons, h1]
    simp
theorem MapP.has {N : List PV} {D : DataW Value} (h : MapP N D) {i : Int} (hi : WfI i) : Maps.has D (.int .i64 i) = (findP N i).isSome := by
  cases hf : findP N i with
  | none => exact Maps.has_false_of_atKey fun z => by rw [h.look i z hi, hf]
  | some v => exact Maps.has_true_of_atKey (y := .held v.val) fun z => by rw [h.look i z hi, hf]
theorem MapP.put {N : List PV} {D : DataW Value} (h : MapP N D) (ht : Maps.Tidy D) {v : PV} (hi : WfI v.id) : MapP (putP N v) (D.put (.int .i64 v.id) (.held v.val)) := by
  refine ⟨?_, fun i z hw => ?_, putP_nodup h.nodup v, fun x hx => ?_⟩
  · rw [Maps.size_put ht, h.has hi, h.size, putP_length]
  · by_cases he : i = v.id
    · subst he
      rw [Maps.atKey_put_same ht.isMap (key_int _), findP_put_same]
    · rw [Maps.atKey_put_other (by intro e; cases e; exact he rfl), h.look i z hw, findP_put_other he]
  · have : x.id ∈ (putP N v).map PV.id := List.mem_map.2 ⟨x, hx, rfl⟩
    rw [putP_ids] at this
    split at this
    · obtain ⟨y, hy, e⟩ := List.mem_map.1 this
      rw [← e]; exact h.wf y hy
    · rcases List.mem_append.1 this with h1 | h1
      · obtain ⟨y, hy, e⟩ := List.mem_map.1 h1
        rw [← e]; exact h.wf y hy
      · simp at h1; rw [h1]; exact hi
def IsMapP (N : List PV) (o : Obj) : Prop := ∃ es clock, o = .map es clock ∧ Go.WideElems.Fit Tryz.prog 3 Rv es clock ∧ MapP N (.map ((es.toList.map (rg Tryz.prog 3 Rv)).foldr DataW.insert []))
theorem sat_owns {base : Nat} {w : World} {b : Nat} {N : List PV} (h : Res.Sat base w (.obj b (IsMapP N))) : ∃ D, w.ownsMap Tryz.prog 3 Rv b N.length D ∧ MapP N D := by
  obtain ⟨_, o, ho, es, clock, rfl, F, hm⟩ := h
  have := hm.size
  simp [Maps.size, length_sorted] at this
  exact ⟨_, ⟨es, clock, ho, F, by omega, rfl⟩, hm⟩
theorem owns_sat {base : Nat} {w : World} {b n : Nat} {N : List PV} {D : DataW Value} (hb : base ≤ b) (h : w.ownsMap Tryz.prog 3 Rv b n D) (hm : MapP N D) : Res.Sat base w (.obj b (IsMapP N)) := by
  obtain ⟨es, clock, ho, F, _, rfl⟩ := h
  exact ⟨hb, _, ho, es, clock, rfl, F, hm⟩
theorem zero167 (w : World) : (zeroValue 167).run Tryz.prog w = .ok (.pointer none) w := by first | kernel_rfl | rfl | (simp [zeroValue, go_sem]; done)
theorem zero30 (w : World) : (zeroValue 30).run Tryz.prog w = .ok (.slice none 0 0) w := by first | kernel_rfl | rfl | (simp [zeroValue, go_sem]; done)
theorem look116 {base : Nat} {w : World} {b : Nat} {N : List PV} (h : Res.Sat base w (.obj b (IsMapP N))) {i : Int} (hi : WfI i) : (Instr.lookup 116 (.map (some b)) (.int .i64 i) true).run Tryz.prog w = .ok (.tuple #[atP (.pointer none) N i, .bool (findP N i).isSome]) w := by
  obtain ⟨D, ho, hm⟩ := sat_owns h
  obtain ⟨v, ps, hrun, hv⟩ := ho.look_ok kI Tryz.underlying116 (z := .pointer none) (zero167 w) (zd := .held (.pointer none)) (zp := []) rfl (keyI hi)
  rw [hrun, hm.has hi, hm.look i _ hi] at *
  unfold Rv at hv
  unfold atP
  cases hf : findP N i with
  | none => rw [hf] at hv; simp at hv; rw [hv.1]; rfl
  | some x => rw [hf] at hv; simp at hv; rw [hv.1]; rfl
theorem look117 {base : Nat} {w : World} {b : Nat} {N : List PV} (h : Res.Sat base w (.obj b (IsMapP N))) {i : Int} (hi : WfI i) : (Instr.lookup 117 (.map (some b)) (.int .i64 i) false).run Tryz.prog w = .ok (atP (.slice none 0 0) N i) w := by
  obtain ⟨D, ho, hm⟩ := sat_owns h
  obtain ⟨v, ps, hrun, hv⟩ := ho.lookup kI Tryz.underlying117 (z := .slice none 0 0) (zero30 w) (zd := .held (.slice none 0 0)) (zp := []) rfl (keyI hi)
  rw [hrun, hm.look i _ hi] at *
  unfold Rv at hv
  unfold atP
  cases hf : findP N i with
  | none => rw [hf] at hv; simp at hv; rw [hv.1]; rfl
  | some x => rw [hf] at hv; simp at hv; rw [hv.1]; rfl
theorem look116f {base : Nat} {w : World} {b : Nat} {N : List PV} (h : Res.Sat base w (.obj b (IsMapP N))) {i : Int} (hi : WfI i) : (Instr.lookup 116 (.map (some b)) (.int .i64 i) false).run Tryz.prog w = .ok (atP (.pointer none) N i) w := by
  obtain ⟨D, ho, hm⟩ := sat_owns h
  obtain ⟨v, ps, hrun, hv⟩ := ho.lookup kI Tryz.underlying116 (z := .pointer none) (zero167 w) (zd := .held (.pointer none)) (zp := []) rfl (keyI hi)
  rw [hrun, hm.look i _ hi] at *
  unfold Rv at hv
  unfold atP
  cases hf : findP N i with
  | none => rw [hf] at hv; simp at hv; rw [hv.1]; rfl
  | some x => rw [hf] at hv; simp at hv; rw [hv.1]; rfl
theorem len116 {base : Nat} {w : World} {b : Nat} {N : List PV} (h : Res.Sat base w (.obj b (IsMapP N))) (ty : TypeId) : (Builtin.len_ #[116] ty #[.map (some b)]).run Tryz.prog w = .ok (.int .i64 N.length) w := by
  obtain ⟨D, ho, hm⟩ := sat_owns h
  rw [ho.len Tryz.underlying116 ty, hm.size]
theorem put116 {base : Nat} {w0 w : World} {K0 : Nat → Nat} (l1 : List Res) {b : Nat} {N : List PV} {l2 : List Res} (H : Hold base w0 K0 w (l1 ++ .obj b (IsMapP N) :: l2)) (hN : N.length ≤ 1000) (v : PV) (hi : WfI v.id) :
    ∃ w', (Instr.mapUpdate 116 (.map (some b)) (.int .i64 v.id) v.val).run Tryz.prog w = .ok () w' ∧ Hold base w0 K0 w' (l1 ++ .obj b (IsMapP (putP N v)) :: l2) := by
  have hs := H.sat (.obj b (IsMapP N)) (by simp)
  obtain ⟨D, ho, hm⟩ := sat_owns hs
  obtain ⟨w', hrun, ho', hg⟩ := ho.update kI Tryz.underlying116 (by unfold maxLen; omega) (val := v.val) (d := .held v.val) (ps := []) (keyI hi) rfl
  refine ⟨w', hrun, H.put l1 ((Kept.refl _ w).grown hg fun x hx _ => ?_) (owns_sat hs.1 ho' (hm.put (ho.tidy kI) hi)) (fun x _ => Nat.le_refl _) (one_le b)⟩
  cases hx
  show 0 < one b b
  rw [one_self]; decide
theorem put117 {base : Nat} {w0 w : World} {K0 : Nat → Nat} (l1 : List Res) {b : Nat} {N : List PV} {l2 : List Res} (H : Hold base w0 K0 w (l1 ++ .obj b (IsMapP N) :: l2)) (hN : N.length ≤ 1000) (v : PV) (hi : WfI v.id) :
    ∃ w', (Instr.mapUpdate 117 (.map (some b)) (.int .i64 v.id) v.val).run Tryz.prog w = .ok () w' ∧ Hold base w0 K0 w' (l1 ++ .obj b (IsMapP (putP N v)) :: l2) := by
  have hs := H.sat (.obj b (IsMapP N)) (by simp)
  obtain ⟨D, ho, hm⟩ := sat_owns hs
  obtain ⟨w', hrun, ho', hg⟩ := ho.update kI Tryz.underlying117 (by unfold maxLen; omega) (val := v.val) (d := .held v.val) (ps := []) (keyI hi) rfl
  refine ⟨w', hrun, H.put l1 ((Kept.refl _ w).grown hg fun x hx _ => ?_) (owns_sat hs.1 ho' (hm.put (ho.tidy kI) hi)) (fun x _ => Nat.le_refl _) (one_le b)⟩
  cases hx
  show 0 < one b b
  rw [one_self]; decide
theorem mapNew {base : Nat} {w0 w : World} {K0 : Nat → Nat} {rs : List Res} (H : Hold base w0 K0 w rs) (hb : base ≤ w.heap.size) : Hold base w0 K0 (w.alloc (.map #[] 0)) (.obj w.heap.size (IsMapP []) :: rs) := by
  refine H.new ((Kept.refl _ w).alloc _) (owns_sat hb (World.ownsMap_made w Tryz.prog 3 Rv) ⟨rfl, fun i z _ => rfl, by simp, by simp⟩) (fun x hx => by obtain rfl := one_pos.1 hx; exact Nat.le_refl _) (one_le _)
end Go.Proofs.YtjpmomklkkifjaaGreatDoor.T.P
namespace Go.Proofs.YtjpmomklkkifjaaGreatDoor.T
open Go.RowKit
structure DN where
  blk : Nat
  id : Int
  kind : ByteArray
  up : Int
  tail : ByteArray
  named : Int
  fr : Int
def DN.pv (d : DN) : P.PV := ⟨d.id, .pointer (some ⟨d.blk, 0, none⟩)⟩
def DN.cells (d : DN) : List Value := [.string d.kind, .int .i64 d.up, .string d.tail, .int .i64 d.named, .int .i64 d.fr]
def DN.res (d : DN) : Res := .cell d.blk 170 d.cells
structure DE where
  folder : Int
  v : Value
  items : List Item
def DE.pv (e : DE) : P.PV := ⟨e.folder, e.v⟩
def DE.res (e : DE) : Res := rowE e.v e.items
def dfR (db nb eb : Nat) (D : List DN) (E : List DE) (next : Int) (l : List Res) : List Res :=
  .cell db 119 [.map (some nb), .map (some eb), .int .i64 next] :: .obj nb (P.IsMapP (D.map DN.pv)) :: .obj eb (P.IsMapP (E.map DE.pv)) :: (D.map DN.res ++ (E.map DE.res ++ l))
variable {w0 w w' : World} {db nb eb : Nat} {D : List DN} {E : List DE} {next : Int} {l : List Res}
theorem df_cells (h : H0 w0 w (dfR db nb eb D E next l)) : w.cell? ⟨db, 0, none⟩ = some (.map (some nb)) ∧ w.cell? ⟨db, 1, none⟩ = some (.map (some eb)) ∧ w.cell? ⟨db, 2, none⟩ = some (.int .i64 next) ∧ w.frozen? ⟨db, 2, none⟩ = false := by
  have hm : Res.cell db 119 [.map (some nb), .map (some eb), .int .i64 next] ∈ dfR db nb eb D E next l := .head _
  exact ⟨Hold.cellAt h hm rfl, Hold.cellAt h hm rfl, Hold.cellAt h hm rfl, Hold.frozenAt h hm _⟩
theorem H0.ready {rs : List Res} (hR : Ready w0) (h : H0 w0 w rs) : Ready w := hR.later (H0.below h)
theorem putP_snoc {M : List P.PV} {v : P.PV} (h : v.id ∉ M.map P.PV.id) : P.putP M v = M ++ [v] := by
  unfold P.putP
  have : (P.findP M v.id).isSome = false := by
    cases hf : P.findP M v.id with
    | none => rfl
    | some u => exact absurd (List.mem_map.2 ⟨u, (P.findP_some hf).1, (P.findP_some hf).2⟩) h
  rw [this]
  rfl
theorem dn_ids (D : List DN) : (D.map DN.pv).map P.PV.id = D.map DN.id := by simp [DN.pv, Function.comp_def]
theorem de_ids (E : List DE) : (E.map DE.pv).map P.PV.id = E.map DE.folder := by simp [DE.pv, Function.comp_def]
theorem df_node (h : H0 w0 w (dfR db nb eb D E next l)) (hD : D.length ≤ 1000) (d : DN) (hi : WfI d.id) (hid : d.id ∉ D.map DN.id) (hb : d.blk = w.heap.size) :
    ∃ w', (Instr.mapUpdate 116 (.map (some nb)) (.int .i64 d.id) (.pointer (some ⟨d.blk, 0, none⟩))).run Tryz.prog (w.alloc (.cells d.cells.toArray 170)) = .ok () w' ∧ H0 w0 w' (dfR db nb eb (D ++ [d]) E next l) := by
  have h1 := Hold.made h (H0.below h).size 170 d.cells
  rw [← hb] at h1
  have h2 : H0 w0 (w.alloc (.cells d.cells.toArray 170)) ([.cell db 119 [.map (some nb), .map (some eb), .int .i64 next]] ++ .obj nb (P.IsMapP (D.map DN.pv)) :: (.obj eb (P.IsMapP (E.map DE.pv)) :: ((D ++ [d]).map DN.res ++ (E.map DE.res ++ l)))) := by
    refine Hold.conv h1 (fun x => ?_) (fun r hr => Hold.sat h1 r ?_)
    · simp only [dfR, DN.res, total_cons, total_append, List.map_append, List.map_cons, List.map_nil, total_nil]; omega
    · simp only [dfR, List.mem_append, List.mem_cons, List.map_append, List.map_cons, List.map_nil, List.not_mem_nil, or_false] at hr ⊢
      rcases hr with h | h | h | (h | h) | h | h <;> simp [h, DN.res]
  obtain ⟨w', hrun, h3⟩ := P.put116 _ h2 (by simpa using hD) d.pv hi
  refine ⟨w', hrun, ?_⟩
  rw [putP_snoc (by rw [dn_ids]; exact hid)] at h3
  unfold dfR
  rw [List.map_append]
  exact h3
end Go.Proofs.YtjpmomklkkifjaaGreatDoor.T
namespace Go.Proofs.YtjpmomklkkifjaaGreatDoor.T
open Go.RowKit
def LeT (n : Nat) (F F' : Forest) : Prop := ∀ tb, tb ∈ F.map (·.1) → ∀ key, (afterL (lookF F' tb) key).length ≤ (afterL (lookF F tb) key).length + n
structure StepOk (N : List NV) (F : Forest) (next : Int) (N' : List NV) (F' : Forest) (next' : Int) : Prop where
  node : ∀ v' ∈ N', v'.id < next → ∃ v ∈ N, v.id = v'.id ∧ v.kind = v'.kind ∧ v.tb = v'.tb
  tree : LeT 1 F F'
  next : next ≤ next'
variable {k : Nat} {N : List NV} {F : Forest} {next : Int}
theorem LeT.refl (F : Forest) : LeT 0 F F := fun _ _ _ => Nat.le_refl _
theorem LeT.mono {n m : Nat} {F F' : Forest} (h : LeT n F F') (hm : n ≤ m) : LeT m F F' := fun tb ht key => by have := h tb ht key; omega
theorem LeT.trans {n m : Nat} {F F' F'' : Forest} (h : LeT n F F') (h2 : LeT m F' F'') (hk : F'.map (·.1) = F.map (·.1)) : LeT (n + m) F F'' := fun tb ht key => by
  have a := h tb ht key
  have b := h2 tb (by rw [hk]; exact ht) key
  omega
def SubN (N N' : List NV) : Prop := ∀ v' ∈ N', ∃ v ∈ N, v.id = v'.id ∧ v.kind = v'.kind ∧ v.tb = v'.tb
theorem SubN.refl (N : List NV) : SubN N N := fun v hv => ⟨v, hv, rfl, rfl, rfl⟩
theorem SubN.trans {A B C : List NV} (h : SubN A B) (h2 : SubN B C) : SubN A C := fun v hv => by
  obtain ⟨u, hu, e1, e2, e3⟩ := h2 v hv
  obtain ⟨x, hx, f1, f2, f3⟩ := h u hu
  exact ⟨x, hx, f1.trans e1, f2.trans e2, f3.trans e3⟩
theorem StepOk.of {N' : List NV} {F' : Forest} (h1 : SubN N N') (h2 : LeT 1 F F') : StepOk N F next N' F' next := ⟨fun v hv _ => h1 v hv, h2, Int.le_refl _⟩
theorem StepOk.refl : StepOk N F next N F next := .of (SubN.refl N) ((LeT.refl F).mono (by omega))
def GoodEnd2 (N : List NV) (F : Forest) (next : Int) (w0 : World) (fb mb : Nat) (l2 : List Res) (k : Nat) (e : Ending) (w' : World) : Prop := ∃ o N' F' next', e = .returned (errV o) ∧ FSIn w0 w' fb mb N' F' next' l2 ∧ Good k N' F' next' ∧ StepOk N F next N' F' next' ∧ (o = none ∨ N' = N ∧ F' = F ∧ next' = next)
variable {w0 w : World} {fb mb : Nat} {l2 : List Res}
end Go.Proofs.YtjpmomklkkifjaaGreatDoor.T
namespace Go.Proofs.YtjpmomklkkifjaaGreatDoor.T
open Go.RowKit
end Go.Proofs.YtjpmomklkkifjaaGreatDoor.T
namespace Go.Proofs.YtjpmomklkkifjaaGreatDoor.T
open Go.RowKit Go.Lib
variable {w0 w : World} {fb mb : Nat} {N : List NV} {F : Forest} {next : Int} {l2 : List Res}
end Go.Proofs.YtjpmomklkkifjaaGreatDoor.T
namespace Go.Proofs.YtjpmomklkkifjaaGreatDoor.T
open Go.RowKit Go.Lib
def Keyd (L : List Item) : Prop := ∀ x ∈ L, x.key = keyS x.name ∧ checkP x.name = none
theorem named_iff {L : List Item} (hL : Keyd L) {x : Item} (hx : x.key = keyS x.name) : namedB L x.name x.node = true ↔ x ∈ L := by
  constructor
  · intro h
    unfold namedB at h
    rw [List.any_eq_true] at h
    obtain ⟨y, hy, h2⟩ := h
    rw [Bool.and_eq_true, beq_iff_eq, beq_iff_eq] at h2
    have hn : y.name = x.name := toList_inj (by rw [← Lib.toList_data, ← Lib.toList_data]; exact h2.1)
    have : y = x := by
      cases y; cases x
      simp only at hn h2 hx
      have hk := (hL _ hy).1
      simp only at hk
      rw [hk, hx, hn, h2.2]
    rw [← this]; exact hy
  · intro h
    unfold namedB
    rw [List.any_eq_true]
    exact ⟨x, h, by simp⟩
structure Bit (L T A E : List Item) (cur : ByteArray) (b : Nat) : Prop where
  keyT : Keyd T
  keyA : Keyd A
  keyE : Keyd E
  sorted : Sorted T
  low : ∀ t ∈ T, ¬ kLt cur t.key
  te : ∀ t ∈ T, t ∈ E
  al : ∀ a ∈ A, a ∈ L
  le : ∀ x ∈ L, x ∈ E
  seen : ∀ a ∈ A, ¬ kLt cur a.key → a ∈ T
  many : (afterL L cur).length ≤ b
theorem Bit.start {L : List Item} (hL : Keyd L) (hf : Full L) {b : Nat} (hb : L.length ≤ b) : Bit L [] L L ⟨#[]⟩ b := by
  have hlt : ∀ x ∈ L, kLt ⟨#[]⟩ x.key := fun x hx => by
    have h1 := hf.after
    have h2 : x ∈ afterL L ⟨#[]⟩ := by rw [h1]; exact hx
    exact of_decide_eq_true (List.mem_filter.1 h2).2
  exact ⟨fun x hx => (by cases hx), hL, hL, List.Pairwise.nil, fun t ht => (by cases ht), fun t ht => (by cases ht), fun a ha => ha, fun x hx => hx, fun a ha h => absurd (hlt a ha) h, (by rw [hf.after]; exact hb)⟩
theorem Bit.done {L T A E : List Item} {cur : ByteArray} {b : Nat} (h : Bit L T A E cur b) (h0 : afterL L cur = []) : ∀ a ∈ A, a ∈ T := fun a ha => by
  refine h.seen a ha fun hk => ?_
  have : a ∈ afterL L cur := List.mem_filter.2 ⟨h.al a ha, by simpa using hk⟩
  rw [h0] at this
  cases this
theorem Bit.next {L T A E : List Item} {cur : ByteArray} {b k : Nat} (h : Bit L T A E cur b) (hL : Keyd L) (hs : Sorted L) {p : Item} {Q : List Item} (hP : (afterL L cur).take k = Q ++ [p]) :
    Sorted (T ++ (Q ++ [p])) ∧ Keyd (T ++ (Q ++ [p])) ∧ (∀ t ∈ T ++ (Q ++ [p]), ¬ kLt p.key t.key) ∧ (∀ t ∈ T ++ (Q ++ [p]), t ∈ E) ∧ (∀ a ∈ A, ¬ kLt p.key a.key → a ∈ T ++ (Q ++ [p])) ∧ (afterL L p.key).length + 1 ≤ b ∧ p ∈ L := by
  have hsA : Sorted (afterL L cur) := List.Pairwise.sublist List.filter_sublist hs
  have hsplit : afterL L cur = (Q ++ [p]) ++ (afterL L cur).drop k := by rw [← hP, List.take_append_drop]
  rw [hsplit] at hsA
  have hPL : ∀ x ∈ Q ++ [p], x ∈ L ∧ kLt cur x.key := fun x hx => by
    have : x ∈ afterL L cur := by rw [hsplit]; exact List.mem_append_left _ hx
    exact ⟨(List.mem_filter.1 this).1, of_decide_eq_true (List.mem_filter.1 this).2⟩
  have hsP : Sorted (Q ++ [p]) := (List.pairwise_append.1 hsA).1
  have hcross := (List.pairwise_append.1 hsA).2.2
  have hple : ∀ x ∈ Q ++ [p], ¬ kLt p.key x.key := fun x hx hk => by
    rcases List.mem_append.1 hx with h1 | h1
    · exact kLt_asymm ((List.pairwise_append.1 hsP).2.2 x h1 p (by simp)) hk
    · rw [List.mem_singleton.1 h1] at hk; exact kLt_irrefl _ hk
  have hp := hPL p (by simp)
  have hlow : ∀ t ∈ T, kLt t.key p.key := fun t ht => by
    have h1 := h.low t ht
    rcases kLt_tri t.key cur with h2 | h2 | h2
    · exact kLt_trans h2 hp.2
    · rw [h2]; exact hp.2
    · exact absurd h2 h1
  have hlowx : ∀ t ∈ T, ∀ x ∈ Q ++ [p], kLt t.key x.key := fun t ht x hx => by
    have h1 := h.low t ht
    rcases kLt_tri t.key cur with h2 | h2 | h2
    · exact kLt_trans h2 (hPL x hx).2
    · rw [h2]; exact (hPL x hx).2
    · exact absurd h2 h1
  refine ⟨List.pairwise_append.2 ⟨h.sorted, hsP, hlowx⟩, fun x hx => ?_, fun t ht hk => ?_, fun t ht => ?_, fun a ha hk => ?_, ?_, hp.1⟩
  · rcases List.mem_append.1 hx with h1 | h1
    · exact h.keyT x h1
    · exact hL x (hPL x h1).1
  · rcases List.mem_append.1 ht with h1 | h1
    · exact kLt_asymm (hlow t h1) hk
    · exact hple t h1 hk
  · rcases List.mem_append.1 ht with h1 | h1
    · exact h.te t h1
    · exact h.le t (hPL t h1).1
  · by_cases hc : kLt cur a.key
    · have hm : a ∈ afterL L cur := List.mem_filter.2 ⟨h.al a ha, by simpa using hc⟩
      rw [hsplit] at hm
      rcases List.mem_append.1 hm with h1 | h1
      · exact List.mem_append_right _ h1
      · exact absurd (hcross p (by simp) a h1) hk
    · exact List.mem_append_left _ (h.seen a ha hc)
  · have h1 : (afterL L p.key).length ≤ ((afterL L cur).drop k).length := by
      have e : afterL L p.key = (afterL L cur).filter fun x => decide (kLt p.key x.key) := by
        unfold afterL
        rw [List.filter_filter]
        refine List.filter_congr fun x hx => ?_
        by_cases hk : kLt p.key x.key
        · rw [decide_eq_true hk, decide_eq_true (kLt_trans hp.2 hk)]; rfl
        · rw [decide_eq_false hk]; rfl
      rw [e, hsplit, List.filter_append]
      have : (Q ++ [p]).filter (fun x => decide (kLt p.key x.key)) = [] := List.filter_eq_nil_iff.2 fun x hx => by simpa using hple x hx
      rw [this, List.nil_append, ← hsplit]
      exact List.length_filter_le _ _
    have h2 := congrArg List.length hsplit
    rw [List.length_append, List.length_append] at h2
    have h3 := h.many
    simp at h2
    rw [List.length_drop] at h1
    omega
theorem Bit.after {L T A E L' T' : List Item} {cur cur' : ByteArray} {b b' : Nat} (h : Bit L T A E cur b) (hL' : Keyd L') (h1 : Sorted T') (h2 : Keyd T') (h3 : ∀ t ∈ T', ¬ kLt cur' t.key) (h4 : ∀ t ∈ T', t ∈ E) (h5 : ∀ a ∈ A, ¬ kLt cur' a.key → a ∈ T') (h6 : (afterL L' cur').length ≤ b') :
    Bit L' T' (A.filter fun a => namedB L' a.name a.node) (E ++ L') cur' b' := by
  have hAf : ∀ a ∈ A.filter (fun a => namedB L' a.name a.node), a ∈ A ∧ a ∈ L' := fun a ha => by
    obtain ⟨ha1, ha2⟩ := List.mem_filter.1 ha
    exact ⟨ha1, (named_iff hL' (h.keyA a ha1).1).1 ha2⟩
  refine ⟨h2, fun x hx => h.keyA x (hAf x hx).1, fun x hx => ?_, h1, h3, fun t ht => List.mem_append_left _ (h4 t ht), fun a ha => (hAf a ha).2, fun x hx => List.mem_append_right _ hx, fun a ha hk => h5 a (hAf a ha).1 hk, h6⟩
  rcases List.mem_append.1 hx with hx | hx
  · exact h.keyE x hx
  · exact hL' x hx
variable {w0 w : World} {fb mb : Nat} {N : List NV} {F : Forest} {next : Int} {l2 : List Res}
theorem flatE_one (L : List Item) : ∀ u ∈ flatE L, u.oneCell' = true := by
  intro u hu
  obtain ⟨x, _, hx⟩ := List.mem_flatMap.1 hu
  simp at hx
  rcases hx with rfl | rfl <;> rfl
theorem flatE_append (a b : List Item) : flatE (a ++ b) = flatE a ++ flatE b := by simp [flatE]
theorem FSIn.appE (l1 : List Res) {v : Value} {L : List Item} (h : FSIn w0 w fb mb N F next (l1 ++ rowE v L :: l2)) {t : Value} {C : List Item} (ht : w.ownsRow w0.heap.size 38 2 t C.length (flatE C)) (hn : L.length + C.length ≤ 200000) (ty : TypeId) :
    ∃ v' w', (Builtin.append_ #[30, 30] ty #[v, t]).run Tryz.prog w = .ok v' w' ∧ FSIn w0 w' fb mb N F next (l1 ++ rowE v' (L ++ C) :: l2) := by
  obtain ⟨i0, hi, hz0, hz1, hz2⟩ := info_parts info33
  have hv := h.rowAt (v := v) (e := 38) (k := 2) (n := L.length) (xs := flatE L) (by simp [rowE])
  have hb := h.low
  rcases ht.2 with ⟨rfl, hC⟩ | ⟨g, cap, cur, rfl, _⟩
  · have hC0 : C = [] := List.eq_nil_of_length_eq_zero hC
    subst hC0
    refine ⟨v, w, run_append_owned_none w w0.heap.size 30 ty 38 i0 2 Tryz.underlying30 hi v _ _ hv, ?_⟩
    rw [List.append_nil]; exact h
  · obtain ⟨v', w', hr, ho, hg, _, ha⟩ := run_append_own_at (P := Tryz.prog) w w0.heap.size 30 ty 38 i0 _ 2 24 Tryz.underlying30 hi hz0 hz1 hz2 rfl (by decide) v _ _ hv ⟨g, 0, none⟩ C.length cap (flatE C) ht.1 (fun j u hj => by
      rw [Addr.add_lit, Nat.zero_add, ht.cellAt j (by have := (List.getElem?_eq_some_iff.1 hj).1; rw [ht.1] at this; exact this)]
      exact hj) (flatE_one C) (by unfold maxLen; omega) (by omega) hb
    refine ⟨v', w', hr, ?_⟩
    rw [← flatE_append, ← List.length_append] at ho
    exact FSIn.grow l1 h hg ho (ha.imp id fun h => ⟨_, h, Nat.le_refl _⟩)
theorem wpList_appendI {P : Program} {ops : Array Oper} {rest : List Oper} {o : Oper} {a : Act} {w : World} {Q : Exit → Act → World → Prop} (hgd : o.guard = none) (d x : Operand) (dT sT : TypeId) (ho : o.op = Op.call { callee := Callee.builtin Builtin.append, args := #[d, x], argTypes := #[dT, sT] })
    (v u : Value) (hd : a.eval d = v) (hx : a.eval x = u) {v' : Value} {w' : World} (hr : (Builtin.append_ #[dT, sT] o.type #[v, u]).run P w = .ok v' w') (h : wpList P ops Q rest (a.put o.dst v') w') : wpList P ops Q (o :: rest) a w := by
  refine wpList_plain hgd fun K hK => ?_
  unfold Oper.wp
  simp [execOp, ho, resolve, invoke, builtin, hd, hx, hr, Result.andThen]
  exact hK _ _ h
theorem FSIn.front (l1 : List Res) {r : Res} (h : FSIn w0 w fb mb N F next (l1 ++ r :: l2)) : FSIn w0 w fb mb N F next (r :: (l1 ++ l2)) :=
  h.conv (fun x => by simp only [total_append, total_cons]; omega) fun hs q hq => hs q (by
    simp only [List.mem_append, List.mem_cons] at hq ⊢
    rcases hq with h | h | h
    · exact .inr (.inl h)
    · exact .inl h
    · exact .inr (.inr h))
end Go.Proofs.YtjpmomklkkifjaaGreatDoor.T
