import Derived.Test.YtjpmomklkkifjaaGreatDoorCFListP
import Derived.Test.YtjpmomklkkifjaaGreatDoorCFFind
import Derived.Test.YtjpmomklkkifjaaGreatDoorCBActs
import Derived.Deep.RegionHeldLaw
import Derived.Test.YtjpmomklkkifjaaGreatDoorCFCopy
import Derived.Test.YtjpmomklkkifjaaGreatDoorCFFrame
import Derived.RegionTactic
import Derived.Deep.RegionHeld3
import Derived.Test.YtjpmomklkkifjaaGreatDoorCFWalk
import Derived.Test.YtjpmomklkkifjaaGreatDoorCJCut
import Derived.Test.YtjpmomklkkifjaaGreatDoorCFLater
set_option maxRecDepth 100000
set_option linter.unusedVariables false
set_option linter.unusedSimpArgs false
namespace Go.Proofs.YtjpmomklkkifjaaGreatDoor.T
open Go.RowKit Go.Lib
def EntAdd (E E' : List DE) (i : Int) (it : Item) : Prop :=
  (i ∉ E.map DE.folder ∧ ∃ v', E' = E ++ [⟨i, v', [it]⟩]) ∨ ∃ E1 e E2 v', E = E1 ++ e :: E2 ∧ e.folder = i ∧ E' = E1 ++ ⟨i, v', e.items ++ [it]⟩ :: E2
theorem findP_mid {A C : List P.PV} {x : P.PV} (h : ((A ++ x :: C).map P.PV.id).Nodup) : P.findP (A ++ x :: C) x.id = some x := P.findP_mem h (by simp)
theorem putP_mid {A C : List P.PV} {x y : P.PV} (h : ((A ++ x :: C).map P.PV.id).Nodup) (e : y.id = x.id) : P.putP (A ++ x :: C) y = A ++ y :: C := by
  unfold P.putP
  rw [e, findP_mid h]
  simp only [Option.isSome_some, if_true, List.map_append, List.map_cons]
  rw [List.map_append, List.map_cons] at h
  have h2 := List.nodup_append.1 h
  have hA : A.map (fun z => if (z.id == x.id) = true then y else z) = A := by
    conv => rhs; rw [← List.map_id A]
    refine List.map_congr_left fun z hz => ?_
    have : z.id ≠ x.id := h2.2.2 z.id (List.mem_map.2 ⟨z, hz, rfl⟩) x.id (by simp)
    rw [if_neg (by simpa using this)]
    rfl
  have hC : C.map (fun z => if (z.id == x.id) = true then y else z) = C := by
    conv => rhs; rw [← List.map_id C]
    refine List.map_congr_left fun z hz => ?_
    have : z.id ≠ x.id := fun e2 => (List.nodup_cons.1 h2.2.1).1 (by rw [← e2]; exact List.mem_map.2 ⟨z, hz, rfl⟩)
    rw [if_neg (by simpa using this)]
    rfl
  rw [hA, hC]
  simp
variable {w0 w w' : World} {db nb eb : Nat} {D : List DN} {E : List DE} {next : Int} {l : List Res}
theorem H0.appE (l1 : List Res) {l2 : List Res} {v : Value} {L : List Item} (h : H0 w0 w (l1 ++ rowE v L :: l2)) {A : Nat} {it : Item} (hc : w.heap[A]? = some (.cells #[.string it.name, .int .i64 it.node] 38 (0, 0))) (hn : L.length ≤ 1000) (ty : TypeId) :
    ∃ v' w', (Builtin.append_ #[30, 30] ty #[v, .slice (some ⟨A, 0, none⟩) 1 1]).run Tryz.prog w = .ok v' w' ∧ H0 w0 w' (l1 ++ rowE v' (L ++ [it]) :: l2) := by
  obtain ⟨i0, hi, hz0, hz1, hz2⟩ := info_parts info33
  have hv : w.ownsRow w0.heap.size 38 2 v L.length (flatE L) := Hold.sat h (rowE v L) (by simp)
  have hb : w0.heap.size ≤ w.heap.size := (H0.below h).size
  obtain ⟨v', w', hr, ho, hg, _, ha⟩ := run_append_own_at (P := Tryz.prog) w w0.heap.size 30 ty 38 i0 _ 2 24 Tryz.underlying30 hi hz0 hz1 hz2 rfl (by decide) v _ _ hv ⟨A, 0, none⟩ 1 1 [.string it.name, .int .i64 it.node] rfl (fun j u hj => by
    rw [Addr.add_lit, Nat.zero_add, cell_of_row _ _ j _ 38 (0, 0) hc]
    simpa using hj) (fun u hu => by simp at hu; rcases hu with rfl | rfl <;> rfl) (by unfold maxLen; omega) (by omega) hb
  refine ⟨v', w', hr, ?_⟩
  have e : flatE L ++ [.string it.name, .int .i64 it.node] = flatE (L ++ [it]) := by rw [flatE_append]; rfl
  rw [e] at ho
  have e2 : L.length + 1 = (L ++ [it]).length := by simp
  rw [e2] at ho
  exact Hold.grow l1 h hg ho (ha.imp id fun h => ⟨_, h, Nat.le_refl _⟩)
theorem df_ent (h : H0 w0 w (dfR db nb eb D E next l)) (hf : (E.map DE.folder).Nodup) (hE : E.length ≤ 1000) (hI : ∀ e ∈ E, e.items.length ≤ 1000) (i : Int) (hi : WfI i) (it : Item) :
    ∃ v v' w5 w6, (∃ p n c, v = .slice p n c) ∧ P.atP (.slice none 0 0) (E.map DE.pv) i = v ∧ (Builtin.append_ #[30, 30] 30 #[v, .slice (some ⟨w.heap.size, 0, none⟩) 1 1]).run Tryz.prog (w.alloc (.cells #[.string it.name, .int .i64 it.node] 38)) = .ok v' w5 ∧ w5.cell? ⟨db, 1, none⟩ = some (.map (some eb)) ∧
      (Instr.mapUpdate 117 (.map (some eb)) (.int .i64 i) v').run Tryz.prog w5 = .ok () w6 ∧ ∃ E', EntAdd E E' i it ∧ H0 w0 w6 (dfR db nb eb D E' next l) := by
  have ha : H0 w0 (w.alloc (.cells #[.string it.name, .int .i64 it.node] 38)) (dfR db nb eb D E next l) := H0.step h ((Below.refl _ w).alloc (Nat.le_refl _) _)
  cases hx : P.findP (E.map DE.pv) i with
  | none =>
    have hni : i ∉ (E.map DE.pv).map P.PV.id := fun hm => by
      obtain ⟨z, hz, e⟩ := List.mem_map.1 hm
      exact P.findP_none hx z hz e
    have h1 := Hold.nilRow ha 38 2
    have h2 : H0 w0 (w.alloc (.cells #[.string it.name, .int .i64 it.node] 38)) ((.cell db 119 [.map (some nb), .map (some eb), .int .i64 next] :: .obj nb (P.IsMapP (D.map DN.pv)) :: .obj eb (P.IsMapP (E.map DE.pv)) :: (D.map DN.res ++ E.map DE.res)) ++ rowE (.slice none 0 0) [] :: l) := by
      refine Hold.conv h1 (fun x => ?_) (fun r hr => Hold.sat h1 r ?_)
      · simp only [dfR, rowE, List.length_nil, flatE, List.flatMap_nil, total_cons, total_append, total_nil]; omega
      · simp only [dfR, List.mem_append, List.mem_cons, List.not_mem_nil, or_false] at hr ⊢
        rcases hr with (h | h | h | h | h) | h | h <;> simp [h, rowE, flatE]
    obtain ⟨v', w5, hr5, h5⟩ := H0.appE _ h2 (it := it) (heap_alloc_new w _) (by simp) 30
    have h6 : H0 w0 w5 ((.cell db 119 [.map (some nb), .map (some eb), .int .i64 next] :: [.obj nb (P.IsMapP (D.map DN.pv))]) ++ .obj eb (P.IsMapP (E.map DE.pv)) :: (D.map DN.res ++ ((E ++ [(⟨i, v', [it]⟩ : DE)]).map DE.res ++ l))) := by
      refine Hold.conv h5 (fun x => ?_) (fun r hr => Hold.sat h5 r ?_)
      · simp only [DE.res, List.map_append, List.map_cons, List.map_nil, List.nil_append, total_cons, total_append, total_nil]; omega
      · simp only [List.mem_append, List.mem_cons, List.map_append, List.map_cons, List.map_nil, List.not_mem_nil, or_false] at hr ⊢
        rcases hr with (h | h) | h | h | (h | h) | h <;> simp [h, DE.res]
    obtain ⟨w6, hr6, h7⟩ := P.put117 _ h6 (by simpa using hE) ⟨i, v'⟩ hi
    refine ⟨.slice none 0 0, v', w5, w6, ⟨_, _, _, rfl⟩, by unfold P.atP; rw [hx]; rfl, hr5, Hold.cellAt h6 (b := db) (t := 119) (vs := [.map (some nb), .map (some eb), .int .i64 next]) (by simp) (j := 1) rfl, hr6, _, .inl ⟨by rw [← de_ids]; exact hni, v', rfl⟩, ?_⟩
    rw [putP_snoc (v := ⟨i, v'⟩) hni] at h7
    unfold dfR
    rw [List.map_append]
    exact h7
  | some z =>
    obtain ⟨hz, hzi⟩ := P.findP_some hx
    obtain ⟨e, he, rfl⟩ := List.mem_map.1 hz
    obtain ⟨E1, E2, rfl⟩ := List.append_of_mem he
    have hzi : e.folder = i := hzi
    have h2 : H0 w0 (w.alloc (.cells #[.string it.name, .int .i64 it.node] 38)) ((.cell db 119 [.map (some nb), .map (some eb), .int .i64 next] :: .obj nb (P.IsMapP (D.map DN.pv)) :: .obj eb (P.IsMapP ((E1 ++ e :: E2).map DE.pv)) :: (D.map DN.res ++ E1.map DE.res)) ++ rowE e.v e.items :: (E2.map DE.res ++ l)) := by
      refine Hold.conv ha (fun x => ?_) (fun r hr => Hold.sat ha r ?_)
      · simp only [dfR, DE.res, List.map_append, List.map_cons, total_cons, total_append]; omega
      · simp only [dfR, List.mem_append, List.mem_cons, List.map_append, List.map_cons] at hr ⊢
        rcases hr with (h | h | h | h | h) | h | h | h <;> simp [h, DE.res]
    have hrow : w.ownsRow w0.heap.size 38 2 e.v e.items.length (flatE e.items) := Hold.sat h (rowE e.v e.items) (by
      unfold dfR
      simp only [List.mem_cons, List.mem_append, List.map_append, List.map_cons]
      exact .inr (.inr (.inr (.inr (.inl (.inr (.inl rfl)))))))
    have hshape : ∃ p n c, e.v = .slice p n c := by
      rcases hrow.2 with ⟨h1, h2⟩ | ⟨g, cap, cur, h1, _⟩
      · exact ⟨none, 0, 0, h1⟩
      · exact ⟨_, _, cap, h1⟩
    obtain ⟨v', w5, hr5, h5⟩ := H0.appE _ h2 (it := it) (heap_alloc_new w _) (hI e (by simp)) 30
    have h6 : H0 w0 w5 ((.cell db 119 [.map (some nb), .map (some eb), .int .i64 next] :: [.obj nb (P.IsMapP (D.map DN.pv))]) ++ .obj eb (P.IsMapP (E1.map DE.pv ++ e.pv :: E2.map DE.pv)) :: (D.map DN.res ++ ((E1 ++ (⟨i, v', e.items ++ [it]⟩ : DE) :: E2).map DE.res ++ l))) := by
      refine Hold.conv h5 (fun x => ?_) (fun r hr => Hold.sat h5 r ?_)
      · simp only [DE.res, List.map_append, List.map_cons, List.map_nil, List.nil_append, total_cons, total_append, total_nil]; omega
      · simp only [List.mem_append, List.mem_cons, List.map_append, List.map_cons, List.map_nil, List.not_mem_nil, or_false] at hr ⊢
        rcases hr with (h | h) | h | h | (h | h | h) | h <;> simp [h, DE.res]
    have hnd : ((E1.map DE.pv ++ e.pv :: E2.map DE.pv).map P.PV.id).Nodup := by
      have := hf
      rw [← de_ids] at this
      simpa using this
    obtain ⟨w6, hr6, h7⟩ := P.put117 _ h6 (by simpa using hE) ⟨i, v'⟩ hi
    refine ⟨e.v, v', w5, w6, hshape, by unfold P.atP; rw [hx]; rfl, hr5, Hold.cellAt h6 (b := db) (t := 119) (vs := [.map (some nb), .map (some eb), .int .i64 next]) (by simp) (j := 1) rfl, hr6, _, .inr ⟨E1, e, E2, v', rfl, hzi, rfl⟩, ?_⟩
    rw [putP_mid hnd (by exact hzi.symm)] at h7
    unfold dfR
    rw [List.map_append, List.map_cons]
    exact h7
end Go.Proofs.YtjpmomklkkifjaaGreatDoor.T
namespace Go.Proofs.YtjpmomklkkifjaaGreatDoor.T
open Go.RowKit
section
variable {W w w' : World} {B : Nat} {a b c i0 k0 p0 l0 t0 : Value}
abbrev rowR (B : Nat) (a b c i0 k0 p0 l0 t0 : Value) : List Res := [.cell (B + 1) 69 [a, b, c], .cell B 33 [i0, k0, p0, l0, t0]]
end
end Go.Proofs.YtjpmomklkkifjaaGreatDoor.T
namespace Go.Proofs.YtjpmomklkkifjaaGreatDoor.T
open Go.RowKit
section
variable {W w w' : World} {B : Nat} {a b c n0 d0 : Value}
abbrev rowX (B : Nat) (a b c n0 d0 : Value) : List Res := [.cell (B + 1) 69 [a, b, c], .cell B 38 [n0, d0]]
end
end Go.Proofs.YtjpmomklkkifjaaGreatDoor.T
namespace Go.Proofs.YtjpmomklkkifjaaGreatDoor.T
open Go.RowKit
variable {w0 w : World} {fb mb : Nat} {N : List NV} {F : Forest} {next : Int} {l2 : List Res}
theorem FSIn.appC (l1 : List Res) {v : Value} {R : List CH} (h : FSIn w0 w fb mb N F next (l1 ++ rowCh v R :: l2)) {A : Nat} {c : CH} (hc : w.heap[A]? = some (.cells (encC c).toArray 69 (0, 0))) (hn : R.length ≤ 1000) (ty : TypeId) :
    ∃ v' w', (Builtin.append_ #[54, 54] ty #[v, .slice (some ⟨A, 0, none⟩) 1 1]).run Tryz.prog w = .ok v' w' ∧ FSIn w0 w' fb mb N F next (l1 ++ rowCh v' (R ++ [c]) :: l2) := by
  obtain ⟨i0, hi, hz0, hz1, hz2⟩ := info_parts infoChange
  have hv := h.rowAt (v := v) (e := 69) (k := 3) (n := R.length) (xs := flatC R) (by simp [rowCh])
  have hb := h.low
  obtain ⟨v', w', hr, ho, hg, _, ha⟩ := run_append_own_at (P := Tryz.prog) w w0.heap.size 54 ty 69 i0 _ 3 40 Tryz.underlying54 hi hz0 hz1 hz2 rfl (by decide) v _ _ hv ⟨A, 0, none⟩ 1 1 (encC c) rfl (fun j u hj => by
    rw [Addr.add_lit, Nat.zero_add, cell_of_row _ _ j _ 69 (0, 0) hc]
    simpa using hj) (fun u hu => by simp [encC] at hu; rcases hu with rfl | rfl | rfl <;> rfl) (by unfold maxLen; omega) (by omega) hb
  refine ⟨v', w', hr, ?_⟩
  rw [← flatC_snoc] at ho
  have e : R.length + 1 = (R ++ [c]).length := by simp
  rw [e] at ho
  exact FSIn.grow l1 h hg ho (ha.imp id fun h => ⟨_, h, Nat.le_refl _⟩)
theorem total_perm {a b : List Res} (h : a.Perm b) (x : Nat) : total a x = total b x := by
  unfold total
  exact (h.map _).sum_nat
theorem FSIn.perm {l3 : List Res} (h : FSIn w0 w fb mb N F next l2) (hp : l3.Perm l2) : FSIn w0 w fb mb N F next l3 :=
  h.conv (fun x => Nat.le_of_eq (total_perm hp x)) fun hs r hr => hs r (hp.mem_iff.1 hr)
end Go.Proofs.YtjpmomklkkifjaaGreatDoor.T
namespace Go.Proofs.YtjpmomklkkifjaaGreatDoor.T
open Go.RowKit
variable {w0 w w' : World} {db nb eb : Nat} {D : List DN} {E : List DE} {next : Int} {l : List Res}
theorem H0.perm {a b : List Res} (h : H0 w0 w a) (hp : b.Perm a) : H0 w0 w b := Hold.conv h (fun x => Nat.le_of_eq (total_perm hp x)) fun r hr => Hold.sat h r (hp.mem_iff.1 hr)
theorem dfR_front {r : Res} : (dfR db nb eb D E next (r :: l)).Perm (r :: dfR db nb eb D E next l) := by
  have h : dfR db nb eb D E next (r :: l) = (.cell db 119 [.map (some nb), .map (some eb), .int .i64 next] :: .obj nb (P.IsMapP (D.map DN.pv)) :: .obj eb (P.IsMapP (E.map DE.pv)) :: (D.map DN.res ++ E.map DE.res)) ++ r :: l := by simp [dfR]
  have h2 : dfR db nb eb D E next l = (.cell db 119 [.map (some nb), .map (some eb), .int .i64 next] :: .obj nb (P.IsMapP (D.map DN.pv)) :: .obj eb (P.IsMapP (E.map DE.pv)) :: (D.map DN.res ++ E.map DE.res)) ++ l := by simp [dfR]
  rw [h, h2]
  exact List.perm_middle
theorem df_push {r : Res} (h : H0 w0 w (r :: dfR db nb eb D E next l)) : H0 w0 w (dfR db nb eb D E next (r :: l)) := H0.perm h dfR_front
theorem df_pop {r : Res} (h : H0 w0 w (dfR db nb eb D E next (r :: l))) : H0 w0 w (dfR db nb eb D E next l) := by
  have h1 := H0.perm h dfR_front.symm
  exact Hold.conv h1 (fun x => by simp only [total_cons]; omega) fun q hq => Hold.sat h1 q (by simp [hq])
theorem box_cells {b : Nat} {a0 a1 a2 : Value} (h : H0 w0 w (dfR db nb eb D E next (.cell b 69 [a0, a1, a2] :: l))) : w.cell? ⟨b, 0, none⟩ = some a0 ∧ w.cell? ⟨b, 1, none⟩ = some a1 := by
  have hm : Res.cell b 69 [a0, a1, a2] ∈ dfR db nb eb D E next (.cell b 69 [a0, a1, a2] :: l) := by simp [dfR]
  exact ⟨Hold.cellAt h hm rfl, Hold.cellAt h hm rfl⟩
theorem df_next (h : H0 w0 w (dfR db nb eb D E next l)) (n : Int) : H0 w0 (w.setCell ⟨db, 2, none⟩ (.int .i64 n)) (dfR db nb eb D E n l) := Hold.store [] h 2 (.int .i64 n) _ rfl
end Go.Proofs.YtjpmomklkkifjaaGreatDoor.T
namespace Go.Proofs.YtjpmomklkkifjaaGreatDoor.T.P
open Go.RowKit
open Go.Maps (Keyed)
open Go.Proofs.YtjpmomklkkifjaaGreatDoor.T
structure Came (N : List PV) (acc : List PV) (left : Lit → Bool) : Prop where
  sub : ∀ u ∈ acc, u ∈ N
  nodup : (acc.map PV.id).Nodup
  left : ∀ i, WfI i → (left (.int .i64 i) = true ↔ (findP N i).isSome = true ∧ i ∉ acc.map PV.id)
variable {N : List PV}
theorem Came.all {acc : List PV} {left : Lit → Bool} (h : Came N acc left) (hn : (N.map PV.id).Nodup) (hw : ∀ v ∈ N, WfI v.id) (h0 : ∀ kl, left kl = false) : acc.Perm N := by
  have hsub : ∀ v ∈ N, v ∈ acc := fun v hv => by
    have h1 := h.left v.id (hw v hv)
    rw [h0] at h1
    have h2 : v.id ∈ acc.map PV.id := by
      apply Classical.byContradiction
      intro hno
      have := h1.2 ⟨by rw [findP_mem hn hv]; rfl, hno⟩
      cases this
    obtain ⟨u, hu, e⟩ := List.mem_map.1 h2
    have : u = v := by
      have a := findP_mem hn (h.sub u hu)
      have b := findP_mem hn hv
      rw [e, b] at a
      exact (Option.some.inj a).symm
    rw [← this]; exact hu
  have hna : acc.Nodup := (List.pairwise_map.1 h.nodup).imp fun hne e => hne (by rw [e])
  have hnN : N.Nodup := (List.pairwise_map.1 hn).imp fun hne e => hne (by rw [e])
  exact (List.perm_ext_iff_of_nodup hna hnN).2 fun v => ⟨fun hv => h.sub v hv, hsub v⟩
theorem Came.more {acc : List PV} {left : Lit → Bool} (h : Came N acc left) {u : PV} (hw : WfI u.id) (hu : findP N u.id = some u) (hl : left (.int .i64 u.id) = true) : Came N (acc ++ [u]) (fun z => left z && !z.sameKey (.int .i64 u.id)) := by
  have h1 := (h.left u.id hw).1 hl
  refine ⟨fun x hx => ?_, ?_, fun i hi => ?_⟩
  · rcases List.mem_append.1 hx with hx | hx
    · exact h.sub x hx
    · rw [List.mem_singleton.1 hx]; exact (findP_some hu).1
  · rw [List.map_append, List.nodup_append]
    refine ⟨h.nodup, by simp, fun a ha b hb e => ?_⟩
    simp at hb
    subst hb
    rw [e] at ha
    exact h1.2 ha
  · have hs : (Lit.int .i64 i).sameKey (.int .i64 u.id) = decide (i = u.id) := by
      simp [Lit.sameKey]
    simp only [hs]
    rw [List.map_append, List.mem_append]
    by_cases e : i = u.id
    · subst e; simp
    · have := h.left i hi
      simp [e, this]
theorem came_start {N : List PV} {D : DataW Value} (hm : MapP N D) : Came N [] (Maps.has D) := ⟨by simp, by simp, fun i hi => by rw [hm.has hi]; simp⟩
theorem nodup_subP {N acc : List PV} (h1 : (acc.map PV.id).Nodup) (h2 : ∀ u ∈ acc, u ∈ N) : acc.length ≤ N.length := by
  have := nodup_sub h1 (m := N.map PV.id) fun x hx => by
    obtain ⟨u, hu, rfl⟩ := List.mem_map.1 hx
    exact List.mem_map.2 ⟨u, h2 u hu, rfl⟩
  rwa [List.length_map, List.length_map] at this
end Go.Proofs.YtjpmomklkkifjaaGreatDoor.T.P
namespace Go.Proofs.YtjpmomklkkifjaaGreatDoor.T
open Go.RowKit
def lastF (A : List (Int × Item)) (i : Int) : Int := A.foldl (fun a p => if p.2.node = i then p.1 else a) 0
theorem lastF_snoc (A : List (Int × Item)) (p : Int × Item) (i : Int) : lastF (A ++ [p]) i = if p.2.node = i then p.1 else lastF A i := by
  unfold lastF
  rw [List.foldl_append]
  rfl
theorem refsE_snoc (A : List (Int × Item)) (p : Int × Item) (i : Int) : refsE (A ++ [p]) i = refsE A i + if p.2.node = i then 1 else 0 := by
  unfold refsE
  rw [List.countP_append, List.countP_cons]
  simp
def mk1 (A : List (Int × Item)) (d : DN) : DN := ⟨d.blk, d.id, d.kind, d.up, d.tail, refsE A d.id, lastF A d.id⟩
def mark (A : List (Int × Item)) (D : List DN) : List DN := D.map (mk1 A)
theorem mark_pv (A : List (Int × Item)) (D : List DN) : (mark A D).map DN.pv = D.map DN.pv := by simp [mark, mk1, DN.pv, Function.comp_def]
theorem mark_nil {D : List DN} (h : ∀ d ∈ D, d.named = 0 ∧ d.fr = 0) : mark [] D = D := by
  unfold mark
  conv => rhs; rw [← List.map_id D]
  refine List.map_congr_left fun d hd => ?_
  obtain ⟨h1, h2⟩ := h d hd
  unfold mk1
  show (⟨d.blk, d.id, d.kind, d.up, d.tail, 0, 0⟩ : DN) = d
  cases d
  simp only at h1 h2
  subst h1 h2
  rfl
variable {w0 w w' : World} {db nb eb : Nat} {D : List DN} {E : List DE} {next : Int} {l : List Res} {A : List (Int × Item)}
theorem find_dn (hn : (D.map DN.id).Nodup) {d : DN} (hd : d ∈ D) : P.findP (D.map DN.pv) d.id = some d.pv := by
  have h1 : ((D.map DN.pv).map P.PV.id).Nodup := by rw [dn_ids]; exact hn
  exact P.findP_mem h1 (List.mem_map.2 ⟨d, hd, rfl⟩)
theorem df_look (h : H0 w0 w (dfR db nb eb (mark A D) E next l)) (hn : (D.map DN.id).Nodup) {d : DN} (hd : d ∈ D) (hi : WfI d.id) :
    (Instr.lookup 116 (.map (some nb)) (.int .i64 d.id) true).run Tryz.prog w = .ok (.tuple #[.pointer (some ⟨d.blk, 0, none⟩), .bool true]) w ∧ (Instr.lookup 116 (.map (some nb)) (.int .i64 d.id) false).run Tryz.prog w = .ok (.pointer (some ⟨d.blk, 0, none⟩)) w := by
  have hs := Hold.sat h (.obj nb (P.IsMapP ((mark A D).map DN.pv))) (by simp [dfR])
  have h1 := P.look116 hs hi
  have h2 := P.look116f hs hi
  rw [mark_pv] at h1 h2
  unfold P.atP at h1 h2
  rw [find_dn hn hd] at h1 h2
  exact ⟨h1, h2⟩
theorem df_dn (h : H0 w0 w (dfR db nb eb (mark A D) E next l)) {d : DN} (hd : d ∈ D) :
    w.cell? ⟨d.blk, 0, none⟩ = some (.string d.kind) ∧ w.cell? ⟨d.blk, 1, none⟩ = some (.int .i64 d.up) ∧ w.cell? ⟨d.blk, 2, none⟩ = some (.string d.tail) ∧ w.cell? ⟨d.blk, 3, none⟩ = some (.int .i64 (refsE A d.id)) ∧ w.cell? ⟨d.blk, 4, none⟩ = some (.int .i64 (lastF A d.id)) ∧ w.frozen? ⟨d.blk, 3, none⟩ = false ∧ w.frozen? ⟨d.blk, 4, none⟩ = false := by
  have hm : Res.cell d.blk 170 [.string d.kind, .int .i64 d.up, .string d.tail, .int .i64 (refsE A d.id), .int .i64 (lastF A d.id)] ∈ dfR db nb eb (mark A D) E next l := by
    unfold dfR
    simp only [List.mem_cons, List.mem_append]
    exact .inr (.inr (.inr (.inl (List.mem_map.2 ⟨mk1 A d, List.mem_map.2 ⟨d, hd, rfl⟩, rfl⟩))))
  exact ⟨Hold.cellAt h hm rfl, Hold.cellAt h hm rfl, Hold.cellAt h hm rfl, Hold.cellAt h hm rfl, Hold.cellAt h hm rfl, Hold.frozenAt h hm _, Hold.frozenAt h hm _⟩
theorem df_mark (h : H0 w0 w (dfR db nb eb (mark A D) E next l)) (hn : (D.map DN.id).Nodup) {d : DN} (hd : d ∈ D) (p : Int × Item) (hp : p.2.node = d.id) :
    H0 w0 ((w.setCell ⟨d.blk, 3, none⟩ (.int .i64 (refsE A d.id + 1))).setCell ⟨d.blk, 4, none⟩ (.int .i64 p.1)) (dfR db nb eb (mark (A ++ [p]) D) E next l) := by
  obtain ⟨D1, D2, rfl⟩ := List.append_of_mem hd
  have hn2 := List.nodup_append.1 (by simpa using hn : (D1.map DN.id ++ d.id :: D2.map DN.id).Nodup)
  have e1 : mark (A ++ [p]) D1 = mark A D1 := List.map_congr_left fun x hx => by
    have : x.id ≠ d.id := hn2.2.2 x.id (List.mem_map.2 ⟨x, hx, rfl⟩) d.id (by simp)
    unfold mk1
    rw [refsE_snoc, lastF_snoc, if_neg (by rw [hp]; exact fun e => this e.symm), if_neg (by rw [hp]; exact fun e => this e.symm)]
    rfl
  have e2 : mark (A ++ [p]) D2 = mark A D2 := List.map_congr_left fun x hx => by
    have : x.id ≠ d.id := fun e => (List.nodup_cons.1 hn2.2.1).1 (by rw [← e]; exact List.mem_map.2 ⟨x, hx, rfl⟩)
    unfold mk1
    rw [refsE_snoc, lastF_snoc, if_neg (by rw [hp]; exact fun e => this e.symm), if_neg (by rw [hp]; exact fun e => this e.symm)]
    rfl
  have e3 : mk1 (A ++ [p]) d = ⟨d.blk, d.id, d.kind, d.up, d.tail, refsE A d.id + 1, p.1⟩ := by
    unfold mk1
    rw [refsE_snoc, lastF_snoc, if_pos hp, if_pos hp]
    simp
  have h1 : H0 w0 w ((.cell db 119 [.map (some nb), .map (some eb), .int .i64 next] :: .obj nb (P.IsMapP ((D1 ++ d :: D2).map DN.pv)) :: .obj eb (P.IsMapP (E.map DE.pv)) :: (mark A D1).map DN.res) ++ .cell d.blk 170 [.string d.kind, .int .i64 d.up, .string d.tail, .int .i64 (refsE A d.id), .int .i64 (lastF A d.id)] :: ((mark A D2).map DN.res ++ (E.map DE.res ++ l))) := by
    have h2 := h
    unfold dfR at h2
    rw [mark_pv] at h2
    have e4 : (mark A (D1 ++ d :: D2)).map DN.res = (mark A D1).map DN.res ++ .cell d.blk 170 [.string d.kind, .int .i64 d.up, .string d.tail, .int .i64 (refsE A d.id), .int .i64 (lastF A d.id)] :: (mark A D2).map DN.res := by
      simp [mark, DN.res, DN.cells, mk1]
    rw [e4] at h2
    simpa using h2
  have h3 := Hold.store _ h1 3 (.int .i64 (refsE A d.id + 1)) [.string d.kind, .int .i64 d.up, .string d.tail, .int .i64 (refsE A d.id + 1), .int .i64 (lastF A d.id)] rfl
  have h4 := Hold.store _ h3 4 (.int .i64 p.1) [.string d.kind, .int .i64 d.up, .string d.tail, .int .i64 (refsE A d.id + 1), .int .i64 p.1] rfl
  unfold dfR
  rw [mark_pv]
  have e5 : (mark (A ++ [p]) (D1 ++ d :: D2)).map DN.res = (mark A D1).map DN.res ++ .cell d.blk 170 [.string d.kind, .int .i64 d.up, .string d.tail, .int .i64 (refsE A d.id + 1), .int .i64 p.1] :: (mark A D2).map DN.res := by
    have : mark (A ++ [p]) (D1 ++ d :: D2) = mark (A ++ [p]) D1 ++ mk1 (A ++ [p]) d :: mark (A ++ [p]) D2 := by simp [mark]
    rw [this, e1, e2, e3]
    simp [DN.res, DN.cells]
  rw [e5]
  simpa using h4
end Go.Proofs.YtjpmomklkkifjaaGreatDoor.T
namespace Go.Proofs.YtjpmomklkkifjaaGreatDoor.T
open Go.RowKit
open Go.Maps (Keyed)
variable {w0 w w' : World} {db nb eb : Nat} {D : List DN} {E : List DE} {next : Int} {l : List Res} {A : List (Int × Item)}
def tagsOf (E : List DE) : List (Int × Item) := E.flatMap fun e => tagE e.folder e.items
theorem H0.foundObj {rs : List Res} (h : H0 w0 w rs) (hb : Below w.heap.size w w') {b : Nat} (h1 : w.heap.size ≤ b) (h2 : b < w'.heap.size) : H0 w0 w' (someB b :: rs) := by
  have hs := (H0.below h).size
  exact Hold.new (r := someB b) h (Kept.of_below hb) ⟨by omega, _, Array.getElem?_eq_getElem h2, trivial⟩ (fun x hx => by obtain rfl := one_pos.1 hx; exact h1) (one_le b)
theorem H0.turned (l1 : List Res) {b : Nat} {l2 : List Res} (h : H0 w0 w (l1 ++ someB b :: l2)) (hg : w.grownBy w' (some b)) : H0 w0 w' (l1 ++ someB b :: l2) := by
  have hs := Hold.sat h (someB b) (by simp)
  obtain ⟨hb1, o, ho, _⟩ := hs
  have hlt : b < w.heap.size := (Array.getElem?_eq_some_iff.1 ho).1
  exact Hold.put _ h ((Kept.refl _ w).grown hg fun x hx _ => by cases hx; show 0 < one b b; rw [one_self]; decide) ⟨hb1, _, Array.getElem?_eq_getElem (Nat.lt_of_lt_of_le hlt hg.size), trivial⟩ (fun x _ => Nat.le_refl _) (one_le b)
theorem df_apart {rb : Nat} (h : H0 w0 w (someB rb :: dfR db nb eb (mark A D) E next l)) {d : DN} (hd : d ∈ D) : eb ≠ d.blk ∧ rb ≠ d.blk ∧ eb ≠ rb := by
  have hm : 1 ≤ total ((mark A D).map DN.res) d.blk := by
    have h1 : DN.res (mk1 A d) ∈ (mark A D).map DN.res := List.mem_map.2 ⟨_, List.mem_map.2 ⟨d, hd, rfl⟩, rfl⟩
    have h2 := total_mem h1 d.blk
    have h3 : (DN.res (mk1 A d)).foot d.blk = 1 := by show one d.blk d.blk = 1; exact one_self _
    omega
  refine ⟨fun e => ?_, fun e => ?_, fun e => ?_⟩
  · have := Hold.uniq h d.blk
    simp only [dfR, total_cons, total_append] at this
    have h4 : (Res.obj eb (P.IsMapP (E.map DE.pv))).foot d.blk = 1 := by rw [e]; exact one_self _
    omega
  · have := Hold.uniq h d.blk
    simp only [dfR, total_cons, total_append] at this
    have h4 : (someB rb).foot d.blk = 1 := by rw [e]; exact one_self _
    omega
  · have := Hold.uniq h rb
    simp only [dfR, total_cons, total_append] at this
    have h4 : (Res.obj eb (P.IsMapP (E.map DE.pv))).foot rb = 1 := by rw [e]; exact one_self _
    have h5 : (someB rb).foot rb = 1 := one_self _
    omega
theorem nodup_inj {α β : Type} (f : α → β) : ∀ {L : List α}, (L.map f).Nodup → ∀ {a b : α}, a ∈ L → b ∈ L → f a = f b → a = b
  | [], _, a, b, ha, _, _ => by cases ha
  | x :: L, hn, a, b, ha, hb, e => by
    rw [List.map_cons, List.nodup_cons] at hn
    rcases List.mem_cons.1 ha with ha | ha <;> rcases List.mem_cons.1 hb with hb | hb
    · rw [ha, hb]
    · exact absurd (List.mem_map.2 ⟨b, hb, by rw [← e, ha]⟩) hn.1
    · exact absurd (List.mem_map.2 ⟨a, ha, by rw [e, hb]⟩) hn.1
    · exact nodup_inj f hn.2 ha hb e
theorem df_mem {e : DE} (he : e ∈ E) : rowE e.v e.items ∈ dfR db nb eb D E next l := by
  unfold dfR
  simp only [List.mem_cons, List.mem_append]
  exact .inr (.inr (.inr (.inr (.inl (List.mem_map.2 ⟨e, he, rfl⟩)))))
theorem tags_len : ∀ (F : List DE), (∀ e ∈ F, e.items.length ≤ 1000) → (tagsOf F).length ≤ F.length * 1000
  | [], _ => by simp [tagsOf]
  | e :: F, h => by
    have h1 := tags_len F fun x hx => h x (List.mem_cons_of_mem _ hx)
    have h2 := h e List.mem_cons_self
    have h3 : tagsOf (e :: F) = tagE e.folder e.items ++ tagsOf F := rfl
    rw [h3, List.length_append, List.length_cons, Nat.add_mul]
    have h4 : (tagE e.folder e.items).length = e.items.length := by simp [tagE]
    omega
theorem refs_le (A : List (Int × Item)) (i : Int) : refsE A i ≤ A.length := List.countP_le_length
theorem df_pop' {r : Res} (h : H0 w0 w (dfR db nb eb D E next (r :: l))) : H0 w0 w (r :: dfR db nb eb D E next l) := H0.perm h dfR_front.symm
theorem mark_perm {A B : List (Int × Item)} (h : A.Perm B) (i : Int) : refsE A i = refsE B i := by unfold refsE; exact h.countP_eq _
theorem take_snoc {α : Type} {L : List α} {j : Nat} {x : α} (h : L[j]? = some x) : L.take (j + 1) = L.take j ++ [x] := by rw [List.take_add_one, h]; rfl
end Go.Proofs.YtjpmomklkkifjaaGreatDoor.T
