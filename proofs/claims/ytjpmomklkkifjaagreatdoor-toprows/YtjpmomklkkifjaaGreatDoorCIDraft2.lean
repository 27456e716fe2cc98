/-
  The contract of readEntry: an entry more of a draft.
-/
import Derived.Test.YtjpmomklkkifjaaGreatDoorCFListP
import Derived.Test.YtjpmomklkkifjaaGreatDoorCBWalkA
import Derived.Test.YtjpmomklkkifjaaGreatDoorCBPutFacts
import Derived.Deep.RegionHeldLaw
namespace Go.Proofs.YtjpmomklkkifjaaGreatDoor.T
open Go.RowKit Go.Lib
set_option maxRecDepth 100000
set_option linter.unusedVariables false
set_option linter.unusedSimpArgs false

def EntAdd (E E' : List DE) (i : Int) (it : Item) : Prop :=
  (i ∉ E.map DE.folder ∧ ∃ v', E' = E ++ [⟨i, v', [it]⟩]) ∨ ∃ E1 e E2 v', E = E1 ++ e :: E2 ∧ e.folder = i ∧ E' = E1 ++ ⟨i, v', e.items ++ [it]⟩ :: E2
theorem findP_mid {A C : List P.PV} {x : P.PV} (h : ((A ++ x :: C).map P.PV.id).Nodup) : P.findP (A ++ x :: C) x.id = some x := P.findP_mem h (by simp)
theorem putP_mid {A C : List P.PV} {x y : P.PV} (h : ((A ++ x :: C).map P.PV.id).Nodup) (e : y.id = x.id) : P.putP (A ++ x :: C) y = A ++ y :: C := by
  unfold P.putP
  rw [e, findP_mid h]
  simp only [Option.isSome_some, if_true, List.map_append, List.map_cons]
  rw [List.map_append, List.map_cons] at h
  have h2 := List.nodup_append.1 h
  have hA : A.map (fun z => if (z.id == x.id) = true then y else z) = A := by
    conv => rhs; rw [← List.map_id A]
    refine List.map_congr_left fun z hz => ?_
    have : z.id ≠ x.id := h2.2.2 z.id (List.mem_map.2 ⟨z, hz, rfl⟩) x.id (by simp)
    rw [if_neg (by simpa using this)]
    rfl
  have hC : C.map (fun z => if (z.id == x.id) = true then y else z) = C := by
    conv => rhs; rw [← List.map_id C]
    refine List.map_congr_left fun z hz => ?_
    have : z.id ≠ x.id := fun e2 => (List.nodup_cons.1 h2.2.1).1 (by rw [← e2]; exact List.mem_map.2 ⟨z, hz, rfl⟩)
    rw [if_neg (by simpa using this)]
    rfl
  rw [hA, hC]
  simp

variable {w0 w w' : World} {db nb eb : Nat} {D : List DN} {E : List DE} {next : Int} {l : List Res}
theorem H0.appE (l1 : List Res) {l2 : List Res} {v : Value} {L : List Item} (h : H0 w0 w (l1 ++ rowE v L :: l2)) {A : Nat} {it : Item} (hc : w.heap[A]? = some (.cells #[.string it.name, .int .i64 it.node] 38 (0, 0))) (hn : L.length ≤ 1000) (ty : TypeId) :
    ∃ v' w', (Builtin.append_ #[30, 30] ty #[v, .slice (some ⟨A, 0, none⟩) 1 1]).run Tryz.prog w = .ok v' w' ∧ H0 w0 w' (l1 ++ rowE v' (L ++ [it]) :: l2) := by
  obtain ⟨i0, hi, hz0, hz1, hz2⟩ := info_parts info33
  have hv : w.ownsRow w0.heap.size 38 2 v L.length (flatE L) := Hold.sat h (rowE v L) (by simp)
  have hb : w0.heap.size ≤ w.heap.size := (H0.below h).size
  obtain ⟨v', w', hr, ho, hg, _, ha⟩ := run_append_own_at (P := Tryz.prog) w w0.heap.size 30 ty 38 i0 _ 2 24 Tryz.underlying30 hi hz0 hz1 hz2 rfl (by decide) v _ _ hv ⟨A, 0, none⟩ 1 1 [.string it.name, .int .i64 it.node] rfl (fun j u hj => by
    rw [Addr.add_lit, Nat.zero_add, cell_of_row _ _ j _ 38 (0, 0) hc]
    simpa using hj) (fun u hu => by simp at hu; rcases hu with rfl | rfl <;> rfl) (by unfold maxLen; omega) (by omega) hb
  refine ⟨v', w', hr, ?_⟩
  have e : flatE L ++ [.string it.name, .int .i64 it.node] = flatE (L ++ [it]) := by rw [flatE_append]; rfl
  rw [e] at ho
  have e2 : L.length + 1 = (L ++ [it]).length := by simp
  rw [e2] at ho
  exact Hold.grow l1 h hg ho (ha.imp id fun h => ⟨_, h, Nat.le_refl _⟩)
theorem df_ent (h : H0 w0 w (dfR db nb eb D E next l)) (hf : (E.map DE.folder).Nodup) (hE : E.length ≤ 1000) (hI : ∀ e ∈ E, e.items.length ≤ 1000) (i : Int) (hi : WfI i) (it : Item) :
    ∃ v v' w5 w6, (∃ p n c, v = .slice p n c) ∧ P.atP (.slice none 0 0) (E.map DE.pv) i = v ∧ (Builtin.append_ #[30, 30] 30 #[v, .slice (some ⟨w.heap.size, 0, none⟩) 1 1]).run Tryz.prog (w.alloc (.cells #[.string it.name, .int .i64 it.node] 38)) = .ok v' w5 ∧ w5.cell? ⟨db, 1, none⟩ = some (.map (some eb)) ∧
      (Instr.mapUpdate 117 (.map (some eb)) (.int .i64 i) v').run Tryz.prog w5 = .ok () w6 ∧ ∃ E', EntAdd E E' i it ∧ H0 w0 w6 (dfR db nb eb D E' next l) := by
  have ha : H0 w0 (w.alloc (.cells #[.string it.name, .int .i64 it.node] 38)) (dfR db nb eb D E next l) := H0.step h ((Below.refl _ w).alloc (Nat.le_refl _) _)
  cases hx : P.findP (E.map DE.pv) i with
  | none =>
    have hni : i ∉ (E.map DE.pv).map P.PV.id := fun hm => by
      obtain ⟨z, hz, e⟩ := List.mem_map.1 hm
      exact P.findP_none hx z hz e
    have h1 := Hold.nilRow ha 38 2
    have h2 : H0 w0 (w.alloc (.cells #[.string it.name, .int .i64 it.node] 38)) ((.cell db 119 [.map (some nb), .map (some eb), .int .i64 next] :: .obj nb (P.IsMapP (D.map DN.pv)) :: .obj eb (P.IsMapP (E.map DE.pv)) :: (D.map DN.res ++ E.map DE.res)) ++ rowE (.slice none 0 0) [] :: l) := by
      refine Hold.conv h1 (fun x => ?_) (fun r hr => Hold.sat h1 r ?_)
      · simp only [dfR, rowE, List.length_nil, flatE, List.flatMap_nil, total_cons, total_append, total_nil]; omega
      · simp only [dfR, List.mem_append, List.mem_cons, List.not_mem_nil, or_false] at hr ⊢
        rcases hr with (h | h | h | h | h) | h | h <;> simp [h, rowE, flatE]
    obtain ⟨v', w5, hr5, h5⟩ := H0.appE _ h2 (it := it) (heap_alloc_new w _) (by simp) 30
    have h6 : H0 w0 w5 ((.cell db 119 [.map (some nb), .map (some eb), .int .i64 next] :: [.obj nb (P.IsMapP (D.map DN.pv))]) ++ .obj eb (P.IsMapP (E.map DE.pv)) :: (D.map DN.res ++ ((E ++ [(⟨i, v', [it]⟩ : DE)]).map DE.res ++ l))) := by
      refine Hold.conv h5 (fun x => ?_) (fun r hr => Hold.sat h5 r ?_)
      · simp only [DE.res, List.map_append, List.map_cons, List.map_nil, List.nil_append, total_cons, total_append, total_nil]; omega
      · simp only [List.mem_append, List.mem_cons, List.map_append, List.map_cons, List.map_nil, List.not_mem_nil, or_false] at hr ⊢
        rcases hr with (h | h) | h | h | (h | h) | h <;> simp [h, DE.res]
    obtain ⟨w6, hr6, h7⟩ := P.put117 _ h6 (by simpa using hE) ⟨i, v'⟩ hi
    refine ⟨.slice none 0 0, v', w5, w6, ⟨_, _, _, rfl⟩, by unfold P.atP; rw [hx]; rfl, hr5, Hold.cellAt h6 (b := db) (t := 119) (vs := [.map (some nb), .map (some eb), .int .i64 next]) (by simp) (j := 1) rfl, hr6, _, .inl ⟨by rw [← de_ids]; exact hni, v', rfl⟩, ?_⟩
    rw [putP_snoc (v := ⟨i, v'⟩) hni] at h7
    unfold dfR
    rw [List.map_append]
    exact h7
  | some z =>
    obtain ⟨hz, hzi⟩ := P.findP_some hx
    obtain ⟨e, he, rfl⟩ := List.mem_map.1 hz
    obtain ⟨E1, E2, rfl⟩ := List.append_of_mem he
    have hzi : e.folder = i := hzi
    have h2 : H0 w0 (w.alloc (.cells #[.string it.name, .int .i64 it.node] 38)) ((.cell db 119 [.map (some nb), .map (some eb), .int .i64 next] :: .obj nb (P.IsMapP (D.map DN.pv)) :: .obj eb (P.IsMapP ((E1 ++ e :: E2).map DE.pv)) :: (D.map DN.res ++ E1.map DE.res)) ++ rowE e.v e.items :: (E2.map DE.res ++ l)) := by
      refine Hold.conv ha (fun x => ?_) (fun r hr => Hold.sat ha r ?_)
      · simp only [dfR, DE.res, List.map_append, List.map_cons, total_cons, total_append]; omega
      · simp only [dfR, List.mem_append, List.mem_cons, List.map_append, List.map_cons] at hr ⊢
        rcases hr with (h | h | h | h | h) | h | h | h <;> simp [h, DE.res]
    have hrow : w.ownsRow w0.heap.size 38 2 e.v e.items.length (flatE e.items) := Hold.sat h (rowE e.v e.items) (by
      unfold dfR
      simp only [List.mem_cons, List.mem_append, List.map_append, List.map_cons]
      exact .inr (.inr (.inr (.inr (.inl (.inr (.inl rfl)))))))
    have hshape : ∃ p n c, e.v = .slice p n c := by
      rcases hrow.2 with ⟨h1, h2⟩ | ⟨g, cap, cur, h1, _⟩
      · exact ⟨none, 0, 0, h1⟩
      · exact ⟨_, _, cap, h1⟩
    obtain ⟨v', w5, hr5, h5⟩ := H0.appE _ h2 (it := it) (heap_alloc_new w _) (hI e (by simp)) 30
    have h6 : H0 w0 w5 ((.cell db 119 [.map (some nb), .map (some eb), .int .i64 next] :: [.obj nb (P.IsMapP (D.map DN.pv))]) ++ .obj eb (P.IsMapP (E1.map DE.pv ++ e.pv :: E2.map DE.pv)) :: (D.map DN.res ++ ((E1 ++ (⟨i, v', e.items ++ [it]⟩ : DE) :: E2).map DE.res ++ l))) := by
      refine Hold.conv h5 (fun x => ?_) (fun r hr => Hold.sat h5 r ?_)
      · simp only [DE.res, List.map_append, List.map_cons, List.map_nil, List.nil_append, total_cons, total_append, total_nil]; omega
      · simp only [List.mem_append, List.mem_cons, List.map_append, List.map_cons, List.map_nil, List.not_mem_nil, or_false] at hr ⊢
        rcases hr with (h | h) | h | h | (h | h | h) | h <;> simp [h, DE.res]
    have hnd : ((E1.map DE.pv ++ e.pv :: E2.map DE.pv).map P.PV.id).Nodup := by
      have := hf
      rw [← de_ids] at this
      simpa using this
    obtain ⟨w6, hr6, h7⟩ := P.put117 _ h6 (by simpa using hE) ⟨i, v'⟩ hi
    refine ⟨e.v, v', w5, w6, hshape, by unfold P.atP; rw [hx]; rfl, hr5, Hold.cellAt h6 (b := db) (t := 119) (vs := [.map (some nb), .map (some eb), .int .i64 next]) (by simp) (j := 1) rfl, hr6, _, .inr ⟨E1, e, E2, v', rfl, hzi, rfl⟩, ?_⟩
    rw [putP_mid hnd (by exact hzi.symm)] at h7
    unfold dfR
    rw [List.map_append, List.map_cons]
    exact h7

set_option maxHeartbeats 8000000 in
theorem readEntry_calls (hR : Ready w0) (h : H0 w0 w (dfR db nb eb D E next l)) (hf : (E.map DE.folder).Nodup) (hE : E.length ≤ 1000) (hI : ∀ e ∈ E, e.items.length ≤ 1000) (i : Int) (hi : WfI i) (d : Nat) (hd : d < 100) (key nm : ByteArray) (hc : checkP nm = none) (hsz : nm.size ≤ 1000) :
    Calls Tryz.prog 118 #[.pointer (some ⟨db, 0, none⟩), .int .i64 i, .string (toldS d ++ nm)] w fun e w' => e = .returned (.bool true) ∧ ∃ E', EntAdd E E' i ⟨key, nm, d⟩ ∧ H0 w0 w' (dfR db nb eb D E' next l) := by
  have hcn := fun wx => cutNumber_calls d hd nm (by omega) wx
  have HK : Hid (∀ wx l, H0 w0 wx l → Calls Tryz.prog 17 #[.string nm] wx fun e w' => e = .returned .nilIface ∧ H0 w0 w' l) := fun wx l hx => by
    have := check_spec nm wx (H0.ready hR hx) (by omega)
    rw [hc] at this
    exact this.mono fun e w' ⟨he, hb⟩ => ⟨he, H0.step hx hb⟩
  obtain ⟨s, hs⟩ : ∃ s, toldS d ++ nm = s := ⟨_, rfl⟩
  rw [hs] at hcn ⊢
  have HC := hide hcn
  have H1 := hide h
  have HF := hide hf
  have HE := hide hE
  have HI := hide hI
  have Hi := hide hi
  clear hcn h hf hE hI hi hs hc hsz hd
  go_enter Tryz.func118, Tryz.ntmps118
  go_wp2_with fail
  refine (unhide HC _).mono ?_
  rintro e w2 ⟨rfl, hb⟩
  have h3 : H0 w0 w2 (dfR db nb eb D E next l) := H0.step (unhide H1) hb
  obtain ⟨c0, c1, c2, c3⟩ := df_cells h3
  obtain ⟨v, v', w5, w6, ⟨pv, nv, cv, hsl⟩, hat, hap, c5, hup, E', hadd, h6⟩ := df_ent (Hold.drew h3) (unhide HF) (unhide HE) (unhide HI) i (unhide Hi) ⟨key, nm, d⟩
  have hl1 := P.look117 (Hold.sat (Hold.drew h3) (.obj eb (P.IsMapP (E.map DE.pv))) (by simp [dfR])) (unhide Hi)
  have h3a : H0 w0 (w2.alloc (.cells #[.string nm, .int .i64 d] 38)).drew (dfR db nb eb D E next l) := Hold.drew (H0.step h3 ((Below.refl _ w2).alloc (Nat.le_refl _) _))
  have hl2 := P.look117 (Hold.sat h3a (.obj eb (P.IsMapP (E.map DE.pv))) (by simp [dfR])) (unhide Hi)
  rw [hat] at hl1 hl2
  subst hsl
  have hap' : Sem.run Tryz.prog (Builtin.append_ #[30, 30] 30 #[.slice pv nv cv, .slice (some ⟨w2.heap.size, 0, none⟩) 1 1]) (w2.alloc (.cells #[.string nm, .int .i64 d] 38)).drew = .ok v' w5 := hap
  have c1a : ∀ o, (w2.alloc o).cell? ⟨db, 1, none⟩ = some (.map (some eb)) := fun o => Lib.cell?_alloc_some o c1
  have H6 := hide h6
  have Hadd := hide hadd
  clear h6 hadd h3 h3a hap hb HC H1 c0 c2 c3 hat HF HE HI Hi
  have c6 : w6.cell? ⟨db, 1, none⟩ = some (.map (some eb)) := (df_cells (unhide H6)).2.1
  have e1 : w2.drew.cell? ⟨db, 1, none⟩ = some (.map (some eb)) := c1
  go_wp2_with fail
  go_region_held_law (fun w' => w'.cell? ⟨db, 1, none⟩ = some (.map (some eb))) (first | assumption | exact c1 | go_keep) (refine step_append_runI rfl _ _ 30 30 rfl (.slice pv nv cv) (.slice (some ⟨w2.heap.size, 0, none⟩) 1 1) (by simp [Act.eval, Act.put]) (by simp [Act.eval, Act.put]) hap' ?_)
  all_goals
    go_wp2_with fail
    refine (unhide HK _ _ (unhide H6)).mono ?_
    rintro e w7 ⟨rfl, h7⟩
    have H7 := hide h7
    clear h7
    go_wp2_with fail
    go_ret
    exact ⟨rfl, E', unhide Hadd, unhide H7⟩
end Go.Proofs.YtjpmomklkkifjaaGreatDoor.T
