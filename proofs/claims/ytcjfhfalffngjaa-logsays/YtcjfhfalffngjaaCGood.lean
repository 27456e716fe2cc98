/-
  A region that draws its order and whose callees only lay new blocks: one walk of the text's own order serves (the class of worlds: later ones, in which all that was there is as it was). The contract of goodRows by it.
-/
import Derived.Test.YtcjfhfalffngjaaCRef
import Derived.BigQuiet
namespace Go.Proofs.Ytcjfhfalffngjaa
open Go.RowKit Go.Lib
set_option maxRecDepth 100000
set_option linter.unusedVariables false
set_option linter.unusedSimpArgs false

structure Later (w : World) where
  wld : World
  bel : Below w.heap.size w wld
instance (w : World) : Nonempty (Later w) := ⟨⟨w, Below.refl _ _⟩⟩
theorem wp_region_later {P : Program} {id : Nat} {Q : Exit → Act → World → Prop} {a : Act} {w : World} {l : List Oper} (hm : P.follows .mixedOrders = true) (hB : Region.lexB .any l.toArray = true)
    (h : wpQuiet P l.toArray (fun w' => ∃ u : Later w, w' = u.wld) (fun a' => ∀ w', (∃ u : Later w, w' = u.wld) → Q .normal a' w') l a) : (Code.region id l.toArray true).wp P Q a w :=
  wp_region_quiet (C := fun w' => ∃ u : Later w, w' = u.wld) hm hB ⟨⟨_, (Below.refl _ _).drew⟩, rfl⟩ (by simpa using h)
theorem Calls.later {P : Program} {f : FuncId} {args : Array Value} {w : World} {u : Later w} {v : Value}
    (h : Calls P f args u.wld fun e w' => e = .returned v ∧ Below u.wld.heap.size u.wld w') : Calls P f args u.wld fun e w'' => e = .returned v ∧ ∃ u' : Later w, w'' = u'.wld :=
  h.mono fun _ w' ⟨he, hb⟩ => ⟨he, ⟨w', u.bel.trans (hb.mono u.bel.size)⟩, rfl⟩
/-- A yes only of rows that rise. -/
def GoodEnd (n : Nat) (f : Nat → ChD) (w : World) (e : Ending) (w' : World) : Prop := ∃ r : Bool, e = .returned (.bool r) ∧ (r = true → Sorted (listOf n f)) ∧ Below w.heap.size w w'
theorem sorted_step {f : Nat → ChD} {i : Nat} (h : Sorted (listOf i f)) (hp : 0 < i → kLt (f (i - 1)).key (f i).key) : Sorted (listOf (i + 1) f) := by
  unfold Sorted listOf at *
  rw [List.range_succ, List.map_append]
  refine List.pairwise_append.2 ⟨h, by simp, fun a ha b hb => ?_⟩
  simp at hb
  subst hb
  obtain ⟨j, hj, rfl⟩ := List.mem_map.1 ha
  have hji : j < i := by simpa using hj
  rcases Nat.lt_or_ge j (i - 1) with h1 | h1
  · refine kLt_trans ?_ (hp (by omega))
    have := List.pairwise_iff_getElem.1 h j (i - 1) (by simp; omega) (by simp; omega) h1
    simpa using this
  · have : j = i - 1 := by omega
    subst this
    exact hp (by omega)

set_option maxHeartbeats 2000000 in
theorem good_calls (v : Value) (n : Nat) (f : Nat → ChD) (w : World) (h : ChOk w v n f) : Calls Try.prog 34 #[v] w fun e w' => GoodEnd n f w e w' := by
  rcases h with ⟨⟨p, c, rfl⟩, rfl⟩ | ⟨b, off, c, rfl, hn63, hbb, hcells⟩
  · go_enter Try.func34, Try.ntmps34
    go_wp2_with fail
    go_loopg [3] 1 (fun g vi wr => vi = .int .i64 0 ∧ wr = w)
    case atStart => exact ⟨rfl, rfl⟩
    case round =>
      obtain ⟨rfl, rfl⟩ := hrel
      go_wp2_with fail
      go_ret
      exact ⟨true, rfl, fun _ => List.Pairwise.nil, Below.refl _ _⟩
  · have HC := hide hcells
    clear hcells
    go_enter Try.func34, Try.ntmps34
    go_wp2_with fail
    go_loopg [3] (n + 1) (fun g vi wr => ∃ (i : Nat), n - i < g ∧ i ≤ n ∧ vi = .int .i64 i ∧ Hid (Below w.heap.size w wr) ∧ Hid (Sorted (listOf i f)))
    case atStart => exact ⟨0, by omega, by omega, rfl, Below.refl _ _, List.Pairwise.nil⟩
    case round =>
      obtain ⟨i, hg, hi, rfl, HB, HS⟩ := hrel
      by_cases hin : i < n
      · have hiz : (i : Int) < (n : Int) := by omega
        have hq : ∀ (u : Later wr) j, j < n → u.wld.cell? ⟨b, off + j * 3, none⟩ = some (.string (f j).key) ∧ u.wld.cell? ⟨b, off + j * 3 + 1, none⟩ = some (.string (f j).val) ∧ u.wld.cell? ⟨b, off + j * 3 + 2, none⟩ = some (.bool (f j).gone) := fun u j hj =>
          have hx := (unhide HB).trans (u.bel.mono (unhide HB).size)
          ⟨(cell_below hx (p := ⟨b, off + j * 3, none⟩) hbb).trans (unhide HC j hj).1, (cell_below hx (p := ⟨b, off + j * 3 + 1, none⟩) hbb).trans (unhide HC j hj).2.1, (cell_below hx (p := ⟨b, off + j * 3 + 2, none⟩) hbb).trans (unhide HC j hj).2.2⟩
        have HQ := hide hq
        have ef := fun u : Later wr => fault_calls (f i) u.wld
        have q0 := fun u => (hq u i hin).1
        have q1 := fun u => (hq u i hin).2.1
        have q2 := fun u => (hq u i hin).2.2
        obtain ⟨x, hx⟩ : ∃ x, f i = x := ⟨_, rfl⟩
        rw [hx] at q0 q1 q2 ef
        have Hx := hide hx
        cases hp : checkP x with
        | some kk =>
          have hkp := checkP_pos x kk hp
          rw [hp] at ef
          obtain ⟨xk, xv, xg⟩ := x
          unfold chV at ef
          simp only [noE, Option.getD_some] at ef q0 q1 q2
          have EF := hide ef
          clear hq ef hx hp
          go_wp2_with fail
          refine wp_region_later (by kernel_rfl) (by kernel_rfl) ?_
          repeat (go_big_quiet_step (refine Calls.later (unhide EF _)))
          refine wpQuiet_nil ?_
          intro _ hw'
          obtain ⟨uq, hw''⟩ := hw'
          subst hw''
          go_wp2_with fail
          go_ret
          exact ⟨false, rfl, fun h => (by cases h), (unhide HB).trans (uq.bel.mono (unhide HB).size)⟩
        | none =>
          rw [hp] at ef
          obtain ⟨xk, xv, xg⟩ := x
          unfold chV at ef
          simp only [noE, Option.getD_none] at ef q0 q1 q2
          have EF := hide ef
          clear ef hp
          cases xg with
          | true =>
            clear hq hx
            go_wp2_with fail
            refine wp_region_later (by kernel_rfl) (by kernel_rfl) ?_
            repeat (go_big_quiet_step (refine Calls.later (unhide EF _)))
            refine wpQuiet_nil ?_
            intro _ hw'
            obtain ⟨uq, hw''⟩ := hw'
            subst hw''
            go_wp2_with fail
            go_ret
            exact ⟨false, rfl, fun h => (by cases h), (unhide HB).trans (uq.bel.mono (unhide HB).size)⟩
          | false =>
            rcases Nat.eq_zero_or_pos i with h0 | h0
            · have hz0 : ¬ (0 : Int) < (i : Int) := by omega
              have hz1 : ¬ 0 < i := by omega
              have H0 := hide h0
              clear hq hx h0
              go_wp2_with fail
              refine wp_region_later (by kernel_rfl) (by kernel_rfl) ?_
              repeat (go_big_quiet_step (refine Calls.later (unhide EF _)))
              refine wpQuiet_nil ?_
              intro _ hw'
              obtain ⟨uq, hw''⟩ := hw'
              subst hw''
              go_wp2_with fail
              go_roundg (n - i)
              case measure => omega
              case rel => exact ⟨i + 1, by omega, by omega, by simp, (unhide HB).trans (uq.bel.mono (unhide HB).size), sorted_step (unhide HS) (fun h => by have := unhide H0; omega)⟩
            · obtain ⟨k, hk⟩ : ∃ k, i = k + 1 := ⟨i - 1, by omega⟩
              have hm : (i : Int) - 1 = (k : Int) := by omega
              have hz0 : (0 : Int) < (i : Int) := by omega
              have p0 := fun u => (hq u k (by omega)).1
              have hki : f (i - 1) = f k := by rw [hk]; rfl
              obtain ⟨y, hy⟩ : ∃ y, f k = y := ⟨_, rfl⟩
              rw [hy] at p0 hki
              obtain ⟨yk, yv, yg⟩ := y
              simp only at p0
              have Hki := hide hki
              have Hk := hide hk
              by_cases hlt : kLt yk xk
              · have l1 : Op.bytesLess xk.toList yk.toList = false := by
                  rw [less_kLt]
                  exact decide_eq_false fun h2 => by unfold kLt at h2 hlt; rw [cmpB_neg] at h2; omega
                have hne : ¬ xk.toList = yk.toList := fun h2 => by
                  have h3 := (toList_same _ _).1 h2
                  subst h3
                  unfold kLt at hlt
                  rw [(cmpB_zero _ _).2 rfl] at hlt
                  omega
                have l2 : (xk.toList == yk.toList) = false := beq_eq_false_iff_ne.2 hne
                have l3 : (yk.toList == xk.toList) = false := beq_eq_false_iff_ne.2 (Ne.symm hne)
                have Hlt := hide hlt
                clear hq hx hki hk hne hlt hy
                go_wp2_with fail
                refine wp_region_later (by kernel_rfl) (by kernel_rfl) ?_
                repeat (go_big_quiet_step (refine Calls.later (unhide EF _)))
                refine wpQuiet_nil ?_
                intro _ hw'
                obtain ⟨uq, hw''⟩ := hw'
                subst hw''
                go_wp2_with fail
                go_roundg (n - i)
                case measure => omega
                case rel => exact ⟨i + 1, by omega, by omega, by simp, (unhide HB).trans (uq.bel.mono (unhide HB).size), sorted_step (unhide HS) (fun h => by rw [unhide Hki, unhide Hx]; exact unhide Hlt)⟩
              · have hor : Op.bytesLess xk.toList yk.toList = true ∨ xk = yk := by
                  rw [less_kLt]
                  by_cases h3 : xk = yk
                  · exact .inr h3
                  · refine .inl (decide_eq_true ?_)
                    have h4 : cmpB xk yk ≠ 0 := fun h => h3 ((cmpB_zero _ _).1 h)
                    unfold kLt at hlt ⊢
                    rw [cmpB_neg] at hlt
                    omega
                clear hq hx hki hk hlt hy
                rcases hor with l1 | l1
                · go_wp2_with fail
                  refine wp_region_later (by kernel_rfl) (by kernel_rfl) ?_
                  repeat (go_big_quiet_step (refine Calls.later (unhide EF _)))
                  refine wpQuiet_nil ?_
                  intro _ hw'
                  obtain ⟨uq, hw''⟩ := hw'
                  subst hw''
                  go_wp2_with fail
                  go_ret
                  exact ⟨false, rfl, fun h => (by cases h), (unhide HB).trans (uq.bel.mono (unhide HB).size)⟩
                · subst l1
                  go_wp2_with fail
                  refine wp_region_later (by kernel_rfl) (by kernel_rfl) ?_
                  repeat (go_big_quiet_step (refine Calls.later (unhide EF _)))
                  refine wpQuiet_nil ?_
                  intro _ hw'
                  obtain ⟨uq, hw''⟩ := hw'
                  subst hw''
                  go_wp2_with fail
                  go_ret
                  exact ⟨false, rfl, fun h => (by cases h), (unhide HB).trans (uq.bel.mono (unhide HB).size)⟩
      · have hiz : ¬ (i : Int) < (n : Int) := by omega
        obtain rfl : i = n := by omega
        go_wp2_with fail
        go_ret
        exact ⟨true, rfl, fun _ => unhide HS, unhide HB⟩
#print axioms good_calls
end Go.Proofs.Ytcjfhfalffngjaa
