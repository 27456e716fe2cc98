/-
  The contracts of row.Check and of the document's ChangeFault, over the seat's program.
-/
import Derived.Test.YtcjfhfalffngjaaCGen
import Derived.Test.YtcjfhfalffngjaaCLight
namespace Go.Proofs.Ytcjfhfalffngjaa
open Go.RowKit
set_option maxRecDepth 100000
set_option linter.unusedVariables false
set_option linter.unusedSimpArgs false

def chL (c : ChD) : List Value := [.string c.key, .string c.val, .bool c.gone]
def chV (c : ChD) : Value := .agg #[.string c.key, .string c.val, .bool c.gone]
/-- I1. -/
def checkP (c : ChD) : Option Int :=
  if c.key.toList.isEmpty || (c.gone && !c.val.toList.isEmpty) then some 3 else if decide (48 < c.key.size) || decide (44 < c.val.size) then some 2 else none
theorem checkP_pos (c : ChD) : ∀ k, checkP c = some k → 0 < k := by
  intro k h
  unfold checkP at h
  split at h
  · cases h; decide
  split at h
  · cases h; decide
  · cases h
theorem checkP_none {c : ChD} (h : checkP c = none) : c.key.toList.isEmpty = false ∧ (c.gone = true → c.val.toList.isEmpty = true) ∧ c.key.size ≤ 48 ∧ c.val.size ≤ 44 := by
  unfold checkP at h
  split at h
  · cases h
  rename_i h1
  split at h
  · cases h
  rename_i h2
  simp only [Bool.or_eq_true, Bool.and_eq_true, Bool.not_eq_true', decide_eq_true_eq, not_or, not_and] at h1 h2
  exact ⟨by simpa using h1.1, fun hg => by have := h1.2 hg; simpa using this, by omega, by omega⟩
theorem beq_nil (l : List UInt8) : (l == []) = l.isEmpty := by cases l <;> rfl

theorem check_calls (c : ChD) (w : World) : Calls Try.prog 32 #[chV c] w fun e w' => e = .returned (errV (checkP c)) ∧ Below w.heap.size w w' := by
  obtain ⟨key, val, gone⟩ := c
  have hbel : ∀ o, Below w.heap.size w (w.alloc o) := fun o => (Below.refl _ _).alloc (Nat.le_refl _) o
  have Hbel := hide hbel
  clear hbel
  unfold checkP chV
  simp only
  cases hk : key.toList.isEmpty with
  | true =>
    have hk2 : (key.toList == []) = true := by rw [beq_nil, hk]
    simp only [Bool.true_or, if_true]
    go_enter Try.func32, Try.ntmps32
    go_wp2_with fail
    go_ret
    exact ⟨rfl, unhide Hbel _⟩
  | false =>
  have hk2 : (key.toList == []) = false := by rw [beq_nil, hk]
  obtain ⟨bv, hv⟩ : ∃ bv, val.toList.isEmpty = bv := ⟨_, rfl⟩
  have hv2 : (val.toList == []) = bv := by rw [beq_nil, hv]
  rw [hv]
  by_cases hg : (gone && !bv) = true
  · rw [hg]
    simp only [Bool.false_or, if_true]
    have hg2 : gone = true ∧ bv = false := by cases gone <;> cases bv <;> simp_all
    obtain ⟨rfl, rfl⟩ := hg2
    clear hg
    go_enter Try.func32, Try.ntmps32
    go_wp2_with fail
    go_ret
    exact ⟨rfl, unhide Hbel _⟩
  · have hg' : (gone && !bv) = false := by simpa using hg
    rw [hg']
    simp only [Bool.or_self, Bool.false_eq_true, if_false]
    have hg3 : gone = false ∨ bv = true := by cases gone <;> cases bv <;> simp_all
    clear hg hg'
    by_cases h1 : 48 < key.size
    · have z1 : (48 : Int) < (key.size : Int) := by omega
      rw [decide_eq_true h1]
      simp only [Bool.true_or, if_true]
      rcases hg3 with rfl | rfl
      · go_enter Try.func32, Try.ntmps32
        go_wp2_with fail
        go_ret
        exact ⟨rfl, unhide Hbel _⟩
      · cases gone <;> (go_enter Try.func32, Try.ntmps32; go_wp2_with fail; go_ret; exact ⟨rfl, unhide Hbel _⟩)
    · have z1 : ¬ (48 : Int) < (key.size : Int) := by omega
      rw [decide_eq_false h1]
      simp only [Bool.false_or]
      by_cases h2 : 44 < val.size
      · have z2 : (44 : Int) < (val.size : Int) := by omega
        rw [decide_eq_true h2]
        simp only [if_true]
        rcases hg3 with rfl | rfl
        · go_enter Try.func32, Try.ntmps32
          go_wp2_with fail
          go_ret
          exact ⟨rfl, unhide Hbel _⟩
        · cases gone <;> (go_enter Try.func32, Try.ntmps32; go_wp2_with fail; go_ret; exact ⟨rfl, unhide Hbel _⟩)
      · have z2 : ¬ (44 : Int) < (val.size : Int) := by omega
        rw [decide_eq_false h2]
        simp only [Bool.false_eq_true, if_false]
        rcases hg3 with rfl | rfl
        · go_enter Try.func32, Try.ntmps32
          go_wp2_with fail
          go_ret
          exact ⟨rfl, unhide Hbel _⟩
        · cases gone <;> (go_enter Try.func32, Try.ntmps32; go_wp2_with fail; go_ret; exact ⟨rfl, unhide Hbel _⟩)
theorem fault_calls (c : ChD) (w : World) : Calls Try.prog 33 #[chV c] w fun e w' => e = .returned (.int .i64 (noE (checkP c))) ∧ Below w.heap.size w w' := by
  obtain ⟨key, val, gone⟩ := c
  have hbel : ∀ o, Below w.heap.size w (w.alloc o) := fun o => (Below.refl _ _).alloc (Nat.le_refl _) o
  have Hbel := hide hbel
  clear hbel
  unfold checkP chV
  simp only
  cases hk : key.toList.isEmpty with
  | true =>
    have hk2 : (key.toList == []) = true := by rw [beq_nil, hk]
    simp only [Bool.true_or, if_true]
    go_enter Try.func33, Try.ntmps33
    go_wp2_with fail
    go_ret
    exact ⟨rfl, unhide Hbel _⟩
  | false =>
  have hk2 : (key.toList == []) = false := by rw [beq_nil, hk]
  obtain ⟨bv, hv⟩ : ∃ bv, val.toList.isEmpty = bv := ⟨_, rfl⟩
  have hv2 : (val.toList == []) = bv := by rw [beq_nil, hv]
  rw [hv]
  by_cases hg : (gone && !bv) = true
  · rw [hg]
    simp only [Bool.false_or, if_true]
    have hg2 : gone = true ∧ bv = false := by cases gone <;> cases bv <;> simp_all
    obtain ⟨rfl, rfl⟩ := hg2
    clear hg
    go_enter Try.func33, Try.ntmps33
    go_wp2_with fail
    go_ret
    exact ⟨rfl, unhide Hbel _⟩
  · have hg' : (gone && !bv) = false := by simpa using hg
    rw [hg']
    simp only [Bool.or_self, Bool.false_eq_true, if_false]
    have hg3 : gone = false ∨ bv = true := by cases gone <;> cases bv <;> simp_all
    clear hg hg'
    by_cases h1 : 48 < key.size
    · have z1 : (48 : Int) < (key.size : Int) := by omega
      rw [decide_eq_true h1]
      simp only [Bool.true_or, if_true]
      rcases hg3 with rfl | rfl
      · go_enter Try.func33, Try.ntmps33
        go_wp2_with fail
        go_ret
        exact ⟨rfl, unhide Hbel _⟩
      · cases gone <;> (go_enter Try.func33, Try.ntmps33; go_wp2_with fail; go_ret; exact ⟨rfl, unhide Hbel _⟩)
    · have z1 : ¬ (48 : Int) < (key.size : Int) := by omega
      rw [decide_eq_false h1]
      simp only [Bool.false_or]
      by_cases h2 : 44 < val.size
      · have z2 : (44 : Int) < (val.size : Int) := by omega
        rw [decide_eq_true h2]
        simp only [if_true]
        rcases hg3 with rfl | rfl
        · go_enter Try.func33, Try.ntmps33
          go_wp2_with fail
          go_ret
          exact ⟨rfl, unhide Hbel _⟩
        · cases gone <;> (go_enter Try.func33, Try.ntmps33; go_wp2_with fail; go_ret; exact ⟨rfl, unhide Hbel _⟩)
      · have z2 : ¬ (44 : Int) < (val.size : Int) := by omega
        rw [decide_eq_false h2]
        simp only [Bool.false_eq_true, if_false]
        rcases hg3 with rfl | rfl
        · go_enter Try.func33, Try.ntmps33
          go_wp2_with fail
          go_ret
          exact ⟨rfl, unhide Hbel _⟩
        · cases gone <;> (go_enter Try.func33, Try.ntmps33; go_wp2_with fail; go_ret; exact ⟨rfl, unhide Hbel _⟩)

/-- A number as bytes, the lowest first. -/
def leB : Nat → Nat → List UInt8
  | _, 0 => []
  | q, k + 1 => UInt8.ofNat (q % 256) :: leB (q / 256) k
theorem leB_length : ∀ (k q : Nat), (leB q k).length = k
  | 0, _ => rfl
  | k + 1, q => by simp [leB, leB_length k]
theorem sec_set (S : List UInt8) (z : UInt8) (Z : List UInt8) (x : UInt8) : (secV (S ++ z :: Z)).set S.length (.int .u8 (x.toNat : Int)) = secV (S ++ x :: Z) := by
  simp [secV, List.set_append]

theorem little_calls (n m : Nat) (hn : n < 4294967296) (hm : m ≤ 8) (w : World) : Calls Try.prog 61 #[.int .u32 (n : Int), .int .i64 m] w fun e w' => e = .returned (.string ⟨(leB n m).toArray⟩) ∧ Below w.heap.size w w' := by
  have hmk := makeB_run m (by omega) w
  have hbel : ∀ o, Below w.heap.size w (w.alloc o) := fun o => (Below.refl _ _).alloc (Nat.le_refl _) o
  have Hbel := hide hbel
  have Hcv : Hid (∀ S : List UInt8, S.length = m → (convert 105 9 (.slice (some ⟨w.heap.size, 0, none⟩) m m)).run Try.prog (w.alloc (.cells (secV S).toArray 5)) = .ok (.string ⟨S.toArray⟩) (w.alloc (.cells (secV S).toArray 5))) := fun S hS => conv_bytes _ w.heap.size 0 S m m hS (fun j v hv => by
    rw [Nat.zero_add, cell_of_row _ _ j _ 5 (0, 0) (heap_alloc_new w _)]
    simpa using hv)
  obtain ⟨Z, hZ⟩ : ∃ Z, secV (zerosL m) = Z := ⟨_, rfl⟩
  rw [hZ] at hmk
  have HZ := hide hZ
  clear hZ hbel
  go_enter Try.func61, Try.ntmps61
  go_wp2_with fail
  go_loopg [0, 11] (m + 1) (fun g v0 vi wr => ∃ (q : Nat) (S : List UInt8), m - S.length < g ∧ S.length ≤ m ∧ v0 = .int .u32 (q : Int) ∧ q < 4294967296 ∧ vi = .int .i64 S.length ∧ Hid (S ++ leB q (m - S.length) = leB n m) ∧ wr = w.alloc (.cells (secV (S ++ zerosL (m - S.length))).toArray 5))
  case atStart => exact ⟨n, [], by simp, by simp, rfl, hn, rfl, rfl, by rw [← unhide HZ]; rfl⟩
  case round =>
    obtain ⟨q, S, hg, hS, rfl, hq, rfl, HS, hwr⟩ := hrel
    subst hwr
    by_cases hin : S.length < m
    · have hiz : (S.length : Int) < (m : Int) := by omega
      obtain ⟨k, hk⟩ : ∃ k, m - S.length = k + 1 := ⟨m - S.length - 1, by omega⟩
      rw [hk] at HS ⊢
      have hz : zerosL (k + 1) = 0 :: zerosL k := rfl
      rw [hz]
      have hc : (w.alloc (.cells (secV (S ++ 0 :: zerosL k)).toArray 5)).cell? ⟨w.heap.size, S.length, none⟩ = some (.int .u8 0) := by
        rw [cell_of_row _ _ _ _ 5 (0, 0) (heap_alloc_new w _)]
        simp [secV]
      have hf : (w.alloc (.cells (secV (S ++ 0 :: zerosL k)).toArray 5)).frozen? ⟨w.heap.size, S.length, none⟩ = false := frozen_of_row _ _ _ _ 5 (heap_alloc_new w _)
      have hset : (w.alloc (.cells (secV (S ++ 0 :: zerosL k)).toArray 5)).setCell ⟨w.heap.size, S.length, none⟩ (.int .u8 ((q : Int) % 256)) = w.alloc (.cells (secV ((S ++ [UInt8.ofNat (q % 256)]) ++ zerosL k)).toArray 5) := by
        have e1 : (q : Int) % 256 = ((UInt8.ofNat (q % 256)).toNat : Int) := by
          have e0 : (UInt8.ofNat (q % 256)).toNat = q % 256 := by simp
          rw [e0]
          omega
        rw [e1, World.setCell_alloc_at (hn := rfl)]
        congr 2
        rw [List.setIfInBounds_toArray, sec_set]
        simp
      obtain ⟨wa, hwa⟩ : ∃ wa, w.alloc (.cells (secV (S ++ 0 :: zerosL k)).toArray 5) = wa := ⟨_, rfl⟩
      rw [hwa] at hc hf hset ⊢
      have Hset := hide hset
      clear hset hwa hmk hz
      go_wp2_with fail
      go_roundg (m - S.length)
      case measure => omega
      case rel =>
        have hl : (S ++ [UInt8.ofNat (q % 256)]).length = S.length + 1 := by simp
        refine ⟨q / 256, S ++ [UInt8.ofNat (q % 256)], by omega, by omega, ?_, by omega, by rw [hl]; simp, ?_, ?_⟩
        · first | rfl | simp
        · have h9 := unhide HS
          show _ = _
          rw [hl, show m - (S.length + 1) = k by omega, List.append_assoc]
          exact h9
        · rw [hl, show m - (S.length + 1) = k by omega]
          exact unhide Hset
    · have hiz : ¬ (S.length : Int) < (m : Int) := by omega
      have hl : S.length = m := by omega
      have hSe : S = leB n m := by
        have h9 := unhide HS
        rw [hl, Nat.sub_self] at h9
        simpa [leB] using h9
      have hcv := unhide Hcv S hl
      rw [show m - S.length = 0 by omega, show zerosL 0 = [] from rfl, List.append_nil]
      obtain ⟨SS, hSS⟩ : ∃ SS, (secV S).toArray = SS := ⟨_, rfl⟩
      rw [hSS] at hcv ⊢
      have Hse := hide hSe
      clear hSS hl hmk HS hSe
      go_wp2_with fail
      go_ret
      exact ⟨by have h9 := unhide Hse; subst h9; rfl, unhide Hbel _⟩
#print axioms check_calls
#print axioms fault_calls
#print axioms little_calls
end Go.Proofs.Ytcjfhfalffngjaa
