/-
  The contract of little.Number.
-/
import Derived.Test.YtcjfhfalffngjaaLSmall
namespace Go.Proofs.Ytcjfhfalffngjaa
open Go.RowKit Go.Lib
set_option maxRecDepth 100000
set_option linter.unusedVariables false
set_option linter.unusedSimpArgs false

/-- The number that bytes tell, the lowest first. -/
def numB : List UInt8 → Nat
  | [] => 0
  | b :: r => b.toNat + 256 * numB r
theorem numB_lt : ∀ l : List UInt8, numB l < 256 ^ l.length
  | [] => by simp [numB]
  | b :: r => by
    have h := numB_lt r
    have hb := b.toNat_lt
    simp only [numB, List.length_cons, Nat.pow_succ]
    omega

theorem or_low (q b : Nat) (hq : q < 16777216) (hb : b < 256) : bits .or .u32 ((q : Int) * 256 % 4294967296) ((b : Int) % 4294967296) = ((b + 256 * q : Nat) : Int) := by
  have h1 : (q : Int) * 256 % 4294967296 = ((q * 256 : Nat) : Int) := by omega
  have h2 : (b : Int) % 4294967296 = (b : Int) := by omega
  rw [h1, h2]
  unfold bits
  simp only [BitVec.toNat_or, BitVec.ofInt_natCast, BitVec.toNat_ofNat]
  have h3 : IntKind.u32.bits = 32 := rfl
  rw [h3, Nat.mod_eq_of_lt (by omega), Nat.mod_eq_of_lt (by omega)]
  have h4 := Nat.shiftLeft_add_eq_or_of_lt (i := 8) (b := b) (by omega) q
  rw [Nat.shiftLeft_eq] at h4
  have h5 : q * 256 ||| b = q * 256 + b := h4.symm
  rw [h5, IntKind.wrap_u32]
  omega
theorem drop_at (s : ByteArray) (j : Nat) (h : j < s.size) : s.data.toList.drop j = s[j] :: s.data.toList.drop (j + 1) := by
  rw [List.drop_eq_getElem_cons (by rw [Array.length_toList]; exact h)]
  rfl

set_option maxHeartbeats 800000 in
theorem number97_calls (s : ByteArray) (hs : s.size ≤ 4) (w : World) : Calls Try.prog 97 #[.string s] w fun e w' => e = .returned (.int .u32 (numB s.data.toList : Int)) ∧ ∃ n, w' = w.drewN n := by
  go_enter Try.func97, Try.ntmps97
  go_wp2_with fail
  go_loopg [3, 4] (s.size + 1) (fun g vn vi wr => ∃ (k : Nat), k < g ∧ k ≤ s.size ∧ vi = .int .i64 ((k : Int) - 1) ∧ vn = .int .u32 (numB (s.data.toList.drop k) : Int) ∧ ∃ n, wr = w.drewN n)
  case atStart => exact ⟨s.size, by omega, by omega, rfl, by rw [List.drop_of_length_le (by rw [Array.length_toList]; exact Nat.le_refl _)]; rfl, 0, rfl⟩
  case round =>
    obtain ⟨k, hg, hk, rfl, rfl, nw, rfl⟩ := hrel
    rcases Nat.eq_zero_or_pos k with h0 | h0
    · subst h0
      go_wp2_with fail
      go_ret
      exact ⟨rfl, nw, rfl⟩
    · obtain ⟨j, rfl⟩ : ∃ j, k = j + 1 := ⟨k - 1, by omega⟩
      have hj : ((j + 1 : Nat) : Int) - 1 = (j : Int) := by omega
      rw [hj]
      have hjs : j < s.size := by omega
      have hl := numB_lt (s.data.toList.drop (j + 1))
      obtain ⟨q, hq⟩ : ∃ q, numB (s.data.toList.drop (j + 1)) = q := ⟨_, rfl⟩
      have hlen : (s.data.toList.drop (j + 1)).length = s.size - (j + 1) := by rw [List.length_drop, Array.length_toList]; rfl
      rw [hq] at hl ⊢
      have hq3 : q < 16777216 := by
        rw [hlen] at hl
        exact Nat.lt_of_lt_of_le hl (Nat.le_trans (Nat.pow_le_pow_right (by omega) (by omega : s.size - (j + 1) ≤ 3)) (by decide))
      have hnx : numB (s.data.toList.drop j) = s[j].toNat + 256 * q := by rw [drop_at s j hjs, numB, hq]
      have Hnx := hide hnx
      have Hq3 := hide hq3
      have Hg := hide hg
      clear hl hlen hq hnx hg h0
      go_wp2_with fail
      go_roundg (j + 1)
      case measure => exact unhide Hg
      case rel =>
        refine ⟨j, by omega, by omega, by first | rfl | simp, ?_, nw, rfl⟩
        have hol := or_low q _ (unhide Hq3) (s[j].toNat_lt)
        have hm : (q : Int) * 256 % 4294967296 = (q : Int) * 256 := by have := unhide Hq3; omega
        rw [hm] at hol
        rw [unhide Hnx, hol]
#print axioms number97_calls
end Go.Proofs.Ytcjfhfalffngjaa
