/-
  The contract of the log's parse: a sector's kind and body.
-/
import Derived.Test.YtcjfhfalffngjaaLNum
import Derived.Test.YtcjfhfalffngjaaCRef
import Derived.BigQuiet
namespace Go.Proofs.Ytcjfhfalffngjaa
open Go.RowKit Go.Lib
set_option maxRecDepth 100000
set_option linter.unusedVariables false
set_option linter.unusedSimpArgs false

def kindO : ByteArray := ⟨#[111]⟩
def kindC : ByteArray := ⟨#[99]⟩
def nilB : ByteArray := ⟨#[]⟩
def lenS (s : ByteArray) : Nat := numB (s.extract 5 7).data.toList
def numS (s : ByteArray) : Nat := numB (s.extract 1 5).data.toList
def GoodS (s : ByteArray) (num : Nat) : Prop := (s.extract 0 1 = kindO ∨ s.extract 0 1 = kindC) ∧ numS s = num ∧ 7 + lenS s ≤ 140
instance (s : ByteArray) (num : Nat) : Decidable (GoodS s num) := by unfold GoodS; infer_instance
/-- A sector's kind and body. -/
def parseS (s : ByteArray) (num : Nat) : ByteArray × ByteArray := if GoodS s num then (s.extract 0 1, s.extract 7 (7 + lenS s)) else (nilB, nilB)

set_option maxHeartbeats 800000 in
theorem parse79_calls (s : ByteArray) (hs : s.size = 140) (num : Nat) (w : World) :
    Calls Try.prog 79 #[.string s, .int .u32 num] w fun e w' => e = .returned (.tuple #[.string (parseS s num).1, .string (parseS s num).2]) ∧ ∃ n, w' = w.drewN n := by
  have z1 : (s.extract 5 7).size = 2 := by rw [ByteArray.size_extract, hs]; rfl
  have z2 : (s.extract 1 5).size = 4 := by rw [ByteArray.size_extract, hs]; rfl
  have e1 := fun wx => number97_calls (s.extract 5 7) (by omega) wx
  have e2 := fun wx => number97_calls (s.extract 1 5) (by omega) wx
  have hlen : lenS s < 65536 := by
    have h := numB_lt (s.extract 5 7).data.toList
    have h2 : (s.extract 5 7).data.toList.length = 2 := by rw [Array.length_toList]; exact z1
    rw [h2] at h
    exact h
  have hgd : ∀ (P : Prop) [Decidable P], P → True := fun _ _ _ => trivial
  have f1 : numB (s.extract 5 7).data.toList = lenS s := rfl
  have f2 : numB (s.extract 1 5).data.toList = numS s := rfl
  simp only [f1] at e1
  simp only [f2] at e2
  obtain ⟨ln, hln⟩ : ∃ n, lenS s = n := ⟨_, rfl⟩
  obtain ⟨nu, hnu⟩ : ∃ n, numS s = n := ⟨_, rfl⟩
  obtain ⟨kd, hkd⟩ : ∃ k, s.extract 0 1 = k := ⟨_, rfl⟩
  have hP : parseS s num = if (kd = kindO ∨ kd = kindC) ∧ nu = num ∧ 7 + ln ≤ 140 then (kd, s.extract 7 (7 + ln)) else (nilB, nilB) := by
    unfold parseS GoodS
    simp only [hkd, hnu, hln]
  rw [hP]
  rw [hln] at hlen
  simp only [hln] at e1
  simp only [hnu] at e2
  have E1 := hide e1
  have E2 := hide e2
  clear e1 e2 hP hnu hln hgd f1 f2
  go_enter Try.func79, Try.ntmps79
  go_wp2_with fail
  refine (unhide E1 _).mono ?_
  rintro e w1 ⟨rfl, n1, rfl⟩
  by_cases hko : kd = kindO
  · unfold kindO at hko
    subst hko
    go_wp2_with fail
    refine (unhide E2 _).mono ?_
    rintro e w2 ⟨rfl, n2, rfl⟩
    rw [World.drewN_drewN]
    by_cases hn : nu = num
    · subst hn
      by_cases hl : 7 + ln ≤ 140
      · have hl2 : ¬ (140 : Int) < 7 + (ln : Int) := by omega
        have hl3 : ln ≤ 133 := by omega
        go_wp2_with fail
        go_quiet (fail)
        go_wp2_with fail
        go_ret2
        refine ⟨?_, _, rfl⟩
        first | rfl | (rw [if_pos ⟨Or.inl rfl, rfl, hl⟩]; rfl) | rw [if_pos ⟨Or.inl rfl, rfl, hl⟩]
      · have hl2 : (140 : Int) < 7 + (ln : Int) := by omega
        go_wp2_with fail
        go_ret2
        refine ⟨?_, _, rfl⟩
        first | rfl | (rw [if_neg (fun h => hl h.2.2)]; rfl) | rw [if_neg (fun h => hl h.2.2)]
    · have hn2 : ¬ (nu : Int) = (num : Int) := by omega
      have hn3 : ¬ (num : Int) = (nu : Int) := by omega
      go_wp2_with fail
      go_ret2
      refine ⟨?_, _, rfl⟩
      first | rfl | (rw [if_neg (fun h => hn h.2.1)]; rfl) | rw [if_neg (fun h => hn h.2.1)]
  · by_cases hkc : kd = kindC
    · unfold kindC at hkc
      subst hkc
      go_wp2_with fail
      refine (unhide E2 _).mono ?_
      rintro e w2 ⟨rfl, n2, rfl⟩
      rw [World.drewN_drewN]
      by_cases hn : nu = num
      · subst hn
        by_cases hl : 7 + ln ≤ 140
        · have hl2 : ¬ (140 : Int) < 7 + (ln : Int) := by omega
          have hl3 : ln ≤ 133 := by omega
          go_wp2_with fail
          go_quiet (fail)
          go_wp2_with fail
          go_ret2
          refine ⟨?_, _, rfl⟩
          first | rfl | (rw [if_pos ⟨Or.inr rfl, rfl, hl⟩]; rfl) | rw [if_pos ⟨Or.inr rfl, rfl, hl⟩]
        · have hl2 : (140 : Int) < 7 + (ln : Int) := by omega
          go_wp2_with fail
          go_ret2
          refine ⟨?_, _, rfl⟩
          first | rfl | (rw [if_neg (fun h => hl h.2.2)]; rfl) | rw [if_neg (fun h => hl h.2.2)]
      · have hn2 : ¬ (nu : Int) = (num : Int) := by omega
        have hn3 : ¬ (num : Int) = (nu : Int) := by omega
        go_wp2_with fail
        go_ret2
        refine ⟨?_, _, rfl⟩
        first | rfl | (rw [if_neg (fun h => hn h.2.1)]; rfl) | rw [if_neg (fun h => hn h.2.1)]
    · skip
      have hko' := hko
      have hkc' := hkc
      unfold kindO at hko'
      unfold kindC at hkc'
      have t1 : (⟨#[111]⟩ : ByteArray).toList = [111] := by rw [Lib.toList_data]
      have t2 : (⟨#[99]⟩ : ByteArray).toList = [99] := by rw [Lib.toList_data]
      have k1 : ¬ kd.toList = [111] := fun h => hko' ((toList_same _ _).1 (h.trans t1.symm))
      have k2 : ¬ kd.toList = [99] := fun h => hkc' ((toList_same _ _).1 (h.trans t2.symm))
      have k3 : (kd.toList == [111]) = false := beq_eq_false_iff_ne.2 k1
      have k4 : (kd.toList == [99]) = false := beq_eq_false_iff_ne.2 k2
      clear k1 k2
      go_wp2_with fail
      all_goals
        go_ret2
        refine ⟨?_, _, rfl⟩
        first | rfl | (rw [if_neg (fun h => by rcases h.1 with h | h; exact hko h; exact hkc h)]; rfl)
#print axioms parse79_calls
end Go.Proofs.Ytcjfhfalffngjaa
