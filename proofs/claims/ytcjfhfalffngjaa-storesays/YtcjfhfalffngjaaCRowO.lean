/-
  The contract of row.Parse, over the seat's program.
-/
import Derived.Test.YtcjfhfalffngjaaCRowP
namespace Go.Proofs.Ytcjfhfalffngjaa
open Go.RowKit
set_option maxRecDepth 100000
set_option linter.unusedVariables false
set_option linter.unusedSimpArgs false

/-- What bytes of a change would tell. -/
def cutP (s : ByteArray) (b0 : UInt8) (e : Nat) : ChD := ⟨s.extract 2 e, s.extract e s.size, b0 == 1⟩
/-- I2: a change out of its bytes. -/
def parseP (s : ByteArray) : Option ChD := match s.data.toList with
  | b0 :: b1 :: _ => if decide (s.size < 2 + b1.toNat) || decide (1 < b0.toNat) then none else if (checkP (cutP s b0 (2 + b1.toNat))).isSome then none else some (cutP s b0 (2 + b1.toNat))
  | _ => none
def chZ : ChD := ⟨⟨#[]⟩, ⟨#[]⟩, false⟩
def parseE (s : ByteArray) : Option Int := if (parseP s).isSome then none else some 4
theorem results_ch {fn : Func} {p u : Tmp} (h : fn.results = #[.cell p 54, .tmp u]) (tmps : Array Value) (w : World) (g : Nat) (a b c : Value) {v : Value}
    (hp : tmps.getD p undef = .pointer (some ⟨g, 0, none⟩)) (hu2 : tmps.getD u undef = v) (hg : w.heap[g]? = some (.cells #[a, b, c] 54 (0, 0))) :
    (results fn tmps).run Try.prog w = .ok (.tuple #[.agg #[a, b, c], v]) w := by
  have hr := run_loadVar_row (P := Try.prog) w g 54 54 #[a, b, c] (0, 0) _ hg Try.underlying54 rfl (by kernel_rfl)
  rw [Array.getD_eq_getD_getElem?] at hp hu2
  simp only [results, h]
  simp [Sem.run_bind, Result.andThen, hp, hu2, asAddr, hr]

def ParseEnd (s : ByteArray) (w : World) (e : Ending) (w' : World) : Prop := e = .returned (.tuple #[chV ((parseP s).getD chZ), errV (parseE s)]) ∧ Below w.heap.size w w'

theorem two_bytes {s : ByteArray} {b0 b1 : UInt8} {r : List UInt8} (h : s.data.toList = b0 :: b1 :: r) : ∃ (h0 : 0 < s.size) (h1 : 1 < s.size), s[0] = b0 ∧ s[1] = b1 ∧ (s.extract 0 1).toList = [b0] := by
  have hs : s = ⟨(b0 :: b1 :: r).toArray⟩ := by rw [← h, mk_list]
  subst hs
  refine ⟨by show 0 < (b0 :: b1 :: r).toArray.size; simp, by show 1 < (b0 :: b1 :: r).toArray.size; simp, rfl, rfl, ?_⟩
  rw [ByteArray.extract_mk, ByteArray.toList_mk]
  rfl

set_option maxHeartbeats 2000000 in
theorem parse_calls (s : ByteArray) (hs63 : s.size ≤ 4000000000) (w : World) : Calls Try.prog 30 #[.string s] w fun e w' => ParseEnd s w e w' := by
  unfold ParseEnd parseE parseP
  obtain ⟨B, hB⟩ : ∃ B, w.heap.size = B := ⟨_, rfl⟩
  have H1 : Hold w (w.alloc (.cells #[.string ⟨#[]⟩, .string ⟨#[]⟩, .bool false] 54)) [.cell B 54 [.string ⟨#[]⟩, .string ⟨#[]⟩, .bool false]] := by rw [← hB]; exact (Hold.init w).made 54 [.string ⟨#[]⟩, .string ⟨#[]⟩, .bool false]
  have hw1 : (w.alloc (.cells #[.string ⟨#[]⟩, .string ⟨#[]⟩, .bool false] 54)).heap[B]? = some (.cells #[.string ⟨#[]⟩, .string ⟨#[]⟩, .bool false] 54 (0, 0)) := H1.heapAt (.head _)
  have Hw1 := hide hw1
  have Hb1 := hide H1.below
  have HH1 := hide H1
  clear hw1 H1
  cases hl : s.data.toList with
  | nil =>
    have hsz : s.size = 0 := by show s.data.toList.length = 0; rw [hl]; rfl
    have hz : (s.size : Int) < 2 := by omega
    clear hl hsz
    go_enter Try.func30, Try.ntmps30
    go_wp2_with fail
    exact bodyPost_ret (results_ch (p := 2) (u := 3) rfl _ _ B _ _ _ rfl rfl (unhide Hw1)) rfl ⟨rfl, by first | exact unhide Hb1 | (rw [← hB]; exact unhide Hb1) | (rw [hB]; exact unhide Hb1)⟩
  | cons b0 l1 =>
  cases l1 with
  | nil =>
    have hsz : s.size = 1 := by show s.data.toList.length = 1; rw [hl]; rfl
    have hz : (s.size : Int) < 2 := by omega
    clear hl hsz
    go_enter Try.func30, Try.ntmps30
    go_wp2_with fail
    exact bodyPost_ret (results_ch (p := 2) (u := 3) rfl _ _ B _ _ _ rfl rfl (unhide Hw1)) rfl ⟨rfl, by first | exact unhide Hb1 | (rw [← hB]; exact unhide Hb1) | (rw [hB]; exact unhide Hb1)⟩
  | cons b1 r =>
    obtain ⟨h0, h1, e0, e1, ex⟩ := two_bytes hl
    have hz2 : ¬ (s.size : Int) < 2 := by omega
    obtain ⟨k1, hk1⟩ : ∃ k1, b1.toNat = k1 := ⟨_, rfl⟩
    obtain ⟨k0, hk0⟩ : ∃ k0, b0.toNat = k0 := ⟨_, rfl⟩
    have hk256 : k1 < 256 := by rw [← hk1]; exact b1.toNat_lt
    have e1' : (s[1]).toNat = k1 := by rw [e1, hk1]
    have e0' : (s[0]).toNat = k0 := by rw [e0, hk0]
    have hb01 : (b0 == 1) = decide (k0 = 1) := by
      rw [← hk0]
      by_cases hb : b0 = 1
      · subst hb; rfl
      · have h9 : b0.toNat ≠ 1 := fun h => hb (UInt8.toNat_inj.1 h)
        rw [decide_eq_false h9]; simpa using hb
    have hb00 : (b0 == 0) = decide (k0 = 0) := by
      rw [← hk0]
      by_cases hb : b0 = 0
      · subst hb; rfl
      · have h9 : b0.toNat ≠ 0 := fun h => hb (UInt8.toNat_inj.1 h)
        rw [decide_eq_false h9]; simpa using hb
    simp only [hk1, hk0]
    obtain ⟨ek, hek⟩ : ∃ ek, 2 + k1 = ek := ⟨_, rfl⟩
    have hekz : (2 : Int) + (k1 : Int) = (ek : Int) := by omega
    rw [hek]
    clear e0 e1 hl
    by_cases hlong : s.size < ek
    · have hz3 : (s.size : Int) < (ek : Int) := by omega
      rw [decide_eq_true hlong]
      simp only [Bool.true_or, if_true, Option.isSome_none, Bool.false_eq_true, if_false, Option.getD_none]
      have hsp : k0 ≤ 1 ∨ 1 < k0 := by omega
      clear ex hb01 hb00 hek
      rcases hsp with hsp | hsp
      all_goals
        have hspz : True := trivial
        go_enter Try.func30, Try.ntmps30
        go_wp2_with fail
        exact bodyPost_ret (results_ch (p := 2) (u := 3) rfl _ _ B _ _ _ rfl rfl (unhide Hw1)) rfl ⟨rfl, by first | exact unhide Hb1 | (rw [← hB]; exact unhide Hb1) | (rw [hB]; exact unhide Hb1)⟩
    · have hz3 : ¬ (s.size : Int) < (ek : Int) := by omega
      rw [decide_eq_false hlong]
      by_cases hk : 1 < k0
      · rw [decide_eq_true hk]
        simp only [Bool.or_true, if_true, Option.isSome_none, Bool.false_eq_true, if_false, Option.getD_none]
        have hb0a : (b0 == 0) = false := by rw [hb00]; exact decide_eq_false (by omega)
        have hb1a : (b0 == 1) = false := by rw [hb01]; exact decide_eq_false (by omega)
        have hkz : (1 : Int) < (k0 : Int) := by omega
        clear hb01 hb00 hek
        go_enter Try.func30, Try.ntmps30
        go_wp2_with fail
        exact bodyPost_ret (results_ch (p := 2) (u := 3) rfl _ _ B _ _ _ rfl rfl (unhide Hw1)) rfl ⟨rfl, by first | exact unhide Hb1 | (rw [← hB]; exact unhide Hb1) | (rw [hB]; exact unhide Hb1)⟩
      · rw [decide_eq_false hk]
        simp only [Bool.or_self, Bool.false_eq_true, if_false]
        obtain ⟨c, hc⟩ : ∃ c, cutP s b0 ek = c := ⟨_, rfl⟩
        rw [hc]
        have hckey : s.extract 2 ek = c.key := by rw [← hc]; rfl
        have hcval : s.extract ek s.size = c.val := by rw [← hc]; rfl
        have hcg : c.gone = decide (k0 = 1) := by rw [← hc, ← hb01]; rfl
        have H2 := (unhide HH1).drew.made 54 (chL c)
        have hsz2 : (w.alloc (.cells #[.string ⟨#[]⟩, .string ⟨#[]⟩, .bool false] 54)).drew.heap.size = B + 1 := by show (w.alloc _).heap.size = B + 1; rw [World.size_alloc, hB]
        rw [hsz2] at H2
        have HH2 := hide H2
        have ec := fun wx => check_calls c wx
        unfold chV at ec ⊢
        obtain ⟨key, val, gone⟩ := c
        simp only [chL] at *
        have HX := hide ((unhide HH2).below)
        have hk01 : k0 = 0 ∨ k0 = 1 := by omega
        clear H2 hsz2 hc hek HH1 HX
        cases hp : checkP ⟨key, val, gone⟩ with
        | some kk =>
          have hkp := checkP_pos _ kk hp
          rw [hp] at ec
          simp only [errV, Option.isSome_some, if_true, Option.getD_none, Option.isSome_none, Bool.false_eq_true, if_false, Option.getD_some] at ec ⊢
          have EC := hide ec
          clear ec hp
          rcases hk01 with hk01 | hk01
          all_goals
            subst hk01
            simp only [Nat.reduceEqDiff, decide_true, decide_false, Nat.zero_ne_one, Nat.one_ne_zero] at hb01 hb00 hcg
            subst hcg
            go_enter Try.func30, Try.ntmps30
            go_wp2_with fail
            go_region
            all_goals
              go_wp2_with fail
              refine (unhide EC _).mono ?_
              rintro e w3 ⟨rfl, hb3⟩
              have H3 := (unhide HH2).over hb3
              obtain ⟨y0, y1, y2⟩ := (⟨H3.cellAt (b := B) (j := 0) (.tail _ (.head _)) rfl, H3.cellAt (b := B) (j := 1) (.tail _ (.head _)) rfl, H3.cellAt (b := B) (j := 2) (.tail _ (.head _)) rfl⟩ : w3.cell? ⟨B, 0, none⟩ = some (.string ⟨#[]⟩) ∧ w3.cell? ⟨B, 1, none⟩ = some (.string ⟨#[]⟩) ∧ w3.cell? ⟨B, 2, none⟩ = some (.bool false))
              have z0 := H3.frozenAt (b := B) (.tail _ (.head _)) 0
              have z1 := H3.frozenAt (b := B) (.tail _ (.head _)) 1
              have z2 := H3.frozenAt (b := B) (.tail _ (.head _)) 2
              have h4 := ((H3.store [_] 0 (.string ⟨#[]⟩) _ rfl).store [_] 1 (.string ⟨#[]⟩) _ rfl).store [_] 2 (.bool false) _ rfl
              have H4 := hide h4
              clear H3 h4 hb3
              go_wp2_with fail
              exact bodyPost_ret (results_ch (p := 2) (u := 3) rfl _ _ B _ _ _ rfl rfl ((unhide H4).heapAt (.tail _ (.head _)))) rfl ⟨rfl, by first | exact (unhide H4).below | (rw [← hB]; exact (unhide H4).below) | (rw [hB]; exact (unhide H4).below)⟩
        | none =>
          rw [hp] at ec
          simp only [errV, Option.isSome_none, Bool.false_eq_true, if_false, Option.getD_none, Option.isSome_some, if_true, Option.getD_some] at ec ⊢
          have EC := hide ec
          clear ec hp
          rcases hk01 with hk01 | hk01
          · subst hk01
            simp only [Nat.reduceEqDiff, decide_true, decide_false, Nat.zero_ne_one, Nat.one_ne_zero] at hb01 hb00 hcg
            subst hcg
            go_enter Try.func30, Try.ntmps30
            go_wp2_with fail
            go_region
            all_goals
              go_wp2_with fail
              refine (unhide EC _).mono ?_
              rintro e w3 ⟨rfl, hb3⟩
              have H3 := (unhide HH2).over hb3
              obtain ⟨y0, y1, y2⟩ := (⟨H3.cellAt (b := B) (j := 0) (.tail _ (.head _)) rfl, H3.cellAt (b := B) (j := 1) (.tail _ (.head _)) rfl, H3.cellAt (b := B) (j := 2) (.tail _ (.head _)) rfl⟩ : w3.cell? ⟨B, 0, none⟩ = some (.string ⟨#[]⟩) ∧ w3.cell? ⟨B, 1, none⟩ = some (.string ⟨#[]⟩) ∧ w3.cell? ⟨B, 2, none⟩ = some (.bool false))
              have x0 := H3.cellAt (b := B + 1) (j := 0) (.head _) rfl
              have x1 := H3.cellAt (b := B + 1) (j := 1) (.head _) rfl
              have x2 := H3.cellAt (b := B + 1) (j := 2) (.head _) rfl
              have z0 := H3.frozenAt (b := B) (.tail _ (.head _)) 0
              have z1 := H3.frozenAt (b := B) (.tail _ (.head _)) 1
              have z2 := H3.frozenAt (b := B) (.tail _ (.head _)) 2
              have h4 := ((H3.store [_] 0 (.string key) _ rfl).store [_] 1 (.string val) _ rfl).store [_] 2 (.bool false) _ rfl
              have H4 := hide h4
              clear H3 h4 hb3
              go_wp2_with fail
              exact bodyPost_ret (results_ch (p := 2) (u := 3) rfl _ _ B _ _ _ rfl rfl ((unhide H4).heapAt (.tail _ (.head _)))) rfl ⟨rfl, by first | exact (unhide H4).below | (rw [← hB]; exact (unhide H4).below) | (rw [hB]; exact (unhide H4).below)⟩
          · subst hk01
            simp only [Nat.reduceEqDiff, decide_true, decide_false, Nat.zero_ne_one, Nat.one_ne_zero] at hb01 hb00 hcg
            subst hcg
            go_enter Try.func30, Try.ntmps30
            go_wp2_with fail
            go_region
            all_goals
              go_wp2_with fail
              refine (unhide EC _).mono ?_
              rintro e w3 ⟨rfl, hb3⟩
              have H3 := (unhide HH2).over hb3
              obtain ⟨y0, y1, y2⟩ := (⟨H3.cellAt (b := B) (j := 0) (.tail _ (.head _)) rfl, H3.cellAt (b := B) (j := 1) (.tail _ (.head _)) rfl, H3.cellAt (b := B) (j := 2) (.tail _ (.head _)) rfl⟩ : w3.cell? ⟨B, 0, none⟩ = some (.string ⟨#[]⟩) ∧ w3.cell? ⟨B, 1, none⟩ = some (.string ⟨#[]⟩) ∧ w3.cell? ⟨B, 2, none⟩ = some (.bool false))
              have x0 := H3.cellAt (b := B + 1) (j := 0) (.head _) rfl
              have x1 := H3.cellAt (b := B + 1) (j := 1) (.head _) rfl
              have x2 := H3.cellAt (b := B + 1) (j := 2) (.head _) rfl
              have z0 := H3.frozenAt (b := B) (.tail _ (.head _)) 0
              have z1 := H3.frozenAt (b := B) (.tail _ (.head _)) 1
              have z2 := H3.frozenAt (b := B) (.tail _ (.head _)) 2
              have h4 := ((H3.store [_] 0 (.string key) _ rfl).store [_] 1 (.string val) _ rfl).store [_] 2 (.bool true) _ rfl
              have H4 := hide h4
              clear H3 h4 hb3
              go_wp2_with fail
              exact bodyPost_ret (results_ch (p := 2) (u := 3) rfl _ _ B _ _ _ rfl rfl ((unhide H4).heapAt (.tail _ (.head _)))) rfl ⟨rfl, by first | exact (unhide H4).below | (rw [← hB]; exact (unhide H4).below) | (rw [hB]; exact (unhide H4).below)⟩
#print axioms parse_calls
end Go.Proofs.Ytcjfhfalffngjaa
