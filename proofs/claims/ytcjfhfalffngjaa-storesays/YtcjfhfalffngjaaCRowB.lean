/-
  The contract of the document's Applied, over the seat's program. The contract of the log's parse: a sector's kind and body. The contracts of row.Bytes and of the document's ChangeBytes, over the seat's program.
-/
import Derived.Test.YtcjfhfalffngjaaCCApplyW
import Derived.Test.YtcjfhfalffngjaaCGen
import Derived.Deep.QuietTactic
import Derived.BigQuiet
import Derived.Test.YtcjfhfalffngjaaCCPure
import Derived.Test.YtcjfhfalffngjaaCRowC
import Derived.Deep.RegionHeldLaw
namespace Go.Proofs.Ytcjfhfalffngjaa
open Go.RowKit Go.Lib
set_option maxRecDepth 100000
set_option linter.unusedVariables false
set_option linter.unusedSimpArgs false

theorem bytesLess_cmp : ∀ a b : List UInt8, Op.bytesLess a b = decide (Go.Lib.compareBytes a b < 0)
  | [], [] => by simp [Op.bytesLess, Go.Lib.compareBytes]
  | [], _ :: _ => by simp [Op.bytesLess, Go.Lib.compareBytes]
  | _ :: _, [] => by simp [Op.bytesLess, Go.Lib.compareBytes]
  | x :: a, y :: b => by
    have ih := bytesLess_cmp a b
    unfold Op.bytesLess Go.Lib.compareBytes
    by_cases h1 : x < y
    · simp [h1]
    · by_cases h2 : y < x
      · have h3 : ¬ (x = y) := fun e => by subst e; exact h1 h2
        simp [h1, h2, h3]
      · have h3 : x = y := by
          rw [UInt8.lt_iff_toNat_lt] at h1 h2
          exact UInt8.toNat_inj.1 (by omega)
        subst h3
        simp [h1, ih]
theorem less_kLt (a b : ByteArray) : Op.bytesLess a.toList b.toList = decide (kLt a b) := by
  rw [bytesLess_cmp, Go.Lib.toList_data, Go.Lib.toList_data]
  rfl
theorem toList_same (a b : ByteArray) : a.toList = b.toList ↔ a = b := by
  rw [Lib.toList_data, Lib.toList_data]
  constructor
  · intro h
    cases a; cases b
    congr 1
    exact Array.toList_inj.1 h
  · rintro rfl; rfl
/-- While a change is laid among rows. -/
def AInv (c : ChD) (a next : List ChD) (laid : Bool) : Prop :=
  (c.gone = true ∧ laid = true ∧ next = dropL a c.key) ∨ (c.gone = false ∧ laid = false ∧ next = a ∧ ∀ y ∈ a, kLt y.key c.key) ∨ (c.gone = false ∧ laid = true ∧ next = putL a c ∧ ∃ y ∈ a, ¬ kLt y.key c.key)
theorem ainv_start (c : ChD) : AInv c [] [] c.gone := by
  cases h : c.gone with
  | true => exact .inl ⟨h, rfl, rfl⟩
  | false => exact .inr (.inl ⟨h, rfl, rfl, fun y hy => by simp at hy⟩)
theorem ainv_end {c : ChD} {a next : List ChD} (h : AInv c a next true) : next = applyOne a c := by
  unfold applyOne
  rcases h with ⟨h1, _, h2⟩ | ⟨_, h, _⟩ | ⟨h1, _, h2, _⟩
  · rw [h1]; exact h2
  · cases h
  · rw [h1]; exact h2
theorem ainv_last {c : ChD} {a next : List ChD} (h : AInv c a next false) : next ++ [c] = applyOne a c := by
  unfold applyOne
  rcases h with ⟨_, h, _⟩ | ⟨h1, _, h2, h3⟩ | ⟨_, h, _⟩
  · cases h
  · rw [h1, h2]
    have := putL_at (it := c) a [] h3 (fun i hi => by simp at hi)
    rw [List.append_nil] at this
    exact this.symm
  · cases h
theorem ainv_same {c x : ChD} {a next : List ChD} (hs : ∀ y ∈ a, kLt y.key x.key) (h : AInv c a next true) (hk : x.key = c.key) : AInv c (a ++ [x]) next true := by
  rcases h with ⟨h1, _, h2⟩ | ⟨_, h, _⟩ | ⟨h1, _, h2, y, hy, hn⟩
  · refine .inl ⟨h1, rfl, ?_⟩
    rw [h2]
    unfold dropL
    rw [List.filter_append]
    simp [hk]
  · cases h
  · exact absurd (hk ▸ hs y hy) hn
theorem ainv_keep {c x : ChD} {a next : List ChD} (hs : ∀ y ∈ a, kLt y.key x.key) (h : AInv c a next true) (hk : x.key ≠ c.key) : AInv c (a ++ [x]) (next ++ [x]) true := by
  rcases h with ⟨h1, _, h2⟩ | ⟨_, h, _⟩ | ⟨h1, _, h2, y, hy, hn⟩
  · refine .inl ⟨h1, rfl, ?_⟩
    rw [h2]
    unfold dropL
    rw [List.filter_append]
    simp [hk]
  · cases h
  · refine .inr (.inr ⟨h1, rfl, ?_, y, by simp [hy], hn⟩)
    rw [h2, putL_high a [x] (fun i hi => by
      simp at hi
      subst hi
      rcases kLt_tri c.key i.key with h | h | h
      · exact h
      · exact absurd h.symm hk
      · exact absurd (kLt_trans (hs y hy) h) hn)]
theorem ainv_low {c x : ChD} {a next : List ChD} (h : AInv c a next false) (hk : kLt x.key c.key) : AInv c (a ++ [x]) (next ++ [x]) false := by
  rcases h with ⟨_, h, _⟩ | ⟨h1, _, h2, h3⟩ | ⟨_, h, _⟩
  · cases h
  · refine .inr (.inl ⟨h1, rfl, by rw [h2], fun y hy => ?_⟩)
    rcases List.mem_append.1 hy with h | h
    · exact h3 y h
    · simp at h; subst h; exact hk
  · cases h
theorem ainv_eq {c x : ChD} {a next : List ChD} (h : AInv c a next false) (hk : x.key = c.key) : AInv c (a ++ [x]) (next ++ [c]) true := by
  rcases h with ⟨_, h, _⟩ | ⟨h1, _, h2, h3⟩ | ⟨_, h, _⟩
  · cases h
  · refine .inr (.inr ⟨h1, rfl, ?_, x, by simp, by rw [hk]; exact kLt_irrefl _⟩)
    rw [h2]
    exact (putL_same a [] h3 hk).symm
  · cases h
theorem ainv_high {c x : ChD} {a next : List ChD} (h : AInv c a next false) (hk : kLt c.key x.key) : AInv c (a ++ [x]) (next ++ [c] ++ [x]) true := by
  rcases h with ⟨_, h, _⟩ | ⟨h1, _, h2, h3⟩ | ⟨_, h, _⟩
  · cases h
  · refine .inr (.inr ⟨h1, rfl, ?_, x, by simp, kLt_asymm hk⟩)
    rw [h2, putL_at a [x] h3 (fun i hi => by simp at hi; subst hi; exact hk)]
    simp
  · cases h
#print axioms ainv_high

/-- A change behind rows. -/
theorem hold_add {w0 wx : World} {v : Value} {L : List ChD} {l2 : List Res} (H : Hold w0 wx (rowI v L :: l2)) (c : ChD) (hn : L.length ≤ 1000) :
    ∃ v' w', (Builtin.append_ #[36, 36] 36 #[v, .slice (some ⟨wx.heap.size, 0, none⟩) 1 1]).run Try.prog (wx.alloc (.cells #[.string c.key, .string c.val, .bool c.gone] 54)) = .ok v' w' ∧ Hold w0 w' (rowI v' (L ++ [c]) :: l2) := by
  have h1 := H.made 54 (cellsOf c)
  obtain ⟨v', w', h2, h3, _⟩ := h1.append [_] 36 36 Try.underlying36 infoC (by decide) (by decide) (some ⟨wx.heap.size, 0, none⟩) 1 1 (cellsOf c) rfl (fun _ => ⟨wx.heap.size, 0, rfl, fun j u hj => by rw [Nat.zero_add]; exact h1.cellAt (.head _) hj⟩) (fun h => by cases h) (fun u hu => flat_one [c] u (by simpa [flat] using hu)) (by omega)
  refine ⟨v', w', h2, ?_⟩
  have h4 := h3.forget []
  unfold rowI
  rw [flat_append, List.length_append, show flat [c] = cellsOf c from by simp [flat]]
  exact h4
/-- Rows behind nothing. -/
theorem hold_copy (v : Value) (n : Nat) (f : Nat → ChD) (w : World) (h : ChOk w v n f) (hs : Shaped v) (hn : n ≤ 1000) : ∃ p c v' w', v = .slice p n c ∧ (Builtin.append_ #[36, 36] 36 #[.slice none 0 0, .slice p n c]).run Try.prog w = .ok v' w' ∧ Hold w w' [rowI v' (listOf n f)] := by
  have H1 := (Hold.init w).nilRow 54 3
  have key : ∀ p c, v = .slice p n c → (0 < n → ∃ b off, p = some ⟨b, off, none⟩ ∧ ∀ j u, (flat (listOf n f))[j]? = some u → w.cell? ⟨b, off + j, none⟩ = some u) → (p = none → n = 0 ∧ c = 0) → ∃ p c v' w', v = .slice p n c ∧ (Builtin.append_ #[36, 36] 36 #[.slice none 0 0, .slice p n c]).run Try.prog w = .ok v' w' ∧ Hold w w' [rowI v' (listOf n f)] := fun p c hv h1 h2 => by
    obtain ⟨v', w', h3, h4, _⟩ := H1.append [] 36 36 Try.underlying36 infoC (by decide) (by decide) p n c (flat (listOf n f)) (by rw [flat_length, listOf_length]) h1 h2 (flat_one _) (by omega)
    refine ⟨p, c, v', w', hv, h3, ?_⟩
    rw [Nat.zero_add, List.nil_append] at h4
    unfold rowI
    rw [listOf_length]
    exact h4
  rcases h with ⟨⟨p, c, hv⟩, rfl⟩ | ⟨b, off, c, hv, _, _, hcells⟩
  · rcases hs with h0 | ⟨a, m, c', h0⟩
    · exact key none 0 h0 (fun h => by omega) (fun _ => ⟨rfl, rfl⟩)
    · have hm : m = 0 := by rw [h0] at hv; injection hv
      subst hm
      exact key (some a) c' h0 (fun h => by omega) (fun h => by cases h)
  · exact key _ c hv (fun _ => ⟨b, off, rfl, fun j u hu => flat_listOf hcells j u hu⟩) (fun h => by cases h)
#print axioms hold_copy
end Go.Proofs.Ytcjfhfalffngjaa
namespace Go.Proofs.Ytcjfhfalffngjaa
open Go.RowKit Go.Lib
set_option maxRecDepth 100000
set_option linter.unusedVariables false
set_option linter.unusedSimpArgs false

def kindO : ByteArray := ⟨#[111]⟩
def kindC : ByteArray := ⟨#[99]⟩
def nilB : ByteArray := ⟨#[]⟩
def lenS (s : ByteArray) : Nat := numB (s.extract 5 7).data.toList
def numS (s : ByteArray) : Nat := numB (s.extract 1 5).data.toList
def GoodS (s : ByteArray) (num : Nat) : Prop := (s.extract 0 1 = kindO ∨ s.extract 0 1 = kindC) ∧ numS s = num ∧ 7 + lenS s ≤ 140
instance (s : ByteArray) (num : Nat) : Decidable (GoodS s num) := by unfold GoodS; infer_instance
/-- A sector's kind and body. -/
def parseS (s : ByteArray) (num : Nat) : ByteArray × ByteArray := if GoodS s num then (s.extract 0 1, s.extract 7 (7 + lenS s)) else (nilB, nilB)

set_option maxHeartbeats 800000 in
theorem parse79_calls (s : ByteArray) (hs : s.size = 140) (num : Nat) (w : World) :
    Calls Try.prog 79 #[.string s, .int .u32 num] w fun e w' => e = .returned (.tuple #[.string (parseS s num).1, .string (parseS s num).2]) ∧ ∃ n, w' = w.drewN n := by
  have z1 : (s.extract 5 7).size = 2 := by rw [ByteArray.size_extract, hs]; rfl
  have z2 : (s.extract 1 5).size = 4 := by rw [ByteArray.size_extract, hs]; rfl
  have e1 := fun wx => number97_calls (s.extract 5 7) (by omega) wx
  have e2 := fun wx => number97_calls (s.extract 1 5) (by omega) wx
  have hlen : lenS s < 65536 := by
    have h := numB_lt (s.extract 5 7).data.toList
    have h2 : (s.extract 5 7).data.toList.length = 2 := by rw [Array.length_toList]; exact z1
    rw [h2] at h
    exact h
  have hgd : ∀ (P : Prop) [Decidable P], P → True := fun _ _ _ => trivial
  have f1 : numB (s.extract 5 7).data.toList = lenS s := rfl
  have f2 : numB (s.extract 1 5).data.toList = numS s := rfl
  simp only [f1] at e1
  simp only [f2] at e2
  obtain ⟨ln, hln⟩ : ∃ n, lenS s = n := ⟨_, rfl⟩
  obtain ⟨nu, hnu⟩ : ∃ n, numS s = n := ⟨_, rfl⟩
  obtain ⟨kd, hkd⟩ : ∃ k, s.extract 0 1 = k := ⟨_, rfl⟩
  have hP : parseS s num = if (kd = kindO ∨ kd = kindC) ∧ nu = num ∧ 7 + ln ≤ 140 then (kd, s.extract 7 (7 + ln)) else (nilB, nilB) := by
    unfold parseS GoodS
    simp only [hkd, hnu, hln]
  rw [hP]
  rw [hln] at hlen
  simp only [hln] at e1
  simp only [hnu] at e2
  have E1 := hide e1
  have E2 := hide e2
  clear e1 e2 hP hnu hln hgd f1 f2
  go_enter Try.func79, Try.ntmps79
  go_wp2_with fail
  refine (unhide E1 _).mono ?_
  rintro e w1 ⟨rfl, n1, rfl⟩
  by_cases hko : kd = kindO
  · unfold kindO at hko
    subst hko
    go_wp2_with fail
    refine (unhide E2 _).mono ?_
    rintro e w2 ⟨rfl, n2, rfl⟩
    rw [World.drewN_drewN]
    by_cases hn : nu = num
    · subst hn
      by_cases hl : 7 + ln ≤ 140
      · have hl2 : ¬ (140 : Int) < 7 + (ln : Int) := by omega
        have hl3 : ln ≤ 133 := by omega
        go_wp2_with fail
        go_quiet (fail)
        go_wp2_with fail
        go_ret2
        refine ⟨?_, _, rfl⟩
        first | rfl | (rw [if_pos ⟨Or.inl rfl, rfl, hl⟩]; rfl) | rw [if_pos ⟨Or.inl rfl, rfl, hl⟩]
      · have hl2 : (140 : Int) < 7 + (ln : Int) := by omega
        go_wp2_with fail
        go_ret2
        refine ⟨?_, _, rfl⟩
        first | rfl | (rw [if_neg (fun h => hl h.2.2)]; rfl) | rw [if_neg (fun h => hl h.2.2)]
    · have hn2 : ¬ (nu : Int) = (num : Int) := by omega
      have hn3 : ¬ (num : Int) = (nu : Int) := by omega
      go_wp2_with fail
      go_ret2
      refine ⟨?_, _, rfl⟩
      first | rfl | (rw [if_neg (fun h => hn h.2.1)]; rfl) | rw [if_neg (fun h => hn h.2.1)]
  · by_cases hkc : kd = kindC
    · unfold kindC at hkc
      subst hkc
      go_wp2_with fail
      refine (unhide E2 _).mono ?_
      rintro e w2 ⟨rfl, n2, rfl⟩
      rw [World.drewN_drewN]
      by_cases hn : nu = num
      · subst hn
        by_cases hl : 7 + ln ≤ 140
        · have hl2 : ¬ (140 : Int) < 7 + (ln : Int) := by omega
          have hl3 : ln ≤ 133 := by omega
          go_wp2_with fail
          go_quiet (fail)
          go_wp2_with fail
          go_ret2
          refine ⟨?_, _, rfl⟩
          first | rfl | (rw [if_pos ⟨Or.inr rfl, rfl, hl⟩]; rfl) | rw [if_pos ⟨Or.inr rfl, rfl, hl⟩]
        · have hl2 : (140 : Int) < 7 + (ln : Int) := by omega
          go_wp2_with fail
          go_ret2
          refine ⟨?_, _, rfl⟩
          first | rfl | (rw [if_neg (fun h => hl h.2.2)]; rfl) | rw [if_neg (fun h => hl h.2.2)]
      · have hn2 : ¬ (nu : Int) = (num : Int) := by omega
        have hn3 : ¬ (num : Int) = (nu : Int) := by omega
        go_wp2_with fail
        go_ret2
        refine ⟨?_, _, rfl⟩
        first | rfl | (rw [if_neg (fun h => hn h.2.1)]; rfl) | rw [if_neg (fun h => hn h.2.1)]
    · skip
      have hko' := hko
      have hkc' := hkc
      unfold kindO at hko'
      unfold kindC at hkc'
      have t1 : (⟨#[111]⟩ : ByteArray).toList = [111] := by rw [Lib.toList_data]
      have t2 : (⟨#[99]⟩ : ByteArray).toList = [99] := by rw [Lib.toList_data]
      have k1 : ¬ kd.toList = [111] := fun h => hko' ((toList_same _ _).1 (h.trans t1.symm))
      have k2 : ¬ kd.toList = [99] := fun h => hkc' ((toList_same _ _).1 (h.trans t2.symm))
      have k3 : (kd.toList == [111]) = false := beq_eq_false_iff_ne.2 k1
      have k4 : (kd.toList == [99]) = false := beq_eq_false_iff_ne.2 k2
      clear k1 k2
      go_wp2_with fail
      all_goals
        go_ret2
        refine ⟨?_, _, rfl⟩
        first | rfl | (rw [if_neg (fun h => by rcases h.1 with h | h; exact hko h; exact hkc h)]; rfl)
#print axioms parse79_calls
end Go.Proofs.Ytcjfhfalffngjaa
namespace Go.Proofs.Ytcjfhfalffngjaa
open Go.RowKit
set_option maxRecDepth 100000
set_option linter.unusedVariables false
set_option linter.unusedSimpArgs false

/-- I2. -/
def bytesP (c : ChD) : List UInt8 := (if c.gone then 1 else 0) :: UInt8.ofNat c.key.size :: (c.key.data.toList ++ c.val.data.toList)
def bytesE (c : ChD) : List UInt8 := if (checkP c).isSome then [] else bytesP c
theorem mk_list (s : ByteArray) : (⟨s.data.toList.toArray⟩ : ByteArray) = s := by cases s; simp
theorem app_mk (a : List UInt8) (s : ByteArray) : (⟨a.toArray⟩ : ByteArray) ++ s = ⟨(a ++ s.data.toList).toArray⟩ := by
  conv => lhs; rhs; rw [← mk_list s]
  exact ByteArray.mk_append_mk _ _
theorem bytes_eq (c : ChD) (g : UInt8) (hg : g = if c.gone then 1 else 0) (hk : c.key.size ≤ 48) : (⟨#[g]⟩ : ByteArray) ++ ⟨(leB c.key.size 1).toArray⟩ ++ c.key ++ c.val = ⟨(bytesP c).toArray⟩ := by
  have e1 : (⟨#[g]⟩ : ByteArray) ++ ⟨(leB c.key.size 1).toArray⟩ = ⟨([g] ++ leB c.key.size 1).toArray⟩ := ByteArray.mk_append_mk [g] _
  rw [e1, app_mk, app_mk]
  congr 2
  unfold bytesP leB leB
  rw [hg, Nat.mod_eq_of_lt (by omega)]
  rfl

def BytesEnd (c : ChD) (w : World) (e : Ending) (w' : World) : Prop := e = .returned (.tuple #[.string ⟨(bytesE c).toArray⟩, errV (checkP c)]) ∧ Below w.heap.size w w'

set_option maxHeartbeats 1000000 in
theorem bytes_calls (c : ChD) (w : World) : Calls Try.prog 28 #[chV c] w fun e w' => BytesEnd c w e w' := by
  have ec := fun wx => check_calls c wx
  unfold BytesEnd bytesE
  obtain ⟨B, hB⟩ : ∃ B, w.heap.size = B := ⟨_, rfl⟩
  have hbel0 : ∀ o, Below B w (w.alloc o) := fun o => (Below.refl _ _).alloc (by omega) o
  have Hbel0 := hide hbel0
  have hcell : ∀ wx, Below (B + 1) (w.alloc (.cells #[.string c.key, .string c.val, .bool c.gone] 54)) wx → wx.cell? ⟨B, 0, none⟩ = some (.string c.key) ∧ wx.cell? ⟨B, 1, none⟩ = some (.string c.val) ∧ wx.cell? ⟨B, 2, none⟩ = some (.bool c.gone) ∧ Below B w wx := fun wx hx => by
    have h0 : (w.alloc (.cells #[.string c.key, .string c.val, .bool c.gone] 54)).heap[B]? = some (.cells #[.string c.key, .string c.val, .bool c.gone] 54 (0, 0)) := by rw [← hB]; exact heap_alloc_new w _
    refine ⟨?_, ?_, ?_, (hbel0 _).trans (hx.mono (by omega))⟩
    · rw [cell_below hx (by show B < B + 1; omega), cell_of_row _ _ 0 _ _ _ h0]; rfl
    · rw [cell_below hx (by show B < B + 1; omega), cell_of_row _ _ 1 _ _ _ h0]; rfl
    · rw [cell_below hx (by show B < B + 1; omega), cell_of_row _ _ 2 _ _ _ h0]; rfl
  have HC := hide hcell
  cases hp : checkP c with
  | some k =>
    rw [hp] at ec
    simp only [errV, Option.isSome_some, if_true] at ec ⊢
    have EC := hide ec
    unfold chV at EC ⊢
    clear ec hcell hbel0
    go_enter Try.func28, Try.ntmps28
    go_wp2_with fail
    refine (unhide EC _).mono ?_
    rintro e w2 ⟨rfl, hb2⟩
    have hb3 := (unhide HC w2 (by have := hb2; rw [World.size_alloc, hB] at this; exact this)).2.2.2
    have Hb3 := hide hb3
    clear hb2 hb3 EC
    go_wp2_with fail
    go_ret2
    exact ⟨rfl, by rw [hB]; exact unhide Hb3⟩
  | none =>
    rw [hp] at ec
    simp only [errV, Option.isSome_none, Bool.false_eq_true, if_false] at ec ⊢
    obtain ⟨_, _, hk48, hv44⟩ := checkP_none hp
    have EC := hide ec
    have hbe := fun g hg => bytes_eq c g hg hk48
    have EL := hide (fun wx => little_calls c.key.size 1 (by omega) (by omega) wx)
    obtain ⟨L1, hL1⟩ : ∃ L1 : ByteArray, ⟨(leB c.key.size 1).toArray⟩ = L1 := ⟨_, rfl⟩
    have hL1s : L1.size = 1 := by rw [← hL1]; show (leB c.key.size 1).toArray.size = 1; simp [leB_length]
    rw [hL1] at EL hbe
    obtain ⟨BP, hBP⟩ : ∃ BP : ByteArray, ⟨(bytesP c).toArray⟩ = BP := ⟨_, rfl⟩
    rw [hBP] at hbe ⊢
    obtain ⟨key, val, gone⟩ := c
    unfold chV at EC ⊢
    simp only at *
    have hkm : IntKind.u32.wrap (key.size : Int) = (key.size : Int) := by rw [IntKind.wrap_u32]; omega
    have Hbe := hide hbe
    clear ec hcell hbel0 hbe hp hL1 hBP
    go_enter Try.func28, Try.ntmps28
    go_wp2_with fail
    refine (unhide EC _).mono ?_
    rintro e w2 ⟨rfl, hb2⟩
    have hb2' : Below (B + 1) (w.alloc (.cells #[.string key, .string val, .bool gone] 54)) w2 := by have := hb2; rw [World.size_alloc, hB] at this; exact this
    obtain ⟨k0, k1, k2, hb3⟩ := unhide HC w2 hb2'
    have Hb2 := hide hb2'
    have hsz2 : B + 1 ≤ w2.heap.size := by have := hb2'.size; rw [World.size_alloc, hB] at this; exact this
    clear hb2 hb2' EC hb3
    have HS0 : Hid (w2.drew.cell? ⟨B, 0, none⟩ = some (.string key) ∧ w2.drew.cell? ⟨B, 1, none⟩ = some (.string val)) := ⟨k0, k1⟩
    cases gone with
    | true =>
      have hbe := unhide Hbe 1 rfl
      clear Hbe
      go_wp2_with fail
      go_region_held (fun w' => w'.cell? ⟨B, 0, none⟩ = some (.string key) ∧ w'.cell? ⟨B, 1, none⟩ = some (.string val)) (first | exact unhide HS5 | exact unhide HS0) ((go_at_call 61; refine (unhide EL _).mono ?_; rintro e w5 ⟨rfl, hb5⟩; have h5 := (unhide Hb2).drew.trans (hb5.mono hsz2); have HS5 : Hid (w5.cell? ⟨B, 0, none⟩ = some (.string key) ∧ w5.cell? ⟨B, 1, none⟩ = some (.string val)) := ⟨(unhide HC w5 h5).1, (unhide HC w5 h5).2.1⟩; have HB5 := hide (unhide HC w5 h5).2.2.2; clear h5 hb5))
      all_goals
        go_wp2_with fail
        go_ret2
        exact ⟨rfl, by rw [hB]; exact unhide HB5⟩
    | false =>
      have hbe := unhide Hbe 0 rfl
      clear Hbe
      go_wp2_with fail
      go_region_held (fun w' => w'.cell? ⟨B, 0, none⟩ = some (.string key) ∧ w'.cell? ⟨B, 1, none⟩ = some (.string val)) (first | exact unhide HS5 | exact unhide HS0) ((go_at_call 61; refine (unhide EL _).mono ?_; rintro e w5 ⟨rfl, hb5⟩; have h5 := (unhide Hb2).drew.trans (hb5.mono hsz2); have HS5 : Hid (w5.cell? ⟨B, 0, none⟩ = some (.string key) ∧ w5.cell? ⟨B, 1, none⟩ = some (.string val)) := ⟨(unhide HC w5 h5).1, (unhide HC w5 h5).2.1⟩; have HB5 := hide (unhide HC w5 h5).2.2.2; clear h5 hb5))
      all_goals
        go_wp2_with fail
        go_ret2
        exact ⟨rfl, by rw [hB]; exact unhide HB5⟩
#print axioms bytes_calls
end Go.Proofs.Ytcjfhfalffngjaa
