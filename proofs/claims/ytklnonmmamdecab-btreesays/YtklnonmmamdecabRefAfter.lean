/-
  The contract of jobcaseref.After, over the seat's program.
-/
import Derived.Test.YtklnonmmamdecabRef
namespace Go.Proofs.Ytklnonmmamdecab
open Go.RowKit Go.Lib
set_option linter.unusedVariables false
set_option linter.unusedSimpArgs false

/-- How a call ends that makes a row of entries. -/
def EntriesEnd (base : Nat) (w0 : World) (K0 : Nat → Nat) (l : List Item) (rs : List Res) (e : Ending) (w' : World) : Prop :=
  ∃ v, e = .returned v ∧ Hold base w0 K0 w' (rowE v l :: rs)

theorem afterL_snoc_yes {a : List Item} {x : Item} {key : ByteArray} (h : kLt key x.key) : afterL (a ++ [x]) key = afterL a key ++ [x] := by
  rw [afterL_append]
  congr 1
  simp [afterL, h]
theorem afterL_snoc_no {a : List Item} {x : Item} {key : ByteArray} (h : ¬ kLt key x.key) : afterL (a ++ [x]) key = afterL a key := by
  rw [afterL_append]
  simp [afterL, h]

set_option maxRecDepth 100000 in
set_option maxHeartbeats 1000000 in
theorem refAfter_calls (base : Nat) (w0 : World) (K0 : Nat → Nat) (w : World) (rs : List Res) (vm : Value) (l : List Item) (key : ByteArray) (many : Int) (H : Hold base w0 K0 w rs) (hm : rowP vm l ∈ rs) (hb : base ≤ w.heap.size) (hl : l.length ≤ 1000) :
    Calls Try.prog 20 #[vm, .string key, .int .i64 many] w fun e w' => EntriesEnd base w0 K0 ((afterL l key).take many.toNat) rs e w' := by
  have r0 : w.ownsRow base 61 3 vm l.length (flat l) := H.rowAt hm
  obtain ⟨n, hn⟩ : ∃ n, l.length = n := ⟨_, rfl⟩
  rw [hn] at r0 hl
  obtain ⟨p, cap, hvm⟩ := row_len r0
  rw [hvm]
  rw [hvm] at r0 hm
  obtain ⟨i0, hi0, hz0, hz1, hz2⟩ := info_parts info33
  obtain ⟨res, hres⟩ : ∃ res, (afterL l key).take many.toNat = res := ⟨_, rfl⟩
  rw [hres]
  have HH := hide H
  have Hn := hide hn
  have Hm := hide hm
  have Hres := hide hres
  clear r0 H hm hvm hn hres
  go_enter Try.func20, Try.ntmps20
  go_wp2_with fail
  go_loopg [7, 8] (n + 1) (fun g v7 vi wr => ∃ (i : Nat) (out : List Item), n - i < g ∧ i ≤ n ∧ vi = .int .i64 i ∧ base ≤ wr.heap.size ∧ out.length ≤ i ∧ out.length ≤ many.toNat ∧ Hid (out = afterL (l.take i) key) ∧ Hid (Hold base w0 K0 wr (rowE v7 out :: rs)))
  case atStart => exact ⟨0, [], by omega, by omega, rfl, hb, by simp, by simp, rfl, (unhide HH).nilRow 33 2⟩
  case round =>
    obtain ⟨i, out, hg, hi, rfl, hbr, hol, hom, HO, HR⟩ := hrel
    obtain ⟨no, hno⟩ : ∃ no, out.length = no := ⟨_, rfl⟩
    rw [hno] at hol hom
    have rr : wr.ownsRow base 33 2 u7 no (flatE out) := by rw [← hno]; exact (unhide HR).rowAt (List.mem_cons_self ..)
    obtain ⟨po, co, hvo⟩ := row_len rr
    subst hvo
    have Hno := hide hno
    clear rr hno
    by_cases hin : i < n
    · have hz : (i : Int) < (n : Int) := by omega
      by_cases hmo : (no : Int) < many
      · have r1 : wr.ownsRow base 61 3 (.slice p n cap) n (flat l) := by have := (unhide HR).rowAt (List.mem_cons_of_mem _ (unhide Hm)); rwa [unhide Hn] at this
        obtain ⟨g, cap', e1, _⟩ := row_shape r1 (by omega)
        injection e1 with e1 _ e2
        subst e1 e2
        obtain ⟨x, hx⟩ : ∃ x, l[i]? = some x := ⟨_, List.getElem?_eq_getElem (by have := unhide Hn; omega)⟩
        obtain ⟨t1, t2, t3⟩ := pair_cell r1 hx
        have Hx := hide hx
        clear r1 hx
        by_cases hk : kLt key x.key
        · obtain ⟨hb1, hb2⟩ := greater_yes hk
          have hb3 : (x.key.toList == key.toList) = false := by simp [hb2]
          have H1 := (unhide HR).alloc (.cells #[.string x.name, .int .i64 x.node] 33)
          have r2 : (wr.alloc (.cells #[.string x.name, .int .i64 x.node] 33)).ownsRow base 33 2 (.slice po no co) no (flatE out) := by have := H1.rowAt (v := .slice po no co) (List.mem_cons_self ..); rwa [unhide Hno] at this
          have HO' : Hid (out ++ [x] = afterL (l.take (i + 1)) key) := by
            have h1 := unhide HO
            show out ++ [x] = _
            rw [take_at (unhide Hx), afterL_snoc_yes hk, ← h1]
          have Hr2 := hide r2
          have HH1 := hide H1
          clear r2 H1 hk
          go_wp2_with (at_builtin; refine wpList_append_own_at _ rfl _ _ 43 rfl base 33 i0 (.agg #[.string ⟨#[]⟩, .int .i64 0]) 2 24 Try.underlying43 hi0 hz0 hz1 hz2 rfl (by decide) _ _ _ rfl (unhide Hr2) ⟨wr.heap.size, 0, none⟩ 1 1 [.string x.name, .int .i64 x.node] rfl rfl (cell_two_new wr (.string x.name) (.int .i64 x.node) 33) (fun y hy => by simp at hy; rcases hy with rfl | rfl <;> rfl) (by unfold maxLen; omega) (by omega) (by simp; omega) ?_; intro v4 w4 hown4 hgrow4 hnil4 hat4; have h6 := hgrow4.size; have H5 := hide ((unhide HH1).grow [] hgrow4 hown4 (by rcases hat4 with h | h; exact .inl h; exact .inr ⟨_, h, Nat.le_refl _⟩)); clear hown4 hgrow4 hnil4 hat4)
          go_roundg (n - i)
          case measure => omega
          case rel => exact ⟨i + 1, out ++ [x], by omega, by omega, by simp, by simp at h6; omega, by simp; have := unhide Hno; omega, by simp; have := unhide Hno; omega, HO', by
            have h7 := unhide H5
            rw [← flatE_snoc] at h7
            show Hold base w0 K0 w4 (.row v4 33 2 (out ++ [x]).length (flatE (out ++ [x])) :: rs)
            rw [List.length_append, unhide Hno]
            exact h7⟩
        · have hb1 := greater_no hk
          have HO' : Hid (out = afterL (l.take (i + 1)) key) := by
            have h1 := unhide HO
            show out = _
            rw [take_at (unhide Hx), afterL_snoc_no hk, ← h1]
          have HK := hide hk
          have HB1 := hide hb1
          clear hk hb1
          by_cases hl1 : Op.bytesLess x.key.toList key.toList = true
          · go_wp2_with fail
            go_roundg (n - i)
            case measure => omega
            case rel => exact ⟨i + 1, out, by omega, by omega, by simp, hbr, by have := unhide Hno; omega, by have := unhide Hno; omega, HO', HR⟩
          · have hl2 : Op.bytesLess x.key.toList key.toList = false := by simpa using hl1
            have hl3 : x.key.toList = key.toList := by
              have := unhide HB1
              simp only [hl2, true_and, Classical.not_not] at this
              exact this
            have hl4 : (x.key.toList == key.toList) = true := by simp [hl3]
            clear hl1
            go_wp2_with fail
            go_roundg (n - i)
            case measure => omega
            case rel => exact ⟨i + 1, out, by omega, by omega, by simp, hbr, by have := unhide Hno; omega, by have := unhide Hno; omega, HO', HR⟩
      · have HF : Hid (res = out) := by
          have h1 := unhide HO
          have h2 := unhide Hres
          show res = out
          have e : l = l.take i ++ l.drop i := (List.take_append_drop i l).symm
          rw [← h2, e, afterL_append, ← h1, List.take_append_of_le_length (by have := unhide Hno; omega), List.take_of_length_le (by have := unhide Hno; omega)]
        go_wp2_with fail
        go_ret
        exact ⟨_, rfl, by rw [unhide HF]; exact unhide HR⟩
    · have hz : ¬ ((i : Int) < (n : Int)) := by omega
      have HF : Hid (res = out) := by
        have h1 := unhide HO
        have h2 := unhide Hres
        show res = out
        rw [List.take_of_length_le (by have := unhide Hn; omega)] at h1
        rw [← h2, ← h1, List.take_of_length_le (by have := unhide Hno; omega)]
      go_wp2_with fail
      go_ret
      exact ⟨_, rfl, by rw [unhide HF]; exact unhide HR⟩
#print axioms refAfter_calls
end Go.Proofs.Ytklnonmmamdecab
