/-
  The contracts of jobcaseref's Get, Drop and Put, over the seat's program: a plain row of entries by their keys.
-/
import Derived.Test.YtklnonmmamdecabTreeFacts
namespace Go.Proofs.Ytklnonmmamdecab
open Go.RowKit Go.Lib
set_option linter.unusedVariables false
set_option linter.unusedSimpArgs false

theorem info61 : (Try.prog.info? 61).map (fun i => (i.zero, i.size, i.bytes)) = some (some (.agg #[.string ⟨#[]⟩, .string ⟨#[]⟩, .int .i64 0]), 3, 40) := by kernel_rfl
def rowP (v : Value) (l : List Item) : Res := .row v 61 3 l.length (flat l)

theorem pair_cell {w : World} {base g n cap : Nat} {its : List Item} (h : w.ownsRow base 61 3 (.slice (some ⟨g, 0, none⟩) n cap) n (flat its)) {j : Nat} {x : Item} (hk : its[j]? = some x) : w.cell? ⟨g, j * 3, none⟩ = some (.string x.key) ∧ w.cell? ⟨g, j * 3 + 1, none⟩ = some (.string x.name) ∧ w.cell? ⟨g, j * 3 + 2, none⟩ = some (.int .i64 x.node) := by
  have hl : its.length * 3 = n * 3 := by rw [← h.1, flat_length]
  obtain ⟨hj, rfl⟩ := List.getElem?_eq_some_iff.1 hk
  have key : ∀ (l : List Item) (j : Nat) (hj : j < l.length), (flat l)[j * 3]? = some (.string (l[j]).key) ∧ (flat l)[j * 3 + 1]? = some (.string (l[j]).name) ∧ (flat l)[j * 3 + 2]? = some (.int .i64 (l[j]).node) := by
    intro l
    induction l with
    | nil => intro j hj; simp at hj
    | cons y l ih =>
      intro j hj
      cases j with
      | zero => simp [flat, cellsOf]
      | succ j =>
        have := ih j (by simpa using hj)
        rw [show (j + 1) * 3 = j * 3 + 1 + 1 + 1 by omega]
        simpa [flat, cellsOf] using this
  have h1 := key its j hj
  exact ⟨by rw [h.cellAt _ (by omega)]; exact h1.1, by rw [h.cellAt _ (by omega)]; exact h1.2.1, by rw [h.cellAt _ (by omega)]; exact h1.2.2⟩

theorem cell_three_new (w : World) (a b c : Value) (t : TypeId) : ∀ j u, [a, b, c][j]? = some u → (w.alloc (.cells #[a, b, c] t)).cell? ((⟨w.heap.size, 0, none⟩ : Addr).add j) = some u := by
  intro j u hj
  rw [Addr.add_lit, Nat.zero_add, cell_of_row _ _ j _ t (0, 0) (heap_alloc_new w _)]
  simpa using hj
theorem flat_snoc (a : List Item) (m : Item) : flat a ++ [.string m.key, .string m.name, .int .i64 m.node] = flat (a ++ [m]) := by rw [flat_append]; rfl

theorem split_at {l : List Item} {i : Nat} {x : Item} (hx : l[i]? = some x) : l = l.take i ++ x :: l.drop (i + 1) := by
  obtain ⟨hlt, rfl⟩ := List.getElem?_eq_some_iff.1 hx
  rw [← List.drop_eq_getElem_cons hlt, List.take_append_drop]
theorem take_at {l : List Item} {i : Nat} {x : Item} (hx : l[i]? = some x) : l.take (i + 1) = l.take i ++ [x] := by
  rw [List.take_add_one, hx]; rfl
theorem drop_at {l : List Item} {i : Nat} {x : Item} (hx : l[i]? = some x) : l.drop i = x :: l.drop (i + 1) := by
  obtain ⟨hlt, rfl⟩ := List.getElem?_eq_some_iff.1 hx
  rw [← List.drop_eq_getElem_cons hlt]

set_option maxRecDepth 100000 in
set_option maxHeartbeats 1000000 in
theorem refGet_calls (base : Nat) (w0 : World) (K0 : Nat → Nat) (w : World) (rs : List Res) (vm : Value) (l : List Item) (key : ByteArray) (H : Hold base w0 K0 w rs) (hm : rowP vm l ∈ rs) (hb : base ≤ w.heap.size) (hl : l.length ≤ 1000) :
    Calls Try.prog 11 #[vm, .string key] w fun e w' => e = .returned (getV (getL l key)) ∧ Hold base w0 K0 w' rs := by
  have r0 : w.ownsRow base 61 3 vm l.length (flat l) := H.rowAt hm
  obtain ⟨n, hn⟩ : ∃ n, l.length = n := ⟨_, rfl⟩
  rw [hn] at r0 hl
  obtain ⟨p, cap, hvm⟩ := row_len r0
  rw [hvm]
  rw [hvm] at r0
  have R0 := hide r0
  have HH := hide H
  have Hn := hide hn
  clear r0 H hm hvm hn
  go_enter Try.func11, Try.ntmps11
  go_wp2_with fail
  go_loopg [6] (n + 1) (fun g vi wr => ∃ i : Nat, n - i < g ∧ i ≤ n ∧ vi = .int .i64 i ∧ Hid (∀ x ∈ l.take i, x.key ≠ key) ∧ wr = w.alloc (.cells #[.string ⟨#[]⟩, .int .i64 0] 33))
  case atStart => exact ⟨0, by omega, by omega, rfl, fun x hx => by simp at hx, rfl⟩
  case round =>
    obtain ⟨i, hg, hi, rfl, HK, rfl⟩ := hrel
    by_cases hin : i < n
    · have hz : (i : Int) < (n : Int) := by omega
      have r1 := unhide R0
      obtain ⟨g, cap', e1, _⟩ := row_shape r1 (by omega)
      injection e1 with e1 _ e2
      subst e1 e2
      obtain ⟨x, hx⟩ : ∃ x, l[i]? = some x := ⟨_, List.getElem?_eq_getElem (by have := unhide Hn; omega)⟩
      obtain ⟨s1, s2, s3⟩ := pair_cell (r1.alloc (.cells #[.string ⟨#[]⟩, .int .i64 0] 33)) hx
      obtain ⟨t1, t2, t3⟩ := pair_cell r1 hx
      have Hx := hide hx
      clear r1 hx
      by_cases hk : x.key = key
      · have hb1 : (x.key.toList == key.toList) = true := by rw [hk]; simp
        have hres : getL l key = some x := by
          have hx := unhide Hx
          have e := split_at hx
          have h1 : getL l key = getL (l.take i ++ x :: l.drop (i + 1)) key := by rw [← e]
          rw [h1]
          unfold getL
          rw [List.find?_append, List.find?_eq_none.2 (fun y hy => by simpa using unhide HK y hy)]
          simp [hk]
        have Hres := hide hres
        clear hres
        go_wp2_with fail
        refine bodyPost_ret (results_two (p := 4) (u := 5) rfl _ _ w.heap.size 33 (.string x.name) (.int .i64 x.node) (v := .bool true) rfl rfl (heap_alloc_new w _)) rfl ?_
        exact ⟨by rw [unhide Hres]; rfl, (unhide HH).alloc _⟩
      · have hb1 : (x.key.toList == key.toList) = false := by
          rw [beq_eq_false_iff_ne, Ne, toList_same]; exact hk
        have HK' : Hid (∀ y ∈ l.take (i + 1), y.key ≠ key) := fun y hy => by
          rw [List.take_add_one, unhide Hx] at hy
          simp at hy
          rcases hy with h | rfl
          · exact unhide HK y h
          · exact hk
        go_wp2_with fail
        go_roundg (n - i)
        case measure => omega
        case rel => exact ⟨i + 1, by omega, by omega, by simp, HK', rfl⟩
    · have hz : ¬ ((i : Int) < (n : Int)) := by omega
      have hres : getL l key = none := getL_none (fun x hx => unhide HK x (by rw [List.take_of_length_le (by have := unhide Hn; omega)]; exact hx))
      have Hres := hide hres
      clear hres
      go_wp2_with fail
      refine bodyPost_ret (results_two (p := 4) (u := 5) rfl _ _ w.heap.size 33 (.string ⟨#[]⟩) (.int .i64 0) (v := .bool false) rfl rfl (heap_alloc_new w _)) rfl ?_
      exact ⟨by rw [unhide Hres]; rfl, (unhide HH).alloc _⟩

/-- How a call ends that makes a row. -/
def PairsEnd (base : Nat) (w0 : World) (K0 : Nat → Nat) (l : List Item) (rs : List Res) (e : Ending) (w' : World) : Prop :=
  ∃ v, e = .returned v ∧ Hold base w0 K0 w' (rowP v l :: rs)

set_option maxRecDepth 100000 in
set_option maxHeartbeats 1000000 in
theorem refDrop_calls (base : Nat) (w0 : World) (K0 : Nat → Nat) (w : World) (rs : List Res) (vm : Value) (l : List Item) (key : ByteArray) (H : Hold base w0 K0 w rs) (hm : rowP vm l ∈ rs) (hb : base ≤ w.heap.size) (hl : l.length ≤ 1000) :
    Calls Try.prog 13 #[vm, .string key] w fun e w' => PairsEnd base w0 K0 (dropL l key) rs e w' := by
  have r0 : w.ownsRow base 61 3 vm l.length (flat l) := H.rowAt hm
  obtain ⟨n, hn⟩ : ∃ n, l.length = n := ⟨_, rfl⟩
  rw [hn] at r0 hl
  obtain ⟨p, cap, hvm⟩ := row_len r0
  rw [hvm]
  rw [hvm] at r0 hm
  obtain ⟨i0, hi0, hz0, hz1, hz2⟩ := info_parts info61
  have HH := hide H
  have Hn := hide hn
  have Hm := hide hm
  have hbs := hb
  clear r0 H hm hvm hn
  go_enter Try.func13, Try.ntmps13
  go_wp2_with fail
  go_loopg [5, 6] (n + 1) (fun g v5 vi wr => ∃ (i : Nat) (out : List Item), n - i < g ∧ i ≤ n ∧ vi = .int .i64 i ∧ base ≤ wr.heap.size ∧ out.length ≤ i ∧ Hid (out = dropL (l.take i) key) ∧ Hid (Hold base w0 K0 wr (rowP v5 out :: rs)))
  case atStart => exact ⟨0, [], by omega, by omega, rfl, hb, by simp, rfl, (unhide HH).nilRow 61 3⟩
  case round =>
    obtain ⟨i, out, hg, hi, rfl, hbr, hol, HO, HR⟩ := hrel
    by_cases hin : i < n
    · have hz : (i : Int) < (n : Int) := by omega
      have r1 : wr.ownsRow base 61 3 (.slice p n cap) n (flat l) := by have := (unhide HR).rowAt (List.mem_cons_of_mem _ (unhide Hm)); rwa [unhide Hn] at this
      obtain ⟨g, cap', e1, _⟩ := row_shape r1 (by omega)
      injection e1 with e1 _ e2
      subst e1 e2
      obtain ⟨x, hx⟩ : ∃ x, l[i]? = some x := ⟨_, List.getElem?_eq_getElem (by have := unhide Hn; omega)⟩
      obtain ⟨t1, t2, t3⟩ := pair_cell r1 hx
      have Hx := hide hx
      clear r1 hx
      by_cases hk : x.key = key
      · have hb1 : (x.key.toList == key.toList) = true := by rw [hk]; simp
        have HO' : Hid (out = dropL (l.take (i + 1)) key) := by
          have h1 := unhide HO
          show out = _
          rw [take_at (unhide Hx), dropL_append, ← h1]
          simp [dropL, hk]
        go_wp2_with fail
        go_roundg (n - i)
        case measure => omega
        case rel => exact ⟨i + 1, out, by omega, by omega, by simp, hbr, by omega, HO', HR⟩
      · have hb1 : (x.key.toList == key.toList) = false := by
          rw [beq_eq_false_iff_ne, Ne, toList_same]; exact hk
        obtain ⟨no, hno⟩ : ∃ no, out.length = no := ⟨_, rfl⟩
        have H1 := (unhide HR).alloc (.cells #[.string x.key, .string x.name, .int .i64 x.node] 61)
        have r2 : (wr.alloc (.cells #[.string x.key, .string x.name, .int .i64 x.node] 61)).ownsRow base 61 3 u5 no (flat out) := by rw [← hno]; exact H1.rowAt (List.mem_cons_self ..)
        have HO' : Hid (out ++ [x] = dropL (l.take (i + 1)) key) := by
          have h1 := unhide HO
          show out ++ [x] = _
          rw [take_at (unhide Hx), dropL_append, ← h1]
          simp [dropL, hk]
        have Hr2 := hide r2
        have HH1 := hide H1
        have Hno := hide hno
        rw [hno] at hol
        clear r2 H1 hno
        go_wp2_with (at_builtin; refine wpList_append_own_at _ rfl _ _ 27 rfl base 61 i0 (.agg #[.string ⟨#[]⟩, .string ⟨#[]⟩, .int .i64 0]) 3 40 Try.underlying27 hi0 hz0 hz1 hz2 rfl (by decide) _ _ _ rfl (unhide Hr2) ⟨wr.heap.size, 0, none⟩ 1 1 [.string x.key, .string x.name, .int .i64 x.node] rfl rfl (cell_three_new wr (.string x.key) (.string x.name) (.int .i64 x.node) 61) (fun y hy => by simp at hy; rcases hy with rfl | rfl | rfl <;> rfl) (by unfold maxLen; omega) (by omega) (by simp; omega) ?_; intro v4 w4 hown4 hgrow4 hnil4 hat4; have h6 := hgrow4.size; have H5 := hide ((unhide HH1).grow [] hgrow4 hown4 (by rcases hat4 with h | h; exact .inl h; exact .inr ⟨_, h, Nat.le_refl _⟩)); clear hown4 hgrow4 hnil4 hat4)
        go_roundg (n - i)
        case measure => omega
        case rel => exact ⟨i + 1, out ++ [x], by omega, by omega, by simp, by simp at h6; omega, by simp; have := unhide Hno; omega, HO', by
          have h7 := unhide H5
          rw [flat_snoc] at h7
          show Hold base w0 K0 w4 (.row v4 61 3 (out ++ [x]).length (flat (out ++ [x])) :: rs)
          rw [List.length_append, unhide Hno]
          exact h7⟩
    · have hz : ¬ ((i : Int) < (n : Int)) := by omega
      have HO' : Hid (out = dropL l key) := by
        have h1 := unhide HO
        rw [List.take_of_length_le (by have := unhide Hn; omega)] at h1
        exact h1
      go_wp2_with fail
      go_ret
      refine ⟨u5, rfl, ?_⟩
      rw [← unhide HO']
      exact unhide HR
end Go.Proofs.Ytklnonmmamdecab
