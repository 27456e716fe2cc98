/-
  The contract of slices.symMergeCmpFunc at marks, over the seat's program: two rows in order become one, those of one class as they stood.
-/
import Derived.Test.YtdflokjpgbeniaaDoorMerge
import Derived.Test.YtdflokjpgbeniaaDoorMergeFacts
namespace Go.Proofs.YtdflokjpgbeniaaDoor
open Go.RowKit Go.Sort

theorem cmp_quiet (x y : Int) (w : World) (n : Nat) : Calls Tryd.prog 47 #[.int .i32 x, .int .i32 y] (w.drewN n) fun e w' => e = .returned (.int .i64 (cmpZ x y)) ∧ w' = w.drewN n := cmp_calls x y (w.drewN n)

theorem regroup (P A B S : List Int) (y : Int) : P ++ (A ++ B) ++ [y] ++ S = (P ++ A) ++ (B ++ y :: ([] ++ S)) := by simp
theorem at_part (A R S : List Int) (t : Nat) (ht : t < R.length) : (A ++ R ++ S)[A.length + t]? = R[t]? := by
  rw [List.append_assoc, List.getElem?_append_right (by omega), Nat.add_sub_cancel_left, List.getElem?_append_left ht]
theorem take_last {R : List Int} {t : Nat} {y : Int} (h : R[t]? = some y) : R.take (t + 1) = R.take t ++ [y] := by
  rw [List.take_add_one, h]
  rfl
theorem drop_first {R : List Int} {t : Nat} {y : Int} (h : R[t]? = some y) : R.drop t = y :: R.drop (t + 1) := by
  obtain ⟨ht, hy⟩ := List.getElem?_eq_some_iff.1 h
  rw [List.drop_eq_getElem_cons ht, hy]
theorem swap_adj (A B : List Int) (x y : Int) : ((A ++ x :: y :: B).set A.length y).set (A.length + 1) x = A ++ y :: x :: B := by
  rw [List.set_append_right _ _ (Nat.le_refl _), Nat.sub_self, List.set_cons_zero, List.set_append_right _ _ (by omega), Nat.add_sub_cancel_left]
  rfl
theorem swap_adj' (A B : List Int) (x y : Int) : ((A ++ x :: y :: B).set (A.length + 1) x).set A.length y = A ++ y :: x :: B := by
  rw [List.set_append_right _ _ (by omega), Nat.add_sub_cancel_left, List.set_append_right _ _ (Nat.le_refl _), Nat.sub_self]
  rfl
theorem at_zero (A B : List Int) (x : Int) : (A ++ x :: B)[A.length]? = some x := by
  rw [List.getElem?_append_right (Nat.le_refl _), Nat.sub_self]
  rfl
theorem at_one (A B : List Int) (x y : Int) : (A ++ x :: y :: B)[A.length + 1]? = some y := by
  rw [List.getElem?_append_right (by omega), Nat.add_sub_cancel_left]
  rfl

set_option maxRecDepth 100000 in
set_option maxHeartbeats 1000000 in
theorem symMerge_one (w0 : World) (g cap : Nat) (tail : List Value) (P : List Int) (x : Int) (R S : List Int) (w : World) (hx : Mark x) (hR : Srt R) (hR0 : R ≠ []) (hlen : (P ++ [x] ++ R ++ S).length ≤ 1000) (h : RowAt w0 g tail (P ++ [x] ++ R ++ S) w) :
    Calls Tryd.prog 77 #[.slice (some ⟨g, 0, none⟩) (P ++ [x] ++ R ++ S).length cap, .int .i64 P.length, .int .i64 (P ++ [x]).length, .int .i64 (P ++ [x] ++ R).length, .func (.func 47) #[] #[]] w fun e w' =>
      e = .returned (.tuple #[]) ∧ RowAt w0 g tail (P ++ sortM ([x] ++ R) ++ S) w' := by
  obtain ⟨N, hN⟩ : ∃ N, (P ++ [x] ++ R ++ S).length = N := ⟨_, rfl⟩
  obtain ⟨a, hA⟩ : ∃ a, P.length = a := ⟨_, rfl⟩
  obtain ⟨m, hM⟩ : ∃ m, (P ++ [x]).length = m := ⟨_, rfl⟩
  obtain ⟨b, hB⟩ : ∃ b, (P ++ [x] ++ R).length = b := ⟨_, rfl⟩
  obtain ⟨T, hT⟩ : ∃ T, P ++ sortM ([x] ++ R) ++ S = T := ⟨_, rfl⟩
  obtain ⟨zs, hZ⟩ : ∃ zs, P ++ [x] ++ R ++ S = zs := ⟨_, rfl⟩
  have hr0 := List.length_pos_iff.2 hR0
  have hm : m = a + 1 := by rw [← hM, ← hA]; simp
  have hb : b = m + R.length := by rw [← hB, ← hM]; simp; omega
  have hNb : b ≤ N := by rw [← hN, ← hB]; simp
  rw [hN, hA, hM, hB, hT]
  rw [hN] at hlen
  rw [hZ] at h
  have hza : zs[a]? = some x := by
    rw [← hZ, ← hA]
    simp
  have hmz : (m : Int) = (a : Int) + 1 := by omega
  have hm1 : (m : Int) - (a : Int) = 1 := by omega
  have hmb : m < b := by omega
  have HR := hide hR
  have Hx := hide hx
  have H := hide h
  have HZ : Hid (P ++ [x] ++ R ++ S = zs ∧ P.length = a ∧ b = m + R.length ∧ zs.length = N) := ⟨hZ, hA, hb, by rw [← hZ]; exact hN⟩
  have HT := hide hT
  have Hza := hide hza
  have Hm := hide hm
  clear hR hx h hZ hA hM hB hN hT hza hR0 hr0 hb hm hmz
  go_enter Tryd.func77, Tryd.ntmps77
  go_wp2_with fail
  go_loopg [10, 11] (b + 1) (fun k vi vj wr => ∃ i j : Nat, j - i ≤ k ∧ m ≤ i ∧ i ≤ j ∧ j ≤ b ∧ vi = .int .i64 i ∧ vj = .int .i64 j ∧ Hid ((i = m ∨ ∃ y, zs[i - 1]? = some y ∧ classZ y < classZ x) ∧ (j = b ∨ ∃ y, zs[j]? = some y ∧ ¬ classZ y < classZ x)) ∧ Hid (RowAt w0 g tail zs wr))
  case atStart => exact ⟨m, b, by omega, by omega, by omega, by omega, rfl, rfl, ⟨.inl rfl, .inl rfl⟩, H⟩
  case round =>
    obtain ⟨i, j, hk, hi1, hij, hjb, rfl, rfl, HS, HW⟩ := hrel
    by_cases hlt : i < j
    · have hltz : (i : Int) < (j : Int) := by omega
      obtain ⟨q, hq⟩ : ∃ q, q = (i + j) / 2 := ⟨_, rfl⟩
      have hqz : ((i : Int) + (j : Int)) / 2 = (q : Int) := by omega
      have hq1 : i ≤ q := by omega
      have hq2 : q < j := by omega
      have hqN : (q : Int) < (N : Int) := by omega
      have haN : (a : Int) < (N : Int) := by have := unhide Hm; omega
      obtain ⟨y, hy⟩ : ∃ y, zs[q]? = some y := ⟨_, List.getElem?_eq_getElem (by have := (unhide HZ).2.2.2; omega)⟩
      have c1 := (unhide HW).cell hy
      have c2 := (unhide HW).cell (unhide Hza)
      have hc := fun n => cmp_quiet y x wr n
      have Hy := hide hy
      have Hd : Hid (cmpZ y x = classZ y - classZ x) := rfl
      clear hy hq
      generalize cmpZ y x = c at *
      by_cases hc0 : c < 0
      · go_wp2_with fail
        go_quiet (refine Calls.quiet_of_same (hc _))
        go_wp2_with fail
        go_roundg (j - (q + 1))
        case measure => omega
        case rel => exact ⟨q + 1, j, by omega, by omega, by omega, hjb, by simp, rfl, ⟨.inr ⟨y, by rw [Nat.add_sub_cancel]; exact unhide Hy, by have := unhide Hd; omega⟩, (unhide HS).2⟩, (unhide HW).drew _⟩
      · go_wp2_with fail
        go_quiet (refine Calls.quiet_of_same (hc _))
        go_wp2_with fail
        go_roundg (q - i)
        case measure => omega
        case rel => exact ⟨i, q, by omega, hi1, by omega, by omega, rfl, rfl, ⟨(unhide HS).1, .inr ⟨y, unhide Hy, by have := unhide Hd; omega⟩⟩, (unhide HW).drew _⟩
    · have hltz : ¬ (i : Int) < (j : Int) := by omega
      obtain rfl : i = j := by omega
      -- the two parts of the row behind
      obtain ⟨hZ, hA, hb, hzN⟩ := unhide HZ
      have hm := unhide Hm
      have hzat : ∀ t, t < R.length → zs[m + t]? = R[t]? := fun t ht => by
        have h1 := at_part (P ++ [x]) R S t ht
        rw [hZ] at h1
        rw [← h1]
        congr 1
        rw [List.length_append]
        simp only [List.length_cons, List.length_nil]
        omega
      obtain ⟨t, ht⟩ : ∃ t, i = m + t := ⟨i - m, by omega⟩
      have h1 : R.take t = [] ∨ ∃ A y, R.take t = A ++ [y] ∧ classZ y < classZ x := by
        rcases (unhide HS).1 with h1 | ⟨y, h1, h2⟩
        · obtain rfl : t = 0 := by omega
          exact .inl rfl
        · rcases Nat.eq_zero_or_pos t with h0 | h0
          · subst h0
            exact .inl rfl
          · obtain ⟨t', rfl⟩ : ∃ t', t = t' + 1 := ⟨t - 1, by omega⟩
            rw [show i - 1 = m + t' by omega, hzat t' (by omega)] at h1
            exact .inr ⟨_, y, take_last h1, h2⟩
      have h2 : R.drop t = [] ∨ ∃ y B, R.drop t = y :: B ∧ ¬ classZ y < classZ x := by
        rcases (unhide HS).2 with h1 | ⟨y, h1, h2⟩
        · exact .inl (List.drop_eq_nil_of_le (by omega))
        · rcases Nat.lt_or_ge t R.length with h3 | h3
          · rw [ht, hzat t h3] at h1
            exact .inr ⟨y, _, drop_first h1, h2⟩
          · exact .inl (List.drop_eq_nil_of_le h3)
      have htl : (R.take t).length = t := by rw [List.length_take]; omega
      have hfin := merge_one (unhide Hx) (by rw [List.take_append_drop]; exact unhide HR) h1 h2
      rw [List.take_append_drop] at hfin
      have Hfin : Hid (P ++ R.take t ++ x :: (R.drop t ++ S) = T) := by
        show _ = _
        rw [← unhide HT, ← hfin]
        simp
      have Hst : Hid (zs = P ++ [] ++ x :: (R.take t ++ (R.drop t ++ S))) := by
        show _ = _
        rw [← hZ, ← List.append_assoc (R.take t), List.take_append_drop]
        simp
      have hiz : (i : Int) - 1 = ((a + t : Nat) : Int) := by omega
      have htN : a + t + 1 ≤ N := by omega
      have HA := hide hA
      have Hrt := hide htl
      clear hZ hA hb hzat h1 h2 hfin HT HZ Hza HS HR Hx htl hm1 hm hzN
      generalize R.take t = Ra at *
      generalize R.drop t = Rb at *
      go_wp2_with fail
      go_loopg [13] (t + 1) (fun k vk wr => ∃ (u : Nat) (A B : List Int), k = t + 1 - u ∧ u ≤ t ∧ vk = .int .i64 ((a + u : Nat) : Int) ∧ Hid (Ra = A ++ B ∧ A.length = u) ∧ Hid (RowAt w0 g tail (P ++ A ++ x :: (B ++ (Rb ++ S))) wr))
      case atStart => exact ⟨0, [], Ra, rfl, by omega, rfl, ⟨rfl, rfl⟩, by show RowAt _ _ _ _ _; rw [← unhide Hst]; exact unhide HW⟩
      case round =>
        obtain ⟨u, A, B, hk2, hut, rfl, HS2, HW2⟩ := hrel
        by_cases hlu : u < t
        · have hluz : ((a + u : Nat) : Int) < ((a + t : Nat) : Int) := by omega
          obtain ⟨hAB, hAl⟩ := unhide HS2
          obtain ⟨y, B2, rfl⟩ : ∃ y B2, B = y :: B2 := by
            cases B with
            | nil =>
              have := unhide Hrt
              rw [hAB, List.append_nil] at this
              omega
            | cons y B2 => exact ⟨y, B2, rfl⟩
          have hpl : (P ++ A).length = a + u := by rw [List.length_append, unhide HA, hAl]
          obtain ⟨k0, hk0⟩ : ∃ k0, k0 = a + u := ⟨_, rfl⟩
          rw [← hk0] at hpl hluz ⊢
          have c1 := (unhide HW2).cell (at_zero (P ++ A) (y :: B2 ++ (Rb ++ S)) x)
          have c2 := (unhide HW2).cell (at_one (P ++ A) (B2 ++ (Rb ++ S)) x y)
          rw [hpl] at c1 c2
          obtain ⟨k1, hk1⟩ : ∃ k1, k1 = k0 + 1 := ⟨_, rfl⟩
          rw [← hk1] at c2
          have f1 := (unhide HW2).frozen k0
          have f2 := (unhide HW2).frozen k1
          have z1 : ((k0 : Int) + 1).toNat = k1 := by omega
          have z2 : (k0 : Int) + 1 < (N : Int) := by omega
          have z3 : (k0 : Int) < (N : Int) := by omega
          have z4 : 0 ≤ (k0 : Int) + 1 := by omega
          have hne : k0 ≠ k1 := by omega
          have Hpl := hide hpl
          have Hk : Hid (k0 = a + u ∧ k1 = k0 + 1) := ⟨hk0, hk1⟩
          have Hnew : Hid (Ra = (A ++ [y]) ++ B2 ∧ (A ++ [y]).length = u + 1) := ⟨by rw [hAB]; simp, by simp [hAl]⟩
          clear hpl hk0 hk1 hAB hAl
          go_wp2_with fail
          go_big_region
          all_goals go_wp2
          go_roundg (t - u)
          case measure => omega
          case rel =>
            have h0 := unhide Hk
            refine ⟨u + 1, A ++ [y], B2, by omega, by omega, by show Value.int .i64 ((k0 : Int) + 1) = _; congr 1; omega, unhide Hnew, ?_⟩
            show RowAt _ _ _ _ _
            have h3 := ((unhide HW2).set (k := (P ++ A).length) (by simp) y).set (k := (P ++ A).length + 1) (by simp; omega) x
            have h4 := swap_adj (P ++ A) (B2 ++ (Rb ++ S)) x y
            rw [List.cons_append, h4, unhide Hpl, ← h0.2] at h3
            have h5 : RowAt w0 g tail _ ((wr.setCell ⟨g, k0, none⟩ (.int .i32 y)).setCell ⟨g, k1, none⟩ (.int .i32 x)).drew := h3.drew 1
            simpa using h5
        · obtain rfl : u = t := by omega
          have hluz : ¬ ((a + u : Nat) : Int) < ((a + u : Nat) : Int) := by omega
          have hB : B = [] := by
            obtain ⟨hAB, hAl⟩ := unhide HS2
            have := unhide Hrt
            rw [hAB, List.length_append] at this
            exact List.eq_nil_of_length_eq_zero (by omega)
          subst hB
          have Hend : Hid (RowAt w0 g tail T wr) := by
            have h3 := unhide HW2
            have h4 : Ra = A := by have := (unhide HS2).1; simpa using this
            rw [List.nil_append, ← h4, unhide Hfin] at h3
            exact h3
          go_wp2_with fail
          refine bodyPost_ret (results_none rfl _ _ _) rfl ?_
          exact ⟨rfl, unhide Hend⟩

set_option maxRecDepth 100000 in
set_option maxHeartbeats 1000000 in
theorem symMerge_two (w0 : World) (g cap : Nat) (tail : List Value) (P : List Int) (y : Int) (L S : List Int) (w : World) (hy : Mark y) (hL : Srt L) (hL0 : 2 ≤ L.length) (hlen : (P ++ L ++ [y] ++ S).length ≤ 1000) (h : RowAt w0 g tail (P ++ L ++ [y] ++ S) w) :
    Calls Tryd.prog 77 #[.slice (some ⟨g, 0, none⟩) (P ++ L ++ [y] ++ S).length cap, .int .i64 P.length, .int .i64 (P ++ L).length, .int .i64 (P ++ L ++ [y]).length, .func (.func 47) #[] #[]] w fun e w' =>
      e = .returned (.tuple #[]) ∧ RowAt w0 g tail (P ++ sortM (L ++ [y]) ++ S) w' := by
  obtain ⟨N, hN⟩ : ∃ N, (P ++ L ++ [y] ++ S).length = N := ⟨_, rfl⟩
  obtain ⟨a, hA⟩ : ∃ a, P.length = a := ⟨_, rfl⟩
  obtain ⟨m, hM⟩ : ∃ m, (P ++ L).length = m := ⟨_, rfl⟩
  obtain ⟨b, hB⟩ : ∃ b, (P ++ L ++ [y]).length = b := ⟨_, rfl⟩
  obtain ⟨T, hT⟩ : ∃ T, P ++ sortM (L ++ [y]) ++ S = T := ⟨_, rfl⟩
  obtain ⟨zs, hZ⟩ : ∃ zs, P ++ L ++ [y] ++ S = zs := ⟨_, rfl⟩
  have hm : m = a + L.length := by rw [← hM, ← hA]; simp
  have hb : b = m + 1 := by rw [← hB, ← hM]; simp; omega
  have hNb : b ≤ N := by rw [← hN, ← hB]; simp
  rw [hN, hA, hM, hB, hT]
  rw [hN] at hlen
  rw [hZ] at h
  have hza : zs[m]? = some y := by
    rw [← hZ, ← hM]
    simp
  have hm1 : ((m : Int) - (a : Int) == 1) = false := by simpa using (by omega : ¬ (m : Int) - (a : Int) = 1)
  have hm2 : (b : Int) - (m : Int) = 1 := by omega
  have ham : a + 2 ≤ m := by omega
  have HL := hide hL
  have Hy := hide hy
  have H := hide h
  have HZ : Hid (P ++ L ++ [y] ++ S = zs ∧ P.length = a ∧ m = a + L.length ∧ zs.length = N) := ⟨hZ, hA, hm, by rw [← hZ]; exact hN⟩
  have HT := hide hT
  have Hza := hide hza
  have Hb := hide hb
  clear hL hy h hZ hA hM hB hN hT hza hL0 hb hm
  go_enter Tryd.func77, Tryd.ntmps77
  go_wp2_with fail
  go_loopg [14, 15] (b + 1) (fun k vi vj wr => ∃ i j : Nat, j - i ≤ k ∧ a ≤ i ∧ i ≤ j ∧ j ≤ m ∧ vi = .int .i64 i ∧ vj = .int .i64 j ∧ Hid ((i = a ∨ ∃ x, zs[i - 1]? = some x ∧ ¬ classZ y < classZ x) ∧ (j = m ∨ ∃ x, zs[j]? = some x ∧ classZ y < classZ x)) ∧ Hid (RowAt w0 g tail zs wr))
  case atStart => exact ⟨a, m, by omega, by omega, by omega, by omega, rfl, rfl, ⟨.inl rfl, .inl rfl⟩, H⟩
  case round =>
    obtain ⟨i, j, hk, hi1, hij, hjb, rfl, rfl, HS, HW⟩ := hrel
    have hbm : b = m + 1 := unhide Hb
    have hbz : m + 1 ≤ N := by omega
    clear hbm
    by_cases hlt : i < j
    · have hltz : (i : Int) < (j : Int) := by omega
      obtain ⟨q, hq⟩ : ∃ q, q = (i + j) / 2 := ⟨_, rfl⟩
      have hqz : ((i : Int) + (j : Int)) / 2 = (q : Int) := by omega
      have hq1 : i ≤ q := by omega
      have hq2 : q < j := by omega
      have hqN : (q : Int) < (N : Int) := by omega
      have haN : (m : Int) < (N : Int) := by omega
      obtain ⟨x, hx⟩ : ∃ x, zs[q]? = some x := ⟨_, List.getElem?_eq_getElem (by have := (unhide HZ).2.2.2; omega)⟩
      have c1 := (unhide HW).cell hx
      have c2 := (unhide HW).cell (unhide Hza)
      have hc := fun n => cmp_quiet y x wr n
      have Hx := hide hx
      have Hd : Hid (cmpZ y x = classZ y - classZ x) := rfl
      clear hx hq
      generalize cmpZ y x = c at *
      by_cases hc0 : c < 0
      · go_wp2_with fail
        go_quiet (refine Calls.quiet_of_same (hc _))
        go_wp2_with fail
        go_roundg (q - i)
        case measure => omega
        case rel => exact ⟨i, q, by omega, hi1, by omega, by omega, rfl, rfl, ⟨(unhide HS).1, .inr ⟨x, unhide Hx, by have := unhide Hd; omega⟩⟩, (unhide HW).drew _⟩
      · have hd0 : decide (c < 0) = false := decide_eq_false hc0
        go_wp2_with fail
        go_quiet (refine Calls.quiet_of_same (hc _))
        go_wp2_with fail
        go_roundg (j - (q + 1))
        case measure => omega
        case rel => exact ⟨q + 1, j, by omega, by omega, by omega, hjb, by simp, rfl, ⟨.inr ⟨x, by rw [Nat.add_sub_cancel]; exact unhide Hx, by have := unhide Hd; omega⟩, (unhide HS).2⟩, (unhide HW).drew _⟩
    · have hltz : ¬ (i : Int) < (j : Int) := by omega
      obtain rfl : i = j := by omega
      obtain ⟨hZ, hA, hm, hzN⟩ := unhide HZ
      have hzat : ∀ t, t < L.length → zs[a + t]? = L[t]? := fun t ht => by
        have h1 := at_part P L ([y] ++ S) t ht
        rw [← List.append_assoc, hZ, hA] at h1
        exact h1
      obtain ⟨t, ht⟩ : ∃ t, i = a + t := ⟨i - a, by omega⟩
      have h1 : L.take t = [] ∨ ∃ A x, L.take t = A ++ [x] ∧ ¬ classZ y < classZ x := by
        rcases (unhide HS).1 with h1 | ⟨x, h1, h2⟩
        · obtain rfl : t = 0 := by omega
          exact .inl rfl
        · rcases Nat.eq_zero_or_pos t with h0 | h0
          · subst h0
            exact .inl rfl
          · obtain ⟨t', rfl⟩ : ∃ t', t = t' + 1 := ⟨t - 1, by omega⟩
            rw [show i - 1 = a + t' by omega, hzat t' (by omega)] at h1
            exact .inr ⟨_, x, take_last h1, h2⟩
      have h2 : L.drop t = [] ∨ ∃ x B, L.drop t = x :: B ∧ classZ y < classZ x := by
        rcases (unhide HS).2 with h1 | ⟨x, h1, h2⟩
        · exact .inl (List.drop_eq_nil_of_le (by omega))
        · rcases Nat.lt_or_ge t L.length with h3 | h3
          · rw [ht, hzat t h3] at h1
            exact .inr ⟨x, _, drop_first h1, h2⟩
          · exact .inl (List.drop_eq_nil_of_le h3)
      have htl : (L.drop t).length = m - i := by rw [List.length_drop]; omega
      have hla : (P ++ L.take t).length = i := by rw [List.length_append, List.length_take]; omega
      have hfin := merge_two (unhide Hy) (by rw [List.take_append_drop]; exact unhide HL) h1 h2
      rw [List.take_append_drop] at hfin
      have Hfin : Hid ((P ++ L.take t) ++ y :: (L.drop t ++ S) = T) := by
        show _ = _
        rw [← unhide HT, ← hfin]
        simp
      have Hst : Hid (zs = (P ++ L.take t) ++ (L.drop t ++ y :: ([] ++ S))) := by
        show _ = _
        rw [← regroup, List.take_append_drop, hZ]
      have Hla := hide hla
      have Hrt := hide htl
      clear hZ hA hm hzat h1 h2 hfin HT HZ Hza HS HL Hy htl hm1 hzN hla ht
      generalize P ++ L.take t = Q at *
      generalize L.drop t = Lb at *
      go_wp2_with fail
      go_loopg [17] (m + 1) (fun k vk wr => ∃ (u : Nat) (A B : List Int), u - i ≤ k ∧ i ≤ u ∧ u ≤ m ∧ vk = .int .i64 u ∧ Hid (Lb = A ++ B ∧ A.length + i = u) ∧ Hid (RowAt w0 g tail (Q ++ (A ++ y :: (B ++ S))) wr))
      case atStart => exact ⟨m, Lb, [], by omega, by omega, by omega, rfl, ⟨by simp, by have := unhide Hrt; omega⟩, by show RowAt _ _ _ _ _; rw [← unhide Hst]; exact unhide HW⟩
      case round =>
        obtain ⟨u, A, B, hk2, hut, hum, rfl, HS2, HW2⟩ := hrel
        by_cases hlu : i < u
        · have hluz : (i : Int) < (u : Int) := by omega
          obtain ⟨hAB, hAl⟩ := unhide HS2
          obtain ⟨A2, x, rfl⟩ : ∃ A2 x, A = A2 ++ [x] := by
            rcases last_or A with h0 | h0
            · subst h0
              simp at hAl
              omega
            · exact h0
          rw [List.length_append, List.length_singleton] at hAl
          have e0 : Q ++ ((A2 ++ [x]) ++ y :: (B ++ S)) = (Q ++ A2) ++ x :: y :: (B ++ S) := by simp
          have hpl : (Q ++ A2).length + 1 = u := by rw [List.length_append, unhide Hla]; omega
          have HW3 : Hid (RowAt w0 g tail ((Q ++ A2) ++ x :: y :: (B ++ S)) wr) := by
            show RowAt _ _ _ _ _
            rw [← e0]
            exact unhide HW2
          have c1 := (unhide HW3).cell (at_zero (Q ++ A2) (y :: (B ++ S)) x)
          have c2 := (unhide HW3).cell (at_one (Q ++ A2) (B ++ S) x y)
          obtain ⟨k0, hk0⟩ : ∃ k0, k0 + 1 = u := ⟨u - 1, by omega⟩
          have hpl0 : (Q ++ A2).length = k0 := by omega
          rw [hpl] at c2
          rw [hpl0] at c1
          have f1 := (unhide HW3).frozen k0
          have f2 := (unhide HW3).frozen u
          have z1 : (u : Int) - 1 = (k0 : Int) := by omega
          have z2 : (u : Int) < (N : Int) := by omega
          have z3 : (k0 : Int) < (N : Int) := by omega
          have hne : u ≠ k0 := by omega
          have Hpl := hide hpl0
          have Hk := hide hk0
          have Hnew : Hid (Lb = A2 ++ (x :: B) ∧ A2.length + i = k0) := ⟨by rw [hAB]; simp, by omega⟩
          clear hpl hpl0 hk0 hAB hAl e0 HW2
          go_wp2_with fail
          go_big_region
          all_goals go_wp2
          go_roundg (k0 - i)
          case measure => have := unhide Hk; omega
          case rel =>
            have h0 := unhide Hk
            refine ⟨k0, A2, x :: B, by omega, by omega, by omega, by first | rfl | (congr 1; omega), unhide Hnew, ?_⟩
            show RowAt _ _ _ _ _
            have h3 := ((unhide HW3).set (k := (Q ++ A2).length + 1) (by simp; omega) x).set (k := (Q ++ A2).length) (by simp) y
            have h4 := swap_adj' (Q ++ A2) (B ++ S) x y
            rw [h4, unhide Hpl, h0] at h3
            have h5 : RowAt w0 g tail _ ((wr.setCell ⟨g, u, none⟩ (.int .i32 x)).setCell ⟨g, k0, none⟩ (.int .i32 y)).drew := h3.drew 1
            simpa using h5
        · obtain rfl : u = i := by omega
          have hluz : ¬ (u : Int) < (u : Int) := by omega
          have hA0 : A = [] := List.eq_nil_of_length_eq_zero (by have := (unhide HS2).2; omega)
          subst hA0
          have Hend : Hid (RowAt w0 g tail T wr) := by
            have h3 := unhide HW2
            have h4 : Lb = B := by have := (unhide HS2).1; simpa using this
            rw [List.nil_append, ← h4, unhide Hfin] at h3
            exact h3
          go_wp2_with fail
          refine bodyPost_ret (results_none rfl _ _ _) rfl ?_
          exact ⟨rfl, unhide Hend⟩
end Go.Proofs.YtdflokjpgbeniaaDoor
