/-
  The contract of slices.symMergeCmpFunc at marks, over the seat's program: two rows in order become one, those of one class as they stood; the whole.
-/
import Derived.Test.YtjpmomklkkifjaaGreatDoorCSymMerge
namespace Go.Proofs.YtjpmomklkkifjaaGreatDoor
open Go.RowKit Go.Sort
set_option maxRecDepth 100000

/-- What the search leaves. -/
theorem search_end {P L R S zs : List Int} {a m b st en : Nat} (hZ : P ++ L ++ R ++ S = zs) (hA : P.length = a) (hm : m = a + L.length) (hb : b = m + R.length) (hst : a ≤ st ∧ st ≤ m) (hen : m ≤ en ∧ en ≤ b) 
    (f1 : st = a ∨ en = b ∨ ∃ x y, zs[st - 1]? = some x ∧ zs[en]? = some y ∧ ¬ classZ y < classZ x) (f2 : en = m ∨ st = m ∨ ∃ x y, zs[st]? = some x ∧ zs[en - 1]? = some y ∧ classZ y < classZ x) :
    ∃ La Lb Ra Rb, L = La ++ Lb ∧ R = Ra ++ Rb ∧ La.length + a = st ∧ Ra.length + m = en ∧
      (La = [] ∨ Rb = [] ∨ ∃ A x y B, La = A ++ [x] ∧ Rb = y :: B ∧ ¬ classZ y < classZ x) ∧
      (Ra = [] ∨ Lb = [] ∨ ∃ A y x B, Ra = A ++ [y] ∧ Lb = x :: B ∧ classZ y < classZ x) := by
  have atL : ∀ t, t < L.length → zs[a + t]? = L[t]? := fun t ht => by
    have h1 := at_part P L (R ++ S) t ht
    rw [← List.append_assoc, hZ, hA] at h1
    exact h1
  have atR : ∀ t, t < R.length → zs[m + t]? = R[t]? := fun t ht => by
    have h1 := at_part (P ++ L) R S t ht
    rw [hZ, List.length_append, hA, ← hm] at h1
    exact h1
  obtain ⟨s, rfl⟩ : ∃ s, st = a + s := ⟨st - a, by omega⟩
  obtain ⟨e, rfl⟩ : ∃ e, en = m + e := ⟨en - m, by omega⟩
  refine ⟨L.take s, L.drop s, R.take e, R.drop e, by simp, by simp, by rw [List.length_take]; omega, by rw [List.length_take]; omega, ?_, ?_⟩
  · rcases f1 with h | h | ⟨x, y, h1, h2, h3⟩
    · obtain rfl : s = 0 := by omega
      exact .inl rfl
    · exact .inr (.inl (List.drop_eq_nil_of_le (by omega)))
    · rcases Nat.eq_zero_or_pos s with h0 | h0
      · subst h0
        exact .inl rfl
      · rcases Nat.lt_or_ge e R.length with h4 | h4
        · obtain ⟨s', rfl⟩ : ∃ s', s = s' + 1 := ⟨s - 1, by omega⟩
          rw [show a + (s' + 1) - 1 = a + s' by omega, atL s' (by omega)] at h1
          rw [atR e h4] at h2
          exact .inr (.inr ⟨_, x, y, _, take_last h1, drop_first h2, h3⟩)
        · exact .inr (.inl (List.drop_eq_nil_of_le h4))
  · rcases f2 with h | h | ⟨x, y, h1, h2, h3⟩
    · obtain rfl : e = 0 := by omega
      exact .inl rfl
    · exact .inr (.inl (List.drop_eq_nil_of_le (by omega)))
    · rcases Nat.eq_zero_or_pos e with h0 | h0
      · subst h0
        exact .inl rfl
      · rcases Nat.lt_or_ge s L.length with h4 | h4
        · obtain ⟨e', rfl⟩ : ∃ e', e = e' + 1 := ⟨e - 1, by omega⟩
          rw [show m + (e' + 1) - 1 = m + e' by omega, atR e' (by omega)] at h2
          rw [atL s h4] at h1
          exact .inr (.inr ⟨_, y, x, _, take_last h2, drop_first h1, h3⟩)
        · exact .inr (.inl (List.drop_eq_nil_of_le h4))

/-- The contract, of rows that are not longer than k. -/
def SymSpec (k : Nat) : Prop := ∀ (w0 : World) (g cap : Nat) (tail : List Value) (P L R S : List Int) (w : World), L.length + R.length ≤ k → L ≠ [] → R ≠ [] → Srt L → Srt R → (P ++ L ++ R ++ S).length ≤ 1000 → RowAt w0 g tail (P ++ L ++ R ++ S) w →
    Calls Tryz.prog 208 #[.slice (some ⟨g, 0, none⟩) (P ++ L ++ R ++ S).length cap, .int .i64 P.length, .int .i64 (P ++ L).length, .int .i64 (P ++ L ++ R).length, .func (.func 137) #[] #[]] w fun e w' =>
      e = .returned (.tuple #[]) ∧ RowAt w0 g tail (P ++ sortM (L ++ R) ++ S) w'

/-- .. with the numbers that the road has. -/
theorem SymSpec.at {k : Nat} (ih : SymSpec k) {w0 : World} {g cap : Nat} {tail : List Value} {P L R S zs ys : List Int} {N a m b : Nat} (hk : L.length + R.length ≤ k) (hL0 : L ≠ []) (hR0 : R ≠ []) (hL : Srt L) (hR : Srt R) (hN : zs.length = N) (hN2 : N ≤ 1000)
    (hz : zs = P ++ L ++ R ++ S) (hy : ys = P ++ sortM (L ++ R) ++ S) (ha : P.length = a) (hm : a + L.length = m) (hb : m + R.length = b) : ∀ w, RowAt w0 g tail zs w → Calls Tryz.prog 208 #[.slice (some ⟨g, 0, none⟩) N cap, .int .i64 a, .int .i64 m, .int .i64 b, .func (.func 137) #[] #[]] w fun e w' =>
      e = .returned (.tuple #[]) ∧ RowAt w0 g tail ys w' := by
  intro w h
  subst hz hy
  have := ih w0 g cap tail P L R S w hk hL0 hR0 hL hR (by omega) h
  rw [hN, ha, show (P ++ L).length = m by rw [List.length_append]; omega, show (P ++ L ++ R).length = b by simp only [List.length_append]; omega] at this
  exact this
theorem rotate_at {w0 : World} {g cap : Nat} {tail : List Value} {P X Y R zs ys : List Int} {N a m b : Nat} (hX0 : X ≠ []) (hY0 : Y ≠ []) (hN : zs.length = N) (hN2 : N ≤ 1000)
    (hz : zs = P ++ X ++ Y ++ R) (hy : ys = P ++ Y ++ X ++ R) (ha : P.length = a) (hm : a + X.length = m) (hb : m + Y.length = b) : ∀ w, RowAt w0 g tail zs w → Calls Tryz.prog 226 #[.slice (some ⟨g, 0, none⟩) N cap, .int .i64 a, .int .i64 m, .int .i64 b, .func (.func 137) #[] #[]] w fun e w' =>
      e = .returned (.tuple #[]) ∧ RowAt w0 g tail ys w' := by
  intro w h
  subst hz hy
  have := rotate_calls w0 g cap tail P X Y R w hX0 hY0 (by omega) h
  rw [hN, ha, show (P ++ X).length = m by rw [List.length_append]; omega, show (P ++ X ++ Y).length = b by simp only [List.length_append]; omega] at this
  exact this

set_option maxRecDepth 100000 in
set_option maxHeartbeats 40000000 in
theorem symMerge_step (k : Nat) (ih : SymSpec k) (w0 : World) (g cap : Nat) (tail : List Value) (P L R S : List Int) (w : World) (hk : L.length + R.length ≤ k + 1) (hL0 : 2 ≤ L.length) (hR0 : 2 ≤ R.length) (hL : Srt L) (hR : Srt R) (hlen : (P ++ L ++ R ++ S).length ≤ 1000) (h : RowAt w0 g tail (P ++ L ++ R ++ S) w) :
    Calls Tryz.prog 208 #[.slice (some ⟨g, 0, none⟩) (P ++ L ++ R ++ S).length cap, .int .i64 P.length, .int .i64 (P ++ L).length, .int .i64 (P ++ L ++ R).length, .func (.func 137) #[] #[]] w fun e w' =>
      e = .returned (.tuple #[]) ∧ RowAt w0 g tail (P ++ sortM (L ++ R) ++ S) w' := by
  obtain ⟨N, hN⟩ : ∃ N, (P ++ L ++ R ++ S).length = N := ⟨_, rfl⟩
  obtain ⟨a, hA⟩ : ∃ a, P.length = a := ⟨_, rfl⟩
  obtain ⟨m, hM⟩ : ∃ m, (P ++ L).length = m := ⟨_, rfl⟩
  obtain ⟨b, hB⟩ : ∃ b, (P ++ L ++ R).length = b := ⟨_, rfl⟩
  obtain ⟨T, hT⟩ : ∃ T, P ++ sortM (L ++ R) ++ S = T := ⟨_, rfl⟩
  obtain ⟨zs, hZ⟩ : ∃ zs, P ++ L ++ R ++ S = zs := ⟨_, rfl⟩
  have hm : m = a + L.length := by rw [← hM, ← hA]; simp
  have hb : b = m + R.length := by rw [← hB, ← hM]; simp; omega
  have hNb : b ≤ N := by rw [← hN, ← hB]; simp
  rw [hN, hA, hM, hB, hT]
  rw [hN] at hlen
  rw [hZ] at h
  have hm1 : ((m : Int) - (a : Int) == 1) = false := by simpa using (by omega : ¬ (m : Int) - (a : Int) = 1)
  have hm2 : ((b : Int) - (m : Int) == 1) = false := by simpa using (by omega : ¬ (b : Int) - (m : Int) = 1)
  have ham : a + 2 ≤ m := by omega
  have hmb : m + 2 ≤ b := by omega
  obtain ⟨mid, hmid⟩ : ∃ mid, mid = (a + b) / 2 := ⟨_, rfl⟩
  obtain ⟨n, hn⟩ : ∃ n, n = mid + m := ⟨_, rfl⟩
  obtain ⟨p, hp⟩ : ∃ p, p = n - 1 := ⟨_, rfl⟩
  have zmid : ((a : Int) + (b : Int)) / 2 = (mid : Int) := by omega
  have zn : (mid : Int) + (m : Int) = (n : Int) := by omega
  have zp : (n : Int) - 1 = (p : Int) := by omega
  have hmid2 : a + 2 ≤ mid ∧ mid + 2 ≤ b := by omega
  have IH := hide ih
  have HL := hide hL
  have HR := hide hR
  have H := hide h
  have HZ : Hid (P ++ L ++ R ++ S = zs ∧ P.length = a ∧ m = a + L.length ∧ b = m + R.length ∧ zs.length = N) := ⟨hZ, hA, hm, hb, by rw [← hZ]; exact hN⟩
  have HT := hide hT
  have Hk := hide hk
  have Hmid : Hid (mid = (a + b) / 2 ∧ n = mid + m ∧ p + 1 = n) := ⟨hmid, hn, by omega⟩
  clear hL hR h hZ hA hM hB hN hT hb hm hk ih hL0 hR0 hmid hn hp
  by_cases hmm : mid < m
  · have zmm : (mid : Int) < (m : Int) := by omega
    obtain ⟨s0, hs0⟩ : ∃ s0, s0 + b = n := ⟨n - b, by have := unhide Hmid; omega⟩
    have zs0 : (n : Int) - (b : Int) = (s0 : Int) := by omega
    have hs02 : a ≤ s0 ∧ s0 ≤ mid := by have := unhide Hmid; omega
    go_enter Tryz.func208, Tryz.ntmps208
    go_wp2_with fail
    go_loopg [20, 21] (b + 1) (fun k vi vj wr => ∃ st r : Nat, r - st ≤ k ∧ s0 ≤ st ∧ st ≤ r ∧ r ≤ mid ∧ vi = .int .i64 st ∧ vj = .int .i64 r ∧ Hid ((st = s0 ∨ ∃ x y, zs[st - 1]? = some x ∧ zs[n - st]? = some y ∧ ¬ classZ y < classZ x) ∧ (r = mid ∨ ∃ x y, zs[r]? = some x ∧ zs[n - r - 1]? = some y ∧ classZ y < classZ x)) ∧ Hid (RowAt w0 g tail zs wr))
    case atStart => exact ⟨s0, mid, by omega, by omega, by have := unhide Hmid; omega, by omega, rfl, rfl, ⟨.inl rfl, .inl rfl⟩, H⟩
    case round =>
      obtain ⟨st, r, hk2, hs1, hsr, hr1, rfl, rfl, HS, HW⟩ := hrel
      by_cases hlt : st < r
      · have hltz : (st : Int) < (r : Int) := by omega
        obtain ⟨c, hc⟩ : ∃ c, c = (st + r) / 2 := ⟨_, rfl⟩
        obtain ⟨pc, hpc⟩ : ∃ pc, pc + c = p := ⟨p - c, by have := unhide Hmid; omega⟩
        have zc : ((st : Int) + (r : Int)) / 2 = (c : Int) := by omega
        have zpc : (p : Int) - (c : Int) = (pc : Int) := by omega
        have hc1 : st ≤ c := by omega
        have hc2 : c < r := by omega
        have hcN : (c : Int) < (N : Int) := by have := unhide Hmid; omega
        have hpN : (pc : Int) < (N : Int) := by have := unhide Hmid; omega
        obtain ⟨x, hx⟩ : ∃ x, zs[c]? = some x := ⟨_, List.getElem?_eq_getElem (by have := (unhide HZ).2.2.2.2; omega)⟩
        obtain ⟨y, hy⟩ : ∃ y, zs[pc]? = some y := ⟨_, List.getElem?_eq_getElem (by have := (unhide HZ).2.2.2.2; omega)⟩
        have c1 := (unhide HW).cell hx
        have c2 := (unhide HW).cell hy
        have hcq := fun n => cmp_quiet y x wr n
        have Hx := hide hx
        have Hy := hide hy
        have Hd : Hid (cmpZ y x = classZ y - classZ x) := rfl
        have Hpc : Hid (pc + c = p) := hpc
        clear hx hy hc hpc
        generalize cmpZ y x = cz at *
        by_cases hc0 : cz < 0
        · have hd0 : decide (cz < 0) = true := decide_eq_true hc0
          go_wp2_with fail
          go_quiet (refine Calls.quiet_of_same (hcq _))
          go_wp2_with fail
          go_roundg (c - st)
          case measure => omega
          case rel => exact ⟨st, c, by omega, hs1, by omega, by omega, rfl, rfl, ⟨(unhide HS).1, .inr ⟨x, y, unhide Hx, by have h0 := unhide Hmid; have h1 := unhide Hpc; rw [show n - c - 1 = pc by omega]; exact unhide Hy, by have := unhide Hd; omega⟩⟩, (unhide HW).drew _⟩
        · have hd0 : decide (cz < 0) = false := decide_eq_false hc0
          go_wp2_with fail
          go_quiet (refine Calls.quiet_of_same (hcq _))
          go_wp2_with fail
          go_roundg (r - (c + 1))
          case measure => omega
          case rel => exact ⟨c + 1, r, by omega, by omega, by omega, hr1, by simp, rfl, ⟨.inr ⟨x, y, by rw [Nat.add_sub_cancel]; exact unhide Hx, by have h0 := unhide Hmid; have h1 := unhide Hpc; rw [show n - (c + 1) = pc by omega]; exact unhide Hy, by have := unhide Hd; omega⟩, (unhide HS).2⟩, (unhide HW).drew _⟩
      · have hltz : ¬ (st : Int) < (r : Int) := by omega
        obtain rfl : st = r := by omega
        obtain ⟨hZ, hA, hm, hb, hzN⟩ := unhide HZ
        have h0 := unhide Hmid
        obtain ⟨en, hen⟩ : ∃ en, en + st = n := ⟨n - st, by omega⟩
        have hn1 : n - st = en := by omega
        obtain ⟨La, Lb, Ra, Rb, eL, eR, lLa, lRa, g1, g2⟩ := search_end (st := st) (en := en) hZ hA hm hb (by omega) (by omega)
          (by rcases (unhide HS).1 with h | ⟨x, y, h1, h2, h3⟩
              · exact .inr (.inl (by omega))
              · exact .inr (.inr ⟨x, y, h1, by rw [← hn1]; exact h2, h3⟩))
          (by rcases (unhide HS).2 with h | ⟨x, y, h1, h2, h3⟩
              · exact .inl (by omega)
              · exact .inr (.inr ⟨x, y, h1, by rw [← hn1]; exact h2, h3⟩))
        have sL := unhide HL
        have sR := unhide HR
        rw [eL] at sL
        rw [eR] at sR
        have hfin := merge_split sL sR g1 g2
        rw [← eL, ← eR] at hfin
        have lLb : Lb.length + st = m := by rw [eL, List.length_append] at hm; omega
        have lRb : Rb.length + en = b := by rw [eR, List.length_append] at hb; omega
        have lk : La.length + Lb.length + (Ra.length + Rb.length) ≤ k + 1 := by have := unhide Hk; rw [eL, eR] at this; simpa using this
        have e0 : zs = P ++ La ++ Lb ++ Ra ++ (Rb ++ S) := by rw [← hZ, eL, eR]; simp
        have e2 : T = (P ++ sortM (La ++ Ra)) ++ sortM (Lb ++ Rb) ++ S := by rw [← unhide HT, ← hfin]; simp
        have lz2 : (P ++ La ++ Ra ++ Lb ++ (Rb ++ S)).length = N := by rw [← hzN, e0]; simp only [List.length_append]; omega
        have lz3 : ((P ++ sortM (La ++ Ra)) ++ Lb ++ Rb ++ S).length = N := by rw [← hzN, e0]; simp only [List.length_append, sortM_length]; omega
        have zen : (n : Int) - (st : Int) = (en : Int) := by omega
        have ih := unhide IH
        have HT2 := hide e2
        have Hz0 := hide e0
        by_cases q1 : Lb = []
        · -- no more of the first row behind the cut
          have st_m : st = m := by rw [q1, List.length_nil] at lLb; omega
          by_cases q2 : Ra = []
          · exfalso; omega
          · exfalso; omega
        · have st_m : st < m := by have := List.length_pos_iff.2 q1; omega
          by_cases q2 : Ra = []
          · have en_m : en = m := by rw [q2, List.length_nil] at lRa; omega
            have hmg2 := ih.at (w0 := w0) (g := g) (cap := cap) (tail := tail) (P := P ++ sortM (La ++ Ra)) (L := Lb) (R := Rb) (S := S) (zs := (P ++ sortM (La ++ Ra)) ++ Lb ++ Rb ++ S) (ys := T) (N := N) (a := mid) (m := en) (b := b) (by have := hmid2; omega) q1 (by intro h; rw [h, List.length_nil] at lRb; omega) sL.right sR.right lz3 hlen rfl e2 (by rw [List.length_append, sortM_length, List.length_append]; omega) (by omega) (by omega)
            have Hz3 : Hid (zs = (P ++ sortM (La ++ Ra)) ++ Lb ++ Rb ++ S) := by
              show _ = _
              rw [e0]; simp only [q2, List.append_nil, sL.left.self, List.append_assoc]
            have hW2 := unhide HW
            rw [unhide Hz3] at hW2
            have HW2 := hide hW2
            clear hW2
            have b0 : (st : Int) < (m : Int) := by omega
            have b1 : ¬ (m : Int) < (en : Int) := by omega
            have b2 : (a : Int) < (st : Int) := by omega
            have b3 : ¬ (st : Int) < (mid : Int) := by omega
            have b4 : (mid : Int) < (en : Int) := by omega
            have b5 : (en : Int) < (b : Int) := by omega
            obtain ⟨y2, hy2⟩ : ∃ y2, y2 = P ++ La ++ Ra ++ Lb ++ (Rb ++ S) := ⟨_, rfl⟩
            obtain ⟨y3, hy3⟩ : ∃ y3, y3 = (P ++ sortM (La ++ Ra)) ++ Lb ++ Rb ++ S := ⟨_, rfl⟩
            try rw [← hy2] at hmg2
            try rw [← hy3] at hmg2
            try rw [← hy2] at HW2
            try rw [← hy3] at HW2
            clear hy2 hy3
            have Hhmg2 := hide hmg2
            clear hmg2
            clear hZ hA hm hb hzN h0 hn1 eL eR g1 g2 sL sR hfin lLa lRa lLb lRb lk e0 e2 lz2 lz3 ih IH HL HR HZ HT Hk Hmid HS hen st_m en_m
            go_wp2_with fail
            refine (unhide Hhmg2 _ (unhide HW2)).mono ?_
            rintro e w1 ⟨rfl, hr1⟩
            go_wp2_with fail
            go_end0
            exact ⟨rfl, hr1⟩
          · have en_m : m < en := by have := List.length_pos_iff.2 q2; omega
            have hrot := rotate_at (w0 := w0) (g := g) (cap := cap) (tail := tail) (P := P ++ La) (X := Lb) (Y := Ra) (R := Rb ++ S) (ys := P ++ La ++ Ra ++ Lb ++ (Rb ++ S)) (a := st) (m := m) (b := en) q1 q2 hzN hlen e0 rfl (by rw [List.length_append]; omega) (by omega) (by omega)
            by_cases q3 : La = []
            · by_cases q4 : Rb = []
              · have b0 : (st : Int) < (m : Int) := by omega
                have b1 : (m : Int) < (en : Int) := by omega
                have b4 : (mid : Int) < (en : Int) := by omega
                have b2 : ¬ (a : Int) < (st : Int) := by rw [q3, List.length_nil] at lLa; omega
                have Hz4 : Hid (P ++ La ++ Ra ++ Lb ++ (Rb ++ S) = (P ++ sortM (La ++ Ra)) ++ Lb ++ Rb ++ S) := by
                  show _ = _
                  simp only [q3, List.nil_append, List.append_nil, sR.left.self, List.append_assoc]
                have b5 : ¬ (en : Int) < (b : Int) := by rw [q4, List.length_nil] at lRb; omega
                have Hend : Hid ((P ++ sortM (La ++ Ra)) ++ Lb ++ Rb ++ S = T) := by
                  show _ = _
                  rw [e2]; simp only [q4, List.append_nil, sL.right.self, List.append_assoc]
                obtain ⟨y2, hy2⟩ : ∃ y2, y2 = P ++ La ++ Ra ++ Lb ++ (Rb ++ S) := ⟨_, rfl⟩
                obtain ⟨y3, hy3⟩ : ∃ y3, y3 = (P ++ sortM (La ++ Ra)) ++ Lb ++ Rb ++ S := ⟨_, rfl⟩
                try rw [← hy2] at hrot
                try rw [← hy3] at hrot
                try rw [← hy2] at Hend
                try rw [← hy3] at Hend
                try rw [← hy2] at Hz4
                try rw [← hy3] at Hz4
                clear hy2 hy3
                have Hhrot := hide hrot
                clear hrot
                clear hZ hA hm hb hzN h0 hn1 eL eR g1 g2 sL sR hfin lLa lRa lLb lRb lk e0 e2 lz2 lz3 ih IH HL HR HZ HT Hk Hmid HS hen st_m en_m
                go_wp2_with fail
                refine (unhide Hhrot _ (unhide HW)).mono ?_
                rintro e w1 ⟨rfl, hr1⟩
                go_wp2_with fail
                go_end0
                rw [unhide Hz4, unhide Hend] at hr1
                exact ⟨rfl, hr1⟩
              · exfalso; rw [q3, List.length_nil] at lLa; have := List.length_pos_iff.2 q4; omega
            · by_cases q4 : Rb = []
              · have b0 : (st : Int) < (m : Int) := by omega
                have b1 : (m : Int) < (en : Int) := by omega
                have b4 : (mid : Int) < (en : Int) := by omega
                have b2 : (a : Int) < (st : Int) := by have := List.length_pos_iff.2 q3; omega
                have b3 : (st : Int) < (mid : Int) := by have := List.length_pos_iff.2 q2; omega
                have hmg1 := ih.at (w0 := w0) (g := g) (cap := cap) (tail := tail) (P := P) (L := La) (R := Ra) (S := Lb ++ (Rb ++ S)) (zs := P ++ La ++ Ra ++ Lb ++ (Rb ++ S)) (ys := (P ++ sortM (La ++ Ra)) ++ Lb ++ Rb ++ S) (N := N) (a := a) (m := st) (b := mid) (by have := List.length_pos_iff.2 q1; omega) q3 q2 sL.left sR.left lz2 hlen (by simp) (by simp) hA (by omega) (by omega)
                have b5 : ¬ (en : Int) < (b : Int) := by rw [q4, List.length_nil] at lRb; omega
                have Hend : Hid ((P ++ sortM (La ++ Ra)) ++ Lb ++ Rb ++ S = T) := by
                  show _ = _
                  rw [e2]; simp only [q4, List.append_nil, sL.right.self, List.append_assoc]
                obtain ⟨y2, hy2⟩ : ∃ y2, y2 = P ++ La ++ Ra ++ Lb ++ (Rb ++ S) := ⟨_, rfl⟩
                obtain ⟨y3, hy3⟩ : ∃ y3, y3 = (P ++ sortM (La ++ Ra)) ++ Lb ++ Rb ++ S := ⟨_, rfl⟩
                try rw [← hy2] at hrot
                try rw [← hy3] at hrot
                try rw [← hy2] at hmg1
                try rw [← hy3] at hmg1
                try rw [← hy2] at Hend
                try rw [← hy3] at Hend
                clear hy2 hy3
                have Hhrot := hide hrot
                clear hrot
                have Hhmg1 := hide hmg1
                clear hmg1
                clear hZ hA hm hb hzN h0 hn1 eL eR g1 g2 sL sR hfin lLa lRa lLb lRb lk e0 e2 lz2 lz3 ih IH HL HR HZ HT Hk Hmid HS hen st_m en_m
                go_wp2_with fail
                refine (unhide Hhrot _ (unhide HW)).mono ?_
                rintro e w1 ⟨rfl, hr1⟩
                go_wp2_with fail
                refine (unhide Hhmg1 _ (hr1)).mono ?_
                rintro e w2 ⟨rfl, hr2⟩
                go_wp2_with fail
                go_end0
                rw [unhide Hend] at hr2
                exact ⟨rfl, hr2⟩
              · have b0 : (st : Int) < (m : Int) := by omega
                have b1 : (m : Int) < (en : Int) := by omega
                have b4 : (mid : Int) < (en : Int) := by omega
                have b2 : (a : Int) < (st : Int) := by have := List.length_pos_iff.2 q3; omega
                have b3 : (st : Int) < (mid : Int) := by have := List.length_pos_iff.2 q2; omega
                have hmg1 := ih.at (w0 := w0) (g := g) (cap := cap) (tail := tail) (P := P) (L := La) (R := Ra) (S := Lb ++ (Rb ++ S)) (zs := P ++ La ++ Ra ++ Lb ++ (Rb ++ S)) (ys := (P ++ sortM (La ++ Ra)) ++ Lb ++ Rb ++ S) (N := N) (a := a) (m := st) (b := mid) (by have := List.length_pos_iff.2 q1; omega) q3 q2 sL.left sR.left lz2 hlen (by simp) (by simp) hA (by omega) (by omega)
                have b5 : (en : Int) < (b : Int) := by have := List.length_pos_iff.2 q4; omega
                have hmg2 := ih.at (w0 := w0) (g := g) (cap := cap) (tail := tail) (P := P ++ sortM (La ++ Ra)) (L := Lb) (R := Rb) (S := S) (zs := (P ++ sortM (La ++ Ra)) ++ Lb ++ Rb ++ S) (ys := T) (N := N) (a := mid) (m := en) (b := b) (by have := List.length_pos_iff.2 q2; omega) q1 q4 sL.right sR.right lz3 hlen rfl e2 (by rw [List.length_append, sortM_length, List.length_append]; omega) (by omega) (by omega)
                obtain ⟨y2, hy2⟩ : ∃ y2, y2 = P ++ La ++ Ra ++ Lb ++ (Rb ++ S) := ⟨_, rfl⟩
                obtain ⟨y3, hy3⟩ : ∃ y3, y3 = (P ++ sortM (La ++ Ra)) ++ Lb ++ Rb ++ S := ⟨_, rfl⟩
                try rw [← hy2] at hrot
                try rw [← hy3] at hrot
                try rw [← hy2] at hmg1
                try rw [← hy3] at hmg1
                try rw [← hy2] at hmg2
                try rw [← hy3] at hmg2
                clear hy2 hy3
                have Hhrot := hide hrot
                clear hrot
                have Hhmg1 := hide hmg1
                clear hmg1
                have Hhmg2 := hide hmg2
                clear hmg2
                clear hZ hA hm hb hzN h0 hn1 eL eR g1 g2 sL sR hfin lLa lRa lLb lRb lk e0 e2 lz2 lz3 ih IH HL HR HZ HT Hk Hmid HS hen st_m en_m
                go_wp2_with fail
                refine (unhide Hhrot _ (unhide HW)).mono ?_
                rintro e w1 ⟨rfl, hr1⟩
                go_wp2_with fail
                refine (unhide Hhmg1 _ (hr1)).mono ?_
                rintro e w2 ⟨rfl, hr2⟩
                go_wp2_with fail
                refine (unhide Hhmg2 _ (hr2)).mono ?_
                rintro e w3 ⟨rfl, hr3⟩
                go_wp2_with fail
                go_end0
                exact ⟨rfl, hr3⟩

  · have zmm : ¬ (mid : Int) < (m : Int) := by omega
    go_enter Tryz.func208, Tryz.ntmps208
    go_wp2_with fail
    go_loopg [20, 21] (b + 1) (fun k vi vj wr => ∃ st r : Nat, r - st ≤ k ∧ a ≤ st ∧ st ≤ r ∧ r ≤ m ∧ vi = .int .i64 st ∧ vj = .int .i64 r ∧ Hid ((st = a ∨ ∃ x y, zs[st - 1]? = some x ∧ zs[n - st]? = some y ∧ ¬ classZ y < classZ x) ∧ (r = m ∨ ∃ x y, zs[r]? = some x ∧ zs[n - r - 1]? = some y ∧ classZ y < classZ x)) ∧ Hid (RowAt w0 g tail zs wr))
    case atStart => exact ⟨a, m, by omega, by omega, by have := unhide Hmid; omega, by omega, rfl, rfl, ⟨.inl rfl, .inl rfl⟩, H⟩
    case round =>
      obtain ⟨st, r, hk2, hs1, hsr, hr1, rfl, rfl, HS, HW⟩ := hrel
      by_cases hlt : st < r
      · have hltz : (st : Int) < (r : Int) := by omega
        obtain ⟨c, hc⟩ : ∃ c, c = (st + r) / 2 := ⟨_, rfl⟩
        obtain ⟨pc, hpc⟩ : ∃ pc, pc + c = p := ⟨p - c, by have := unhide Hmid; omega⟩
        have zc : ((st : Int) + (r : Int)) / 2 = (c : Int) := by omega
        have zpc : (p : Int) - (c : Int) = (pc : Int) := by omega
        have hc1 : st ≤ c := by omega
        have hc2 : c < r := by omega
        have hcN : (c : Int) < (N : Int) := by have := unhide Hmid; omega
        have hpN : (pc : Int) < (N : Int) := by have := unhide Hmid; omega
        obtain ⟨x, hx⟩ : ∃ x, zs[c]? = some x := ⟨_, List.getElem?_eq_getElem (by have := (unhide HZ).2.2.2.2; omega)⟩
        obtain ⟨y, hy⟩ : ∃ y, zs[pc]? = some y := ⟨_, List.getElem?_eq_getElem (by have := (unhide HZ).2.2.2.2; omega)⟩
        have c1 := (unhide HW).cell hx
        have c2 := (unhide HW).cell hy
        have hcq := fun n => cmp_quiet y x wr n
        have Hx := hide hx
        have Hy := hide hy
        have Hd : Hid (cmpZ y x = classZ y - classZ x) := rfl
        have Hpc : Hid (pc + c = p) := hpc
        clear hx hy hc hpc
        generalize cmpZ y x = cz at *
        by_cases hc0 : cz < 0
        · have hd0 : decide (cz < 0) = true := decide_eq_true hc0
          go_wp2_with fail
          go_quiet (refine Calls.quiet_of_same (hcq _))
          go_wp2_with fail
          go_roundg (c - st)
          case measure => omega
          case rel => exact ⟨st, c, by omega, hs1, by omega, by omega, rfl, rfl, ⟨(unhide HS).1, .inr ⟨x, y, unhide Hx, by have h0 := unhide Hmid; have h1 := unhide Hpc; rw [show n - c - 1 = pc by omega]; exact unhide Hy, by have := unhide Hd; omega⟩⟩, (unhide HW).drew _⟩
        · have hd0 : decide (cz < 0) = false := decide_eq_false hc0
          go_wp2_with fail
          go_quiet (refine Calls.quiet_of_same (hcq _))
          go_wp2_with fail
          go_roundg (r - (c + 1))
          case measure => omega
          case rel => exact ⟨c + 1, r, by omega, by omega, by omega, hr1, by simp, rfl, ⟨.inr ⟨x, y, by rw [Nat.add_sub_cancel]; exact unhide Hx, by have h0 := unhide Hmid; have h1 := unhide Hpc; rw [show n - (c + 1) = pc by omega]; exact unhide Hy, by have := unhide Hd; omega⟩, (unhide HS).2⟩, (unhide HW).drew _⟩
      · have hltz : ¬ (st : Int) < (r : Int) := by omega
        obtain rfl : st = r := by omega
        obtain ⟨hZ, hA, hm, hb, hzN⟩ := unhide HZ
        have h0 := unhide Hmid
        obtain ⟨en, hen⟩ : ∃ en, en + st = n := ⟨n - st, by omega⟩
        have hn1 : n - st = en := by omega
        obtain ⟨La, Lb, Ra, Rb, eL, eR, lLa, lRa, g1, g2⟩ := search_end (st := st) (en := en) hZ hA hm hb (by omega) (by omega)
          (by rcases (unhide HS).1 with h | ⟨x, y, h1, h2, h3⟩
              · exact .inl h
              · exact .inr (.inr ⟨x, y, h1, by rw [← hn1]; exact h2, h3⟩))
          (by rcases (unhide HS).2 with h | ⟨x, y, h1, h2, h3⟩
              · exact .inr (.inl h)
              · exact .inr (.inr ⟨x, y, h1, by rw [← hn1]; exact h2, h3⟩))
        have sL := unhide HL
        have sR := unhide HR
        rw [eL] at sL
        rw [eR] at sR
        have hfin := merge_split sL sR g1 g2
        rw [← eL, ← eR] at hfin
        have lLb : Lb.length + st = m := by rw [eL, List.length_append] at hm; omega
        have lRb : Rb.length + en = b := by rw [eR, List.length_append] at hb; omega
        have lk : La.length + Lb.length + (Ra.length + Rb.length) ≤ k + 1 := by have := unhide Hk; rw [eL, eR] at this; simpa using this
        have e0 : zs = P ++ La ++ Lb ++ Ra ++ (Rb ++ S) := by rw [← hZ, eL, eR]; simp
        have e2 : T = (P ++ sortM (La ++ Ra)) ++ sortM (Lb ++ Rb) ++ S := by rw [← unhide HT, ← hfin]; simp
        have lz2 : (P ++ La ++ Ra ++ Lb ++ (Rb ++ S)).length = N := by rw [← hzN, e0]; simp only [List.length_append]; omega
        have lz3 : ((P ++ sortM (La ++ Ra)) ++ Lb ++ Rb ++ S).length = N := by rw [← hzN, e0]; simp only [List.length_append, sortM_length]; omega
        have zen : (n : Int) - (st : Int) = (en : Int) := by omega
        have ih := unhide IH
        have HT2 := hide e2
        have Hz0 := hide e0
        by_cases q1 : Lb = []
        · -- no more of the first row behind the cut
          have st_m : st = m := by rw [q1, List.length_nil] at lLb; omega
          by_cases q2 : Ra = []
          · have en_m : en = m := by rw [q2, List.length_nil] at lRa; omega
            have Hend : Hid (RowAt w0 g tail T wr) := by
              show RowAt _ _ _ _ _
              have h9 : T = zs := by rw [e2, e0]; simp only [q1, q2, List.append_nil, List.nil_append, sL.left.self, sR.right.self, List.append_assoc]
              rw [h9]; exact unhide HW
            have b1 : ¬ (st : Int) < (m : Int) := by omega
            have b2 : (a : Int) < (st : Int) := by omega
            have b3 : ¬ (st : Int) < (mid : Int) := by omega
            have b4 : ¬ (mid : Int) < (en : Int) := by omega
            obtain ⟨y2, hy2⟩ : ∃ y2, y2 = P ++ La ++ Ra ++ Lb ++ (Rb ++ S) := ⟨_, rfl⟩
            obtain ⟨y3, hy3⟩ : ∃ y3, y3 = (P ++ sortM (La ++ Ra)) ++ Lb ++ Rb ++ S := ⟨_, rfl⟩
            clear hy2 hy3
            clear hZ hA hm hb hzN h0 hn1 eL eR g1 g2 sL sR hfin lLa lRa lLb lRb lk e0 e2 lz2 lz3 ih IH HL HR HZ HT Hk Hmid HS hen st_m en_m
            go_wp2_with fail
            go_end0
            exact ⟨rfl, unhide Hend⟩
          · have en_m : m < en := by have := List.length_pos_iff.2 q2; omega
            have hR2 := sR.right.self
            have hmg1 := ih.at (w0 := w0) (g := g) (cap := cap) (tail := tail) (P := P) (L := La) (R := Ra) (S := Lb ++ (Rb ++ S)) (zs := P ++ La ++ Ra ++ Lb ++ (Rb ++ S)) (ys := (P ++ sortM (La ++ Ra)) ++ Lb ++ Rb ++ S) (N := N) (a := a) (m := st) (b := mid) (by have := hmb; omega) (by intro h; rw [h, List.length_nil] at lLa; omega) q2 sL.left sR.left lz2 hlen (by simp) (by simp) hA (by omega) (by omega)
            have Hend : Hid ((P ++ sortM (La ++ Ra)) ++ Lb ++ Rb ++ S = T) := by
              show _ = _
              rw [e2]; simp only [q1, List.append_nil, List.nil_append, hR2, List.append_assoc]
            have Hz2 : Hid (zs = P ++ La ++ Ra ++ Lb ++ (Rb ++ S)) := by
              show _ = _
              rw [e0, q1]; simp
            have hW2 := unhide HW
            rw [unhide Hz2] at hW2
            have HW2 := hide hW2
            clear hW2
            have b1 : ¬ (st : Int) < (m : Int) := by omega
            have b2 : (a : Int) < (st : Int) := by omega
            have b3 : (st : Int) < (mid : Int) := by omega
            have b4 : ¬ (mid : Int) < (en : Int) := by omega
            obtain ⟨y2, hy2⟩ : ∃ y2, y2 = P ++ La ++ Ra ++ Lb ++ (Rb ++ S) := ⟨_, rfl⟩
            obtain ⟨y3, hy3⟩ : ∃ y3, y3 = (P ++ sortM (La ++ Ra)) ++ Lb ++ Rb ++ S := ⟨_, rfl⟩
            try rw [← hy2] at hmg1
            try rw [← hy3] at hmg1
            try rw [← hy2] at HW2
            try rw [← hy3] at HW2
            try rw [← hy2] at Hend
            try rw [← hy3] at Hend
            clear hy2 hy3
            have Hhmg1 := hide hmg1
            clear hmg1
            clear hZ hA hm hb hzN h0 hn1 eL eR g1 g2 sL sR hfin lLa lRa lLb lRb lk e0 e2 lz2 lz3 ih IH HL HR HZ HT Hk Hmid HS hen st_m en_m
            go_wp2_with fail
            refine (unhide Hhmg1 _ (unhide HW2)).mono ?_
            rintro e w1 ⟨rfl, hr1⟩
            go_wp2_with fail
            go_end0
            rw [unhide Hend] at hr1
            exact ⟨rfl, hr1⟩
        · have st_m : st < m := by have := List.length_pos_iff.2 q1; omega
          by_cases q2 : Ra = []
          · exfalso; rw [q2, List.length_nil] at lRa; omega
          · have en_m : m < en := by have := List.length_pos_iff.2 q2; omega
            have hrot := rotate_at (w0 := w0) (g := g) (cap := cap) (tail := tail) (P := P ++ La) (X := Lb) (Y := Ra) (R := Rb ++ S) (ys := P ++ La ++ Ra ++ Lb ++ (Rb ++ S)) (a := st) (m := m) (b := en) q1 q2 hzN hlen e0 rfl (by rw [List.length_append]; omega) (by omega) (by omega)
            by_cases q3 : La = []
            · by_cases q4 : Rb = []
              · have b0 : (st : Int) < (m : Int) := by omega
                have b1 : (m : Int) < (en : Int) := by omega
                have b4 : (mid : Int) < (en : Int) := by omega
                have b2 : ¬ (a : Int) < (st : Int) := by rw [q3, List.length_nil] at lLa; omega
                have Hz4 : Hid (P ++ La ++ Ra ++ Lb ++ (Rb ++ S) = (P ++ sortM (La ++ Ra)) ++ Lb ++ Rb ++ S) := by
                  show _ = _
                  simp only [q3, List.nil_append, List.append_nil, sR.left.self, List.append_assoc]
                have b5 : ¬ (en : Int) < (b : Int) := by rw [q4, List.length_nil] at lRb; omega
                have Hend : Hid ((P ++ sortM (La ++ Ra)) ++ Lb ++ Rb ++ S = T) := by
                  show _ = _
                  rw [e2]; simp only [q4, List.append_nil, sL.right.self, List.append_assoc]
                obtain ⟨y2, hy2⟩ : ∃ y2, y2 = P ++ La ++ Ra ++ Lb ++ (Rb ++ S) := ⟨_, rfl⟩
                obtain ⟨y3, hy3⟩ : ∃ y3, y3 = (P ++ sortM (La ++ Ra)) ++ Lb ++ Rb ++ S := ⟨_, rfl⟩
                try rw [← hy2] at hrot
                try rw [← hy3] at hrot
                try rw [← hy2] at Hend
                try rw [← hy3] at Hend
                try rw [← hy2] at Hz4
                try rw [← hy3] at Hz4
                clear hy2 hy3
                have Hhrot := hide hrot
                clear hrot
                clear hZ hA hm hb hzN h0 hn1 eL eR g1 g2 sL sR hfin lLa lRa lLb lRb lk e0 e2 lz2 lz3 ih IH HL HR HZ HT Hk Hmid HS hen st_m en_m
                go_wp2_with fail
                refine (unhide Hhrot _ (unhide HW)).mono ?_
                rintro e w1 ⟨rfl, hr1⟩
                go_wp2_with fail
                go_end0
                rw [unhide Hz4, unhide Hend] at hr1
                exact ⟨rfl, hr1⟩
              · have b0 : (st : Int) < (m : Int) := by omega
                have b1 : (m : Int) < (en : Int) := by omega
                have b4 : (mid : Int) < (en : Int) := by omega
                have b2 : ¬ (a : Int) < (st : Int) := by rw [q3, List.length_nil] at lLa; omega
                have Hz4 : Hid (P ++ La ++ Ra ++ Lb ++ (Rb ++ S) = (P ++ sortM (La ++ Ra)) ++ Lb ++ Rb ++ S) := by
                  show _ = _
                  simp only [q3, List.nil_append, List.append_nil, sR.left.self, List.append_assoc]
                have b5 : (en : Int) < (b : Int) := by have := List.length_pos_iff.2 q4; omega
                have hmg2 := ih.at (w0 := w0) (g := g) (cap := cap) (tail := tail) (P := P ++ sortM (La ++ Ra)) (L := Lb) (R := Rb) (S := S) (zs := (P ++ sortM (La ++ Ra)) ++ Lb ++ Rb ++ S) (ys := T) (N := N) (a := mid) (m := en) (b := b) (by have := List.length_pos_iff.2 q2; omega) q1 q4 sL.right sR.right lz3 hlen rfl e2 (by rw [List.length_append, sortM_length, List.length_append]; omega) (by omega) (by omega)
                rw [← unhide Hz4] at hmg2
                obtain ⟨y2, hy2⟩ : ∃ y2, y2 = P ++ La ++ Ra ++ Lb ++ (Rb ++ S) := ⟨_, rfl⟩
                obtain ⟨y3, hy3⟩ : ∃ y3, y3 = (P ++ sortM (La ++ Ra)) ++ Lb ++ Rb ++ S := ⟨_, rfl⟩
                try rw [← hy2] at hrot
                try rw [← hy3] at hrot
                try rw [← hy2] at hmg2
                try rw [← hy3] at hmg2
                try rw [← hy2] at Hz4
                try rw [← hy3] at Hz4
                clear hy2 hy3
                have Hhrot := hide hrot
                clear hrot
                have Hhmg2 := hide hmg2
                clear hmg2
                clear hZ hA hm hb hzN h0 hn1 eL eR g1 g2 sL sR hfin lLa lRa lLb lRb lk e0 e2 lz2 lz3 ih IH HL HR HZ HT Hk Hmid HS hen st_m en_m
                go_wp2_with fail
                refine (unhide Hhrot _ (unhide HW)).mono ?_
                rintro e w1 ⟨rfl, hr1⟩
                go_wp2_with fail
                refine (unhide Hhmg2 _ (hr1)).mono ?_
                rintro e w2 ⟨rfl, hr2⟩
                go_wp2_with fail
                go_end0
                exact ⟨rfl, hr2⟩
            · by_cases q4 : Rb = []
              · exfalso; rw [q4, List.length_nil] at lRb; have := List.length_pos_iff.2 q3; omega
              · have b0 : (st : Int) < (m : Int) := by omega
                have b1 : (m : Int) < (en : Int) := by omega
                have b4 : (mid : Int) < (en : Int) := by omega
                have b2 : (a : Int) < (st : Int) := by have := List.length_pos_iff.2 q3; omega
                have b3 : (st : Int) < (mid : Int) := by have := List.length_pos_iff.2 q2; omega
                have hmg1 := ih.at (w0 := w0) (g := g) (cap := cap) (tail := tail) (P := P) (L := La) (R := Ra) (S := Lb ++ (Rb ++ S)) (zs := P ++ La ++ Ra ++ Lb ++ (Rb ++ S)) (ys := (P ++ sortM (La ++ Ra)) ++ Lb ++ Rb ++ S) (N := N) (a := a) (m := st) (b := mid) (by have := List.length_pos_iff.2 q1; omega) q3 q2 sL.left sR.left lz2 hlen (by simp) (by simp) hA (by omega) (by omega)
                have b5 : (en : Int) < (b : Int) := by have := List.length_pos_iff.2 q4; omega
                have hmg2 := ih.at (w0 := w0) (g := g) (cap := cap) (tail := tail) (P := P ++ sortM (La ++ Ra)) (L := Lb) (R := Rb) (S := S) (zs := (P ++ sortM (La ++ Ra)) ++ Lb ++ Rb ++ S) (ys := T) (N := N) (a := mid) (m := en) (b := b) (by have := List.length_pos_iff.2 q2; omega) q1 q4 sL.right sR.right lz3 hlen rfl e2 (by rw [List.length_append, sortM_length, List.length_append]; omega) (by omega) (by omega)
                obtain ⟨y2, hy2⟩ : ∃ y2, y2 = P ++ La ++ Ra ++ Lb ++ (Rb ++ S) := ⟨_, rfl⟩
                obtain ⟨y3, hy3⟩ : ∃ y3, y3 = (P ++ sortM (La ++ Ra)) ++ Lb ++ Rb ++ S := ⟨_, rfl⟩
                try rw [← hy2] at hrot
                try rw [← hy3] at hrot
                try rw [← hy2] at hmg1
                try rw [← hy3] at hmg1
                try rw [← hy2] at hmg2
                try rw [← hy3] at hmg2
                clear hy2 hy3
                have Hhrot := hide hrot
                clear hrot
                have Hhmg1 := hide hmg1
                clear hmg1
                have Hhmg2 := hide hmg2
                clear hmg2
                clear hZ hA hm hb hzN h0 hn1 eL eR g1 g2 sL sR hfin lLa lRa lLb lRb lk e0 e2 lz2 lz3 ih IH HL HR HZ HT Hk Hmid HS hen st_m en_m
                go_wp2_with fail
                refine (unhide Hhrot _ (unhide HW)).mono ?_
                rintro e w1 ⟨rfl, hr1⟩
                go_wp2_with fail
                refine (unhide Hhmg1 _ (hr1)).mono ?_
                rintro e w2 ⟨rfl, hr2⟩
                go_wp2_with fail
                refine (unhide Hhmg2 _ (hr2)).mono ?_
                rintro e w3 ⟨rfl, hr3⟩
                go_wp2_with fail
                go_end0
                exact ⟨rfl, hr3⟩


theorem symMerge_all : ∀ k, SymSpec k
  | 0 => fun w0 g cap tail P L R S w hk hL0 _ _ _ _ _ => absurd (List.length_pos_iff.2 hL0) (by omega)
  | k + 1 => fun w0 g cap tail P L R S w hk hL0 hR0 hL hR hlen h => by
    have l1 := List.length_pos_iff.2 hL0
    have l2 := List.length_pos_iff.2 hR0
    rcases Nat.lt_or_ge 1 L.length with hl | hl
    · rcases Nat.lt_or_ge 1 R.length with hr | hr
      · exact symMerge_step k (symMerge_all k) w0 g cap tail P L R S w hk hl hr hL hR hlen h
      · obtain ⟨y, rfl⟩ : ∃ y, R = [y] := List.length_eq_one_iff.1 (by omega)
        exact symMerge_two w0 g cap tail P y L S w (hR.marks y (by simp)) hL hl hlen h
    · obtain ⟨x, rfl⟩ : ∃ x, L = [x] := List.length_eq_one_iff.1 (by omega)
      exact symMerge_one w0 g cap tail P x R S w (hL.marks x (by simp)) hR hR0 hlen h
end Go.Proofs.YtjpmomklkkifjaaGreatDoor
