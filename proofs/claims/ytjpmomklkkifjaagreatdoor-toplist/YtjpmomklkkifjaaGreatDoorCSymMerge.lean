/-
  Rows of marks in the order of their classes, and how two of them become one. Plain facts. The contract of slices.symMergeCmpFunc at marks, over the seat's program: two rows in order become one, those of one class as they stood.
-/
import Derived.Test.YtjpmomklkkifjaaGreatDoorCRune
import Derived.Test.YtjpmomklkkifjaaGreatDoorCMerge
namespace Go.Proofs.YtjpmomklkkifjaaGreatDoor
set_option maxRecDepth 100000

/-- Those of the lower class, and the rest. -/
def lowM (l : List Int) : List Int := l.filter (fun r => classZ r == 202)
def highM (l : List Int) : List Int := l.filter (fun r => !(classZ r == 202))
theorem sortM_low_high (l : List Int) : sortM l = lowM l ++ highM l := rfl
theorem lowM_none : lowM [] = [] := rfl
theorem highM_none : highM [] = [] := rfl
theorem lowM_append (a b : List Int) : lowM (a ++ b) = lowM a ++ lowM b := by simp [lowM]
theorem highM_append (a b : List Int) : highM (a ++ b) = highM a ++ highM b := by simp [highM]

/-- In order. -/
structure Srt (l : List Int) : Prop where
  marks : ∀ x ∈ l, Mark x
  cut : ∀ A B, l = A ++ B → highM A = [] ∨ lowM B = []

theorem Srt.left {A B : List Int} (h : Srt (A ++ B)) : Srt A :=
  ⟨fun x hx => h.marks x (by simp [hx]), fun A1 B1 e => by
    rcases h.cut A1 (B1 ++ B) (by rw [e]; simp) with h1 | h1
    · exact .inl h1
    · rw [lowM_append] at h1
      exact .inr (List.append_eq_nil_iff.1 h1).1⟩
theorem Srt.right {A B : List Int} (h : Srt (A ++ B)) : Srt B :=
  ⟨fun x hx => h.marks x (by simp [hx]), fun A1 B1 e => by
    rcases h.cut (A ++ A1) B1 (by rw [e]; simp) with h1 | h1
    · rw [highM_append] at h1
      exact .inl (List.append_eq_nil_iff.1 h1).2
    · exact .inr h1⟩
theorem lowM_one {x : Int} (h : classZ x = 202) : lowM [x] = [x] ∧ highM [x] = [] := by simp [lowM, highM, h]
theorem highM_one {x : Int} (h : classZ x = 230) : lowM [x] = [] ∧ highM [x] = [x] := by simp [lowM, highM, h]
theorem Srt.last {A : List Int} {x : Int} (h : Srt (A ++ [x])) (hx : classZ x = 202) : highM (A ++ [x]) = [] := by
  rcases h.cut A [x] rfl with h1 | h1
  · rw [highM_append, h1, (lowM_one hx).2]
    rfl
  · rw [(lowM_one hx).1] at h1
    cases h1
theorem Srt.first {B : List Int} {x : Int} (h : Srt (x :: B)) (hx : classZ x = 230) : lowM (x :: B) = [] := by
  have e : x :: B = [x] ++ B := rfl
  rcases h.cut [x] B rfl with h1 | h1
  · rw [(highM_one hx).2] at h1
    cases h1
  · rw [e, lowM_append, h1, (highM_one hx).1]
    rfl
theorem Srt.self : ∀ {l : List Int}, Srt l → sortM l = l
  | [], _ => rfl
  | x :: t, h => by
    rcases h.marks x (by simp) with hx | hx
    · have ht := Srt.self (Srt.right (A := [x]) (B := t) h)
      rw [sortM_low_high] at ht ⊢
      have e : x :: t = [x] ++ t := rfl
      rw [e, lowM_append, highM_append, (lowM_one hx).1, (lowM_one hx).2, List.nil_append, List.append_assoc, ht]
    · have h1 := h.first hx
      rw [sortM_low_high, h1, List.nil_append]
      refine List.filter_eq_self.2 (fun y hy => ?_)
      have := List.filter_eq_nil_iff.1 h1 y hy
      simpa using this
theorem low_mem {l : List Int} {x : Int} (h : x ∈ lowM l) : classZ x = 202 := by
  have := (List.mem_filter.1 h).2
  simpa using this
theorem high_mem {l : List Int} {x : Int} (h : x ∈ highM l) : classZ x ≠ 202 := by
  have := (List.mem_filter.1 h).2
  simpa using this
theorem high_nil {l : List Int} (h : ∀ x ∈ l, classZ x = 202) : highM l = [] := List.filter_eq_nil_iff.2 (fun x hx => by simp [h x hx])
theorem low_nil {l : List Int} (h : ∀ x ∈ l, classZ x ≠ 202) : lowM l = [] := List.filter_eq_nil_iff.2 (fun x hx => by simp [h x hx])
theorem srt_sortM {l : List Int} (h : ∀ x ∈ l, Mark x) : Srt (sortM l) := by
  refine ⟨fun x hx => h x ((sortM_mem _ _).1 hx), fun A B e => ?_⟩
  rw [sortM_low_high] at e
  rcases List.append_eq_append_iff.1 e with ⟨c, h1, h2⟩ | ⟨c, h1, h2⟩
  · exact .inr (low_nil (fun x hx => high_mem (l := l) (by rw [h2]; simp [hx])))
  · exact .inl (high_nil (fun x hx => low_mem (l := l) (by rw [h1]; simp [hx])))

/-- What a cut leaves on its two sides. -/
theorem cut_le {La Rb : List Int} (hL : Srt La) (hR : Srt Rb) (h : La = [] ∨ Rb = [] ∨ ∃ A x y B, La = A ++ [x] ∧ Rb = y :: B ∧ ¬ classZ y < classZ x) : highM La = [] ∨ lowM Rb = [] := by
  rcases h with rfl | rfl | ⟨A, x, y, B, rfl, rfl, h⟩
  · exact .inl rfl
  · exact .inr rfl
  · rcases hL.marks x (by simp) with hx | hx
    · exact .inl (hL.last hx)
    · rcases hR.marks y (by simp) with hy | hy
      · omega
      · exact .inr (hR.first hy)
theorem cut_lt {Ra Lb : List Int} (hR : Srt Ra) (hL : Srt Lb) (h : Ra = [] ∨ Lb = [] ∨ ∃ A y x B, Ra = A ++ [y] ∧ Lb = x :: B ∧ classZ y < classZ x) : Ra = [] ∨ Lb = [] ∨ (highM Ra = [] ∧ lowM Lb = []) := by
  rcases h with rfl | rfl | ⟨A, y, x, B, rfl, rfl, h⟩
  · exact .inl rfl
  · exact .inr (.inl rfl)
  · refine .inr (.inr ?_)
    rcases hR.marks y (by simp) with hy | hy
    · rcases hL.marks x (by simp) with hx | hx
      · omega
      · exact ⟨hR.last hy, hL.first hx⟩
    · rcases hL.marks x (by simp) with hx | hx <;> omega

theorem merge_split {La Lb Ra Rb : List Int} (hL : Srt (La ++ Lb)) (hR : Srt (Ra ++ Rb))
    (h1 : La = [] ∨ Rb = [] ∨ ∃ A x y B, La = A ++ [x] ∧ Rb = y :: B ∧ ¬ classZ y < classZ x)
    (h2 : Ra = [] ∨ Lb = [] ∨ ∃ A y x B, Ra = A ++ [y] ∧ Lb = x :: B ∧ classZ y < classZ x) :
    sortM (La ++ Ra) ++ sortM (Lb ++ Rb) = sortM (La ++ Lb ++ (Ra ++ Rb)) := by
  have c1 := hL.cut La Lb rfl
  have c2 := hR.cut Ra Rb rfl
  have c3 := cut_le hL.left hR.right h1
  have c4 := cut_lt hR.left hL.right h2
  simp only [sortM_low_high, lowM_append, highM_append]
  rcases c4 with rfl | rfl | ⟨h4, h5⟩
  · rcases c1 with c1 | c1 <;> rcases c3 with c3 | c3 <;> simp only [lowM_none, highM_none, c1, c3, List.append_nil, List.nil_append, List.append_assoc]
  · rcases c2 with c2 | c2 <;> rcases c3 with c3 | c3 <;> simp only [lowM_none, highM_none, c2, c3, List.append_nil, List.nil_append, List.append_assoc]
  · rcases c3 with c3 | c3 <;> simp [h4, h5, c3]

theorem merge_one {x : Int} {Ra Rb : List Int} (hx : Mark x) (hR : Srt (Ra ++ Rb))
    (h1 : Ra = [] ∨ ∃ A y, Ra = A ++ [y] ∧ classZ y < classZ x) (h2 : Rb = [] ∨ ∃ y B, Rb = y :: B ∧ ¬ classZ y < classZ x) :
    Ra ++ [x] ++ Rb = sortM ([x] ++ (Ra ++ Rb)) := by
  have h := merge_split (La := []) (Lb := [x]) (Ra := Ra) (Rb := Rb) ⟨by simpa using hx, fun A B e => ?_⟩ hR (.inl rfl) ?_
  · simp only [List.nil_append] at h
    rw [← h, hR.left.self]
    have h3 := merge_split (La := [x]) (Lb := []) (Ra := []) (Rb := Rb) ⟨by simpa using hx, fun A B e => ?_⟩ hR.right ?_ (.inl rfl)
    · simp only [List.append_nil, List.nil_append] at h3
      rw [← h3, hR.right.self]
      have h4 : sortM [x] = [x] := by
        rcases hx with hx | hx
        · simp [sortM_low_high, lowM_one hx]
        · simp [sortM_low_high, highM_one hx]
      rw [h4]
      simp
    · simp only [List.append_nil] at e
      rcases A with _ | ⟨z, A⟩
      · exact .inl rfl
      · simp at e
        obtain ⟨_, rfl, rfl⟩ := e
        exact .inr rfl
    · rcases h2 with h2 | ⟨y, B, h2, h5⟩
      · exact .inr (.inl h2)
      · exact .inr (.inr ⟨[], x, y, B, rfl, h2, h5⟩)
  · rcases A with _ | ⟨z, A⟩
    · exact .inl rfl
    · simp at e
      obtain ⟨_, rfl, rfl⟩ := e
      exact .inr rfl
  · rcases h1 with h1 | ⟨A, y, h1, h5⟩
    · exact .inl h1
    · exact .inr (.inr ⟨A, y, x, [], h1, rfl, h5⟩)

theorem srt_single {x : Int} (hx : Mark x) : Srt [x] := ⟨by simpa using hx, fun A B e => by
  rcases A with _ | ⟨z, A⟩
  · exact .inl rfl
  · simp at e
    obtain ⟨_, rfl, rfl⟩ := e
    exact .inr rfl⟩

theorem merge_two {y : Int} {La Lb : List Int} (hy : Mark y) (hL : Srt (La ++ Lb))
    (h1 : La = [] ∨ ∃ A x, La = A ++ [x] ∧ ¬ classZ y < classZ x) (h2 : Lb = [] ∨ ∃ x B, Lb = x :: B ∧ classZ y < classZ x) :
    La ++ [y] ++ Lb = sortM (La ++ Lb ++ [y]) := by
  have h := merge_split (La := La) (Lb := Lb) (Ra := [y]) (Rb := []) hL (by simpa using srt_single hy) (.inr (.inl rfl)) ?_
  · simp only [List.append_nil] at h
    rw [← h, hL.right.self]
    have h3 := merge_split (La := La) (Lb := []) (Ra := []) (Rb := [y]) (by simpa using hL.left) (by simpa using srt_single hy) ?_ (.inl rfl)
    · simp only [List.append_nil, List.nil_append] at h3
      rw [← h3, hL.left.self, (srt_single hy).self]
    · rcases h1 with h1 | ⟨A, x, h1, h5⟩
      · exact .inl h1
      · exact .inr (.inr ⟨A, x, y, [], h1, rfl, h5⟩)
  · rcases h2 with h2 | ⟨x, B, h2, h5⟩
    · exact .inr (.inl h2)
    · exact .inr (.inr ⟨[], y, x, B, rfl, h2, h5⟩)
end Go.Proofs.YtjpmomklkkifjaaGreatDoor
namespace Go.Proofs.YtjpmomklkkifjaaGreatDoor
open Go.RowKit Go.Sort
set_option maxRecDepth 100000

theorem cmp_quiet (x y : Int) (w : World) (n : Nat) : Calls Tryz.prog 137 #[.int .i32 x, .int .i32 y] (w.drewN n) fun e w' => e = .returned (.int .i64 (cmpZ x y)) ∧ w' = w.drewN n := cmp_calls x y (w.drewN n)

theorem regroup (P A B S : List Int) (y : Int) : P ++ (A ++ B) ++ [y] ++ S = (P ++ A) ++ (B ++ y :: ([] ++ S)) := by simp
theorem at_part (A R S : List Int) (t : Nat) (ht : t < R.length) : (A ++ R ++ S)[A.length + t]? = R[t]? := by
  rw [List.append_assoc, List.getElem?_append_right (by omega), Nat.add_sub_cancel_left, List.getElem?_append_left ht]
theorem take_last {R : List Int} {t : Nat} {y : Int} (h : R[t]? = some y) : R.take (t + 1) = R.take t ++ [y] := by
  rw [List.take_add_one, h]
  rfl
theorem drop_first {R : List Int} {t : Nat} {y : Int} (h : R[t]? = some y) : R.drop t = y :: R.drop (t + 1) := by
  obtain ⟨ht, hy⟩ := List.getElem?_eq_some_iff.1 h
  rw [List.drop_eq_getElem_cons ht, hy]
theorem swap_adj (A B : List Int) (x y : Int) : ((A ++ x :: y :: B).set A.length y).set (A.length + 1) x = A ++ y :: x :: B := by
  rw [List.set_append_right _ _ (Nat.le_refl _), Nat.sub_self, List.set_cons_zero, List.set_append_right _ _ (by omega), Nat.add_sub_cancel_left]
  rfl
theorem swap_adj' (A B : List Int) (x y : Int) : ((A ++ x :: y :: B).set (A.length + 1) x).set A.length y = A ++ y :: x :: B := by
  rw [List.set_append_right _ _ (by omega), Nat.add_sub_cancel_left, List.set_append_right _ _ (Nat.le_refl _), Nat.sub_self]
  rfl
theorem at_zero (A B : List Int) (x : Int) : (A ++ x :: B)[A.length]? = some x := by
  rw [List.getElem?_append_right (Nat.le_refl _), Nat.sub_self]
  rfl
theorem at_one (A B : List Int) (x y : Int) : (A ++ x :: y :: B)[A.length + 1]? = some y := by
  rw [List.getElem?_append_right (by omega), Nat.add_sub_cancel_left]
  rfl

set_option maxRecDepth 100000 in
set_option maxHeartbeats 1000000 in
theorem symMerge_one (w0 : World) (g cap : Nat) (tail : List Value) (P : List Int) (x : Int) (R S : List Int) (w : World) (hx : Mark x) (hR : Srt R) (hR0 : R ≠ []) (hlen : (P ++ [x] ++ R ++ S).length ≤ 1000) (h : RowAt w0 g tail (P ++ [x] ++ R ++ S) w) :
    Calls Tryz.prog 208 #[.slice (some ⟨g, 0, none⟩) (P ++ [x] ++ R ++ S).length cap, .int .i64 P.length, .int .i64 (P ++ [x]).length, .int .i64 (P ++ [x] ++ R).length, .func (.func 137) #[] #[]] w fun e w' =>
      e = .returned (.tuple #[]) ∧ RowAt w0 g tail (P ++ sortM ([x] ++ R) ++ S) w' := by
  obtain ⟨N, hN⟩ : ∃ N, (P ++ [x] ++ R ++ S).length = N := ⟨_, rfl⟩
  obtain ⟨a, hA⟩ : ∃ a, P.length = a := ⟨_, rfl⟩
  obtain ⟨m, hM⟩ : ∃ m, (P ++ [x]).length = m := ⟨_, rfl⟩
  obtain ⟨b, hB⟩ : ∃ b, (P ++ [x] ++ R).length = b := ⟨_, rfl⟩
  obtain ⟨T, hT⟩ : ∃ T, P ++ sortM ([x] ++ R) ++ S = T := ⟨_, rfl⟩
  obtain ⟨zs, hZ⟩ : ∃ zs, P ++ [x] ++ R ++ S = zs := ⟨_, rfl⟩
  have hr0 := List.length_pos_iff.2 hR0
  have hm : m = a + 1 := by rw [← hM, ← hA]; simp
  have hb : b = m + R.length := by rw [← hB, ← hM]; simp; omega
  have hNb : b ≤ N := by rw [← hN, ← hB]; simp
  rw [hN, hA, hM, hB, hT]
  rw [hN] at hlen
  rw [hZ] at h
  have hza : zs[a]? = some x := by
    rw [← hZ, ← hA]
    simp
  have hmz : (m : Int) = (a : Int) + 1 := by omega
  have hm1 : (m : Int) - (a : Int) = 1 := by omega
  have hmb : m < b := by omega
  have HR := hide hR
  have Hx := hide hx
  have H := hide h
  have HZ : Hid (P ++ [x] ++ R ++ S = zs ∧ P.length = a ∧ b = m + R.length ∧ zs.length = N) := ⟨hZ, hA, hb, by rw [← hZ]; exact hN⟩
  have HT := hide hT
  have Hza := hide hza
  have Hm := hide hm
  clear hR hx h hZ hA hM hB hN hT hza hR0 hr0 hb hm hmz
  go_enter Tryz.func208, Tryz.ntmps208
  go_wp2_with fail
  go_loopg [10, 11] (b + 1) (fun k vi vj wr => ∃ i j : Nat, j - i ≤ k ∧ m ≤ i ∧ i ≤ j ∧ j ≤ b ∧ vi = .int .i64 i ∧ vj = .int .i64 j ∧ Hid ((i = m ∨ ∃ y, zs[i - 1]? = some y ∧ classZ y < classZ x) ∧ (j = b ∨ ∃ y, zs[j]? = some y ∧ ¬ classZ y < classZ x)) ∧ Hid (RowAt w0 g tail zs wr))
  case atStart => exact ⟨m, b, by omega, by omega, by omega, by omega, rfl, rfl, ⟨.inl rfl, .inl rfl⟩, H⟩
  case round =>
    obtain ⟨i, j, hk, hi1, hij, hjb, rfl, rfl, HS, HW⟩ := hrel
    by_cases hlt : i < j
    · have hltz : (i : Int) < (j : Int) := by omega
      obtain ⟨q, hq⟩ : ∃ q, q = (i + j) / 2 := ⟨_, rfl⟩
      have hqz : ((i : Int) + (j : Int)) / 2 = (q : Int) := by omega
      have hq1 : i ≤ q := by omega
      have hq2 : q < j := by omega
      have hqN : (q : Int) < (N : Int) := by omega
      have haN : (a : Int) < (N : Int) := by have := unhide Hm; omega
      obtain ⟨y, hy⟩ : ∃ y, zs[q]? = some y := ⟨_, List.getElem?_eq_getElem (by have := (unhide HZ).2.2.2; omega)⟩
      have c1 := (unhide HW).cell hy
      have c2 := (unhide HW).cell (unhide Hza)
      have hc := fun n => cmp_quiet y x wr n
      have Hy := hide hy
      have Hd : Hid (cmpZ y x = classZ y - classZ x) := rfl
      clear hy hq
      generalize cmpZ y x = c at *
      by_cases hc0 : c < 0
      · go_wp2_with fail
        go_quiet (refine Calls.quiet_of_same (hc _))
        go_wp2_with fail
        go_roundg (j - (q + 1))
        case measure => omega
        case rel => exact ⟨q + 1, j, by omega, by omega, by omega, hjb, by simp, rfl, ⟨.inr ⟨y, by rw [Nat.add_sub_cancel]; exact unhide Hy, by have := unhide Hd; omega⟩, (unhide HS).2⟩, (unhide HW).drew _⟩
      · go_wp2_with fail
        go_quiet (refine Calls.quiet_of_same (hc _))
        go_wp2_with fail
        go_roundg (q - i)
        case measure => omega
        case rel => exact ⟨i, q, by omega, hi1, by omega, by omega, rfl, rfl, ⟨(unhide HS).1, .inr ⟨y, unhide Hy, by have := unhide Hd; omega⟩⟩, (unhide HW).drew _⟩
    · have hltz : ¬ (i : Int) < (j : Int) := by omega
      obtain rfl : i = j := by omega
      -- the two parts of the row behind
      obtain ⟨hZ, hA, hb, hzN⟩ := unhide HZ
      have hm := unhide Hm
      have hzat : ∀ t, t < R.length → zs[m + t]? = R[t]? := fun t ht => by
        have h1 := at_part (P ++ [x]) R S t ht
        rw [hZ] at h1
        rw [← h1]
        congr 1
        rw [List.length_append]
        simp only [List.length_cons, List.length_nil]
        omega
      obtain ⟨t, ht⟩ : ∃ t, i = m + t := ⟨i - m, by omega⟩
      have h1 : R.take t = [] ∨ ∃ A y, R.take t = A ++ [y] ∧ classZ y < classZ x := by
        rcases (unhide HS).1 with h1 | ⟨y, h1, h2⟩
        · obtain rfl : t = 0 := by omega
          exact .inl rfl
        · rcases Nat.eq_zero_or_pos t with h0 | h0
          · subst h0
            exact .inl rfl
          · obtain ⟨t', rfl⟩ : ∃ t', t = t' + 1 := ⟨t - 1, by omega⟩
            rw [show i - 1 = m + t' by omega, hzat t' (by omega)] at h1
            exact .inr ⟨_, y, take_last h1, h2⟩
      have h2 : R.drop t = [] ∨ ∃ y B, R.drop t = y :: B ∧ ¬ classZ y < classZ x := by
        rcases (unhide HS).2 with h1 | ⟨y, h1, h2⟩
        · exact .inl (List.drop_eq_nil_of_le (by omega))
        · rcases Nat.lt_or_ge t R.length with h3 | h3
          · rw [ht, hzat t h3] at h1
            exact .inr ⟨y, _, drop_first h1, h2⟩
          · exact .inl (List.drop_eq_nil_of_le h3)
      have htl : (R.take t).length = t := by rw [List.length_take]; omega
      have hfin := merge_one (unhide Hx) (by rw [List.take_append_drop]; exact unhide HR) h1 h2
      rw [List.take_append_drop] at hfin
      have Hfin : Hid (P ++ R.take t ++ x :: (R.drop t ++ S) = T) := by
        show _ = _
        rw [← unhide HT, ← hfin]
        simp
      have Hst : Hid (zs = P ++ [] ++ x :: (R.take t ++ (R.drop t ++ S))) := by
        show _ = _
        rw [← hZ, ← List.append_assoc (R.take t), List.take_append_drop]
        simp
      have hiz : (i : Int) - 1 = ((a + t : Nat) : Int) := by omega
      have htN : a + t + 1 ≤ N := by omega
      have HA := hide hA
      have Hrt := hide htl
      clear hZ hA hb hzat h1 h2 hfin HT HZ Hza HS HR Hx htl hm1 hm hzN
      generalize R.take t = Ra at *
      generalize R.drop t = Rb at *
      go_wp2_with fail
      go_loopg [13] (t + 1) (fun k vk wr => ∃ (u : Nat) (A B : List Int), k = t + 1 - u ∧ u ≤ t ∧ vk = .int .i64 ((a + u : Nat) : Int) ∧ Hid (Ra = A ++ B ∧ A.length = u) ∧ Hid (RowAt w0 g tail (P ++ A ++ x :: (B ++ (Rb ++ S))) wr))
      case atStart => exact ⟨0, [], Ra, rfl, by omega, rfl, ⟨rfl, rfl⟩, by show RowAt _ _ _ _ _; rw [← unhide Hst]; exact unhide HW⟩
      case round =>
        obtain ⟨u, A, B, hk2, hut, rfl, HS2, HW2⟩ := hrel
        by_cases hlu : u < t
        · have hluz : ((a + u : Nat) : Int) < ((a + t : Nat) : Int) := by omega
          obtain ⟨hAB, hAl⟩ := unhide HS2
          obtain ⟨y, B2, rfl⟩ : ∃ y B2, B = y :: B2 := by
            cases B with
            | nil =>
              have := unhide Hrt
              rw [hAB, List.append_nil] at this
              omega
            | cons y B2 => exact ⟨y, B2, rfl⟩
          have hpl : (P ++ A).length = a + u := by rw [List.length_append, unhide HA, hAl]
          obtain ⟨k0, hk0⟩ : ∃ k0, k0 = a + u := ⟨_, rfl⟩
          rw [← hk0] at hpl hluz ⊢
          have c1 := (unhide HW2).cell (at_zero (P ++ A) (y :: B2 ++ (Rb ++ S)) x)
          have c2 := (unhide HW2).cell (at_one (P ++ A) (B2 ++ (Rb ++ S)) x y)
          rw [hpl] at c1 c2
          obtain ⟨k1, hk1⟩ : ∃ k1, k1 = k0 + 1 := ⟨_, rfl⟩
          rw [← hk1] at c2
          have f1 := (unhide HW2).frozen k0
          have f2 := (unhide HW2).frozen k1
          have z1 : ((k0 : Int) + 1).toNat = k1 := by omega
          have z2 : (k0 : Int) + 1 < (N : Int) := by omega
          have z3 : (k0 : Int) < (N : Int) := by omega
          have z4 : 0 ≤ (k0 : Int) + 1 := by omega
          have hne : k0 ≠ k1 := by omega
          have Hpl := hide hpl
          have Hk : Hid (k0 = a + u ∧ k1 = k0 + 1) := ⟨hk0, hk1⟩
          have Hnew : Hid (Ra = (A ++ [y]) ++ B2 ∧ (A ++ [y]).length = u + 1) := ⟨by rw [hAB]; simp, by simp [hAl]⟩
          clear hpl hk0 hk1 hAB hAl
          go_wp2_with fail
          go_big_region
          all_goals go_wp2
          go_roundg (t - u)
          case measure => omega
          case rel =>
            have h0 := unhide Hk
            refine ⟨u + 1, A ++ [y], B2, by omega, by omega, by show Value.int .i64 ((k0 : Int) + 1) = _; congr 1; omega, unhide Hnew, ?_⟩
            show RowAt _ _ _ _ _
            have h3 := ((unhide HW2).set (k := (P ++ A).length) (by simp) y).set (k := (P ++ A).length + 1) (by simp; omega) x
            have h4 := swap_adj (P ++ A) (B2 ++ (Rb ++ S)) x y
            rw [List.cons_append, h4, unhide Hpl, ← h0.2] at h3
            have h5 : RowAt w0 g tail _ ((wr.setCell ⟨g, k0, none⟩ (.int .i32 y)).setCell ⟨g, k1, none⟩ (.int .i32 x)).drew := h3.drew 1
            simpa using h5
        · obtain rfl : u = t := by omega
          have hluz : ¬ ((a + u : Nat) : Int) < ((a + u : Nat) : Int) := by omega
          have hB : B = [] := by
            obtain ⟨hAB, hAl⟩ := unhide HS2
            have := unhide Hrt
            rw [hAB, List.length_append] at this
            exact List.eq_nil_of_length_eq_zero (by omega)
          subst hB
          have Hend : Hid (RowAt w0 g tail T wr) := by
            have h3 := unhide HW2
            have h4 : Ra = A := by have := (unhide HS2).1; simpa using this
            rw [List.nil_append, ← h4, unhide Hfin] at h3
            exact h3
          go_wp2_with fail
          refine bodyPost_ret (results_none rfl _ _ _) rfl ?_
          exact ⟨rfl, unhide Hend⟩

set_option maxRecDepth 100000 in
set_option maxHeartbeats 1000000 in
theorem symMerge_two (w0 : World) (g cap : Nat) (tail : List Value) (P : List Int) (y : Int) (L S : List Int) (w : World) (hy : Mark y) (hL : Srt L) (hL0 : 2 ≤ L.length) (hlen : (P ++ L ++ [y] ++ S).length ≤ 1000) (h : RowAt w0 g tail (P ++ L ++ [y] ++ S) w) :
    Calls Tryz.prog 208 #[.slice (some ⟨g, 0, none⟩) (P ++ L ++ [y] ++ S).length cap, .int .i64 P.length, .int .i64 (P ++ L).length, .int .i64 (P ++ L ++ [y]).length, .func (.func 137) #[] #[]] w fun e w' =>
      e = .returned (.tuple #[]) ∧ RowAt w0 g tail (P ++ sortM (L ++ [y]) ++ S) w' := by
  obtain ⟨N, hN⟩ : ∃ N, (P ++ L ++ [y] ++ S).length = N := ⟨_, rfl⟩
  obtain ⟨a, hA⟩ : ∃ a, P.length = a := ⟨_, rfl⟩
  obtain ⟨m, hM⟩ : ∃ m, (P ++ L).length = m := ⟨_, rfl⟩
  obtain ⟨b, hB⟩ : ∃ b, (P ++ L ++ [y]).length = b := ⟨_, rfl⟩
  obtain ⟨T, hT⟩ : ∃ T, P ++ sortM (L ++ [y]) ++ S = T := ⟨_, rfl⟩
  obtain ⟨zs, hZ⟩ : ∃ zs, P ++ L ++ [y] ++ S = zs := ⟨_, rfl⟩
  have hm : m = a + L.length := by rw [← hM, ← hA]; simp
  have hb : b = m + 1 := by rw [← hB, ← hM]; simp; omega
  have hNb : b ≤ N := by rw [← hN, ← hB]; simp
  rw [hN, hA, hM, hB, hT]
  rw [hN] at hlen
  rw [hZ] at h
  have hza : zs[m]? = some y := by
    rw [← hZ, ← hM]
    simp
  have hm1 : ((m : Int) - (a : Int) == 1) = false := by simpa using (by omega : ¬ (m : Int) - (a : Int) = 1)
  have hm2 : (b : Int) - (m : Int) = 1 := by omega
  have ham : a + 2 ≤ m := by omega
  have HL := hide hL
  have Hy := hide hy
  have H := hide h
  have HZ : Hid (P ++ L ++ [y] ++ S = zs ∧ P.length = a ∧ m = a + L.length ∧ zs.length = N) := ⟨hZ, hA, hm, by rw [← hZ]; exact hN⟩
  have HT := hide hT
  have Hza := hide hza
  have Hb := hide hb
  clear hL hy h hZ hA hM hB hN hT hza hL0 hb hm
  go_enter Tryz.func208, Tryz.ntmps208
  go_wp2_with fail
  go_loopg [14, 15] (b + 1) (fun k vi vj wr => ∃ i j : Nat, j - i ≤ k ∧ a ≤ i ∧ i ≤ j ∧ j ≤ m ∧ vi = .int .i64 i ∧ vj = .int .i64 j ∧ Hid ((i = a ∨ ∃ x, zs[i - 1]? = some x ∧ ¬ classZ y < classZ x) ∧ (j = m ∨ ∃ x, zs[j]? = some x ∧ classZ y < classZ x)) ∧ Hid (RowAt w0 g tail zs wr))
  case atStart => exact ⟨a, m, by omega, by omega, by omega, by omega, rfl, rfl, ⟨.inl rfl, .inl rfl⟩, H⟩
  case round =>
    obtain ⟨i, j, hk, hi1, hij, hjb, rfl, rfl, HS, HW⟩ := hrel
    have hbm : b = m + 1 := unhide Hb
    have hbz : m + 1 ≤ N := by omega
    clear hbm
    by_cases hlt : i < j
    · have hltz : (i : Int) < (j : Int) := by omega
      obtain ⟨q, hq⟩ : ∃ q, q = (i + j) / 2 := ⟨_, rfl⟩
      have hqz : ((i : Int) + (j : Int)) / 2 = (q : Int) := by omega
      have hq1 : i ≤ q := by omega
      have hq2 : q < j := by omega
      have hqN : (q : Int) < (N : Int) := by omega
      have haN : (m : Int) < (N : Int) := by omega
      obtain ⟨x, hx⟩ : ∃ x, zs[q]? = some x := ⟨_, List.getElem?_eq_getElem (by have := (unhide HZ).2.2.2; omega)⟩
      have c1 := (unhide HW).cell hx
      have c2 := (unhide HW).cell (unhide Hza)
      have hc := fun n => cmp_quiet y x wr n
      have Hx := hide hx
      have Hd : Hid (cmpZ y x = classZ y - classZ x) := rfl
      clear hx hq
      generalize cmpZ y x = c at *
      by_cases hc0 : c < 0
      · go_wp2_with fail
        go_quiet (refine Calls.quiet_of_same (hc _))
        go_wp2_with fail
        go_roundg (q - i)
        case measure => omega
        case rel => exact ⟨i, q, by omega, hi1, by omega, by omega, rfl, rfl, ⟨(unhide HS).1, .inr ⟨x, unhide Hx, by have := unhide Hd; omega⟩⟩, (unhide HW).drew _⟩
      · have hd0 : decide (c < 0) = false := decide_eq_false hc0
        go_wp2_with fail
        go_quiet (refine Calls.quiet_of_same (hc _))
        go_wp2_with fail
        go_roundg (j - (q + 1))
        case measure => omega
        case rel => exact ⟨q + 1, j, by omega, by omega, by omega, hjb, by simp, rfl, ⟨.inr ⟨x, by rw [Nat.add_sub_cancel]; exact unhide Hx, by have := unhide Hd; omega⟩, (unhide HS).2⟩, (unhide HW).drew _⟩
    · have hltz : ¬ (i : Int) < (j : Int) := by omega
      obtain rfl : i = j := by omega
      obtain ⟨hZ, hA, hm, hzN⟩ := unhide HZ
      have hzat : ∀ t, t < L.length → zs[a + t]? = L[t]? := fun t ht => by
        have h1 := at_part P L ([y] ++ S) t ht
        rw [← List.append_assoc, hZ, hA] at h1
        exact h1
      obtain ⟨t, ht⟩ : ∃ t, i = a + t := ⟨i - a, by omega⟩
      have h1 : L.take t = [] ∨ ∃ A x, L.take t = A ++ [x] ∧ ¬ classZ y < classZ x := by
        rcases (unhide HS).1 with h1 | ⟨x, h1, h2⟩
        · obtain rfl : t = 0 := by omega
          exact .inl rfl
        · rcases Nat.eq_zero_or_pos t with h0 | h0
          · subst h0
            exact .inl rfl
          · obtain ⟨t', rfl⟩ : ∃ t', t = t' + 1 := ⟨t - 1, by omega⟩
            rw [show i - 1 = a + t' by omega, hzat t' (by omega)] at h1
            exact .inr ⟨_, x, take_last h1, h2⟩
      have h2 : L.drop t = [] ∨ ∃ x B, L.drop t = x :: B ∧ classZ y < classZ x := by
        rcases (unhide HS).2 with h1 | ⟨x, h1, h2⟩
        · exact .inl (List.drop_eq_nil_of_le (by omega))
        · rcases Nat.lt_or_ge t L.length with h3 | h3
          · rw [ht, hzat t h3] at h1
            exact .inr ⟨x, _, drop_first h1, h2⟩
          · exact .inl (List.drop_eq_nil_of_le h3)
      have htl : (L.drop t).length = m - i := by rw [List.length_drop]; omega
      have hla : (P ++ L.take t).length = i := by rw [List.length_append, List.length_take]; omega
      have hfin := merge_two (unhide Hy) (by rw [List.take_append_drop]; exact unhide HL) h1 h2
      rw [List.take_append_drop] at hfin
      have Hfin : Hid ((P ++ L.take t) ++ y :: (L.drop t ++ S) = T) := by
        show _ = _
        rw [← unhide HT, ← hfin]
        simp
      have Hst : Hid (zs = (P ++ L.take t) ++ (L.drop t ++ y :: ([] ++ S))) := by
        show _ = _
        rw [← regroup, List.take_append_drop, hZ]
      have Hla := hide hla
      have Hrt := hide htl
      clear hZ hA hm hzat h1 h2 hfin HT HZ Hza HS HL Hy htl hm1 hzN hla ht
      generalize P ++ L.take t = Q at *
      generalize L.drop t = Lb at *
      go_wp2_with fail
      go_loopg [17] (m + 1) (fun k vk wr => ∃ (u : Nat) (A B : List Int), u - i ≤ k ∧ i ≤ u ∧ u ≤ m ∧ vk = .int .i64 u ∧ Hid (Lb = A ++ B ∧ A.length + i = u) ∧ Hid (RowAt w0 g tail (Q ++ (A ++ y :: (B ++ S))) wr))
      case atStart => exact ⟨m, Lb, [], by omega, by omega, by omega, rfl, ⟨by simp, by have := unhide Hrt; omega⟩, by show RowAt _ _ _ _ _; rw [← unhide Hst]; exact unhide HW⟩
      case round =>
        obtain ⟨u, A, B, hk2, hut, hum, rfl, HS2, HW2⟩ := hrel
        by_cases hlu : i < u
        · have hluz : (i : Int) < (u : Int) := by omega
          obtain ⟨hAB, hAl⟩ := unhide HS2
          obtain ⟨A2, x, rfl⟩ : ∃ A2 x, A = A2 ++ [x] := by
            rcases last_or A with h0 | h0
            · subst h0
              simp at hAl
              omega
            · exact h0
          rw [List.length_append, List.length_singleton] at hAl
          have e0 : Q ++ ((A2 ++ [x]) ++ y :: (B ++ S)) = (Q ++ A2) ++ x :: y :: (B ++ S) := by simp
          have hpl : (Q ++ A2).length + 1 = u := by rw [List.length_append, unhide Hla]; omega
          have HW3 : Hid (RowAt w0 g tail ((Q ++ A2) ++ x :: y :: (B ++ S)) wr) := by
            show RowAt _ _ _ _ _
            rw [← e0]
            exact unhide HW2
          have c1 := (unhide HW3).cell (at_zero (Q ++ A2) (y :: (B ++ S)) x)
          have c2 := (unhide HW3).cell (at_one (Q ++ A2) (B ++ S) x y)
          obtain ⟨k0, hk0⟩ : ∃ k0, k0 + 1 = u := ⟨u - 1, by omega⟩
          have hpl0 : (Q ++ A2).length = k0 := by omega
          rw [hpl] at c2
          rw [hpl0] at c1
          have f1 := (unhide HW3).frozen k0
          have f2 := (unhide HW3).frozen u
          have z1 : (u : Int) - 1 = (k0 : Int) := by omega
          have z2 : (u : Int) < (N : Int) := by omega
          have z3 : (k0 : Int) < (N : Int) := by omega
          have hne : u ≠ k0 := by omega
          have Hpl := hide hpl0
          have Hk := hide hk0
          have Hnew : Hid (Lb = A2 ++ (x :: B) ∧ A2.length + i = k0) := ⟨by rw [hAB]; simp, by omega⟩
          clear hpl hpl0 hk0 hAB hAl e0 HW2
          go_wp2_with fail
          go_big_region
          all_goals go_wp2
          go_roundg (k0 - i)
          case measure => have := unhide Hk; omega
          case rel =>
            have h0 := unhide Hk
            refine ⟨k0, A2, x :: B, by omega, by omega, by omega, by first | rfl | (congr 1; omega), unhide Hnew, ?_⟩
            show RowAt _ _ _ _ _
            have h3 := ((unhide HW3).set (k := (Q ++ A2).length + 1) (by simp; omega) x).set (k := (Q ++ A2).length) (by simp) y
            have h4 := swap_adj' (Q ++ A2) (B ++ S) x y
            rw [h4, unhide Hpl, h0] at h3
            have h5 : RowAt w0 g tail _ ((wr.setCell ⟨g, u, none⟩ (.int .i32 x)).setCell ⟨g, k0, none⟩ (.int .i32 y)).drew := h3.drew 1
            simpa using h5
        · obtain rfl : u = i := by omega
          have hluz : ¬ (u : Int) < (u : Int) := by omega
          have hA0 : A = [] := List.eq_nil_of_length_eq_zero (by have := (unhide HS2).2; omega)
          subst hA0
          have Hend : Hid (RowAt w0 g tail T wr) := by
            have h3 := unhide HW2
            have h4 : Lb = B := by have := (unhide HS2).1; simpa using this
            rw [List.nil_append, ← h4, unhide Hfin] at h3
            exact h3
          go_wp2_with fail
          refine bodyPost_ret (results_none rfl _ _ _) rfl ?_
          exact ⟨rfl, unhide Hend⟩
end Go.Proofs.YtjpmomklkkifjaaGreatDoor
