/-
  Letters count ahead of marks: plain facts of keys.
-/
import Derived.Test.YtdflokjpgbeniaaDoorBare
import Derived.Test.YtdflokjpgbeniaaDoorKeyWalk
namespace Go.Proofs.YtdflokjpgbeniaaDoor
open Go.Lib

theorem foldl_plain : ∀ (ps a : List Int), (∀ p ∈ ps, classZ p = 0) → ps.foldl stepS (a, []) = (a ++ ps, [])
  | [], a, _ => by simp
  | p :: ps, a, h => by
    rw [List.foldl_cons]
    have e : stepS (a, []) p = (a ++ [p], []) := by
      unfold stepS
      rw [if_pos (h p (by simp))]
      simp [sortM]
    rw [e, foldl_plain ps (a ++ [p]) (fun q hq => h q (by simp [hq]))]
    simp
theorem join_plain {ps : List Int} (h : ∀ p ∈ ps, classZ p = 0) : joinS ps = ps := by
  unfold joinS runS
  rw [foldl_plain ps [] h]
  simp [sortM]
theorem noMarks_class (ps : List Int) : ∀ p ∈ noMarks ps, classZ p = 0 := fun p hp => by
  have := (List.mem_filter.1 hp).2
  simpa using this
theorem noMarks_map (ps : List Int) : noMarks (ps.map foldZ) = (noMarks ps).map foldZ := by
  unfold noMarks
  rw [List.filter_map]
  have e : ((fun r => classZ r == 0) ∘ foldZ) = fun r => classZ r == 0 := by funext r; simp [class_fold]
  rw [e]
theorem bare_base {rs : List Int} (h : Name rs) : ∀ p ∈ bareL rs, baseZ p = true := fun p hp => by
  rcases h.part p (List.mem_filter.1 hp).1 with h1 | h1
  · exact h1
  · have h2 := noMarks_class _ p hp
    rcases h1 with h1 | h1 <;> omega
theorem bare_parts {rs : List Int} (h : Name rs) : partsL (bareL rs) = bareL rs := partsL_self (fun r hr => part_plain (.inl (bare_base h r hr)))
theorem bare_split {rs : List Int} (h : Name rs) : splitL (bareL rs) = bareL rs := by
  rw [splitL_join, bare_parts h]
  exact join_plain (noMarks_class _)
theorem bare_fold {rs : List Int} (h : Name rs) : foldL (bareL rs) = noMarks (foldL rs) := by
  unfold foldL
  rw [bare_split h, noMarks_map]
  rfl
theorem baseF_class {q : Int} (h : BaseF q ∨ q = 67) : classZ q = 0 := by
  unfold classZ
  unfold BaseF at h
  rw [if_neg (by omega), if_neg (by omega)]
theorem bare_ne {rs : List Int} (h : Name rs) : bareL rs ≠ [] := by
  intro e
  obtain ⟨q, t, hq, hb⟩ := h.fold_head
  have h1 := bare_fold h
  rw [e, hq] at h1
  have h2 : q ∈ noMarks (q :: t) := List.mem_filter.2 ⟨by simp, by simp [baseF_class (.inl hb)]⟩
  rw [← h1] at h2
  simp [foldL, splitL, partsL, runS, sortM] at h2
theorem bare_name {rs : List Int} (h : Name rs) (hb : (encL (bareL rs)).length ≤ 24) : Name (bareL rs) where
  signs := fun r hr => by
    unfold isZ
    rw [bare_base h r hr]
    simp
  ne := bare_ne h
  first := fun r t e => noMarks_class (splitL rs) r (by show r ∈ bareL rs; rw [e]; simp)
  bytes := hb
  few := by
    rw [bare_split h]
    exact Nat.le_trans (List.length_filter_le _ _) h.few
theorem bare_marks {rs : List Int} (h : Name rs) : marks (partsL (bareL rs)) < 20 := by
  rw [bare_parts h]
  have h1 := marks_le (bareL rs)
  have h2 : (bareL rs).length ≤ (splitL rs).length := List.length_filter_le _ _
  have := h.few
  omega
theorem bare_small {rs : List Int} (h : Name rs) : ∀ r ∈ bareL rs, SmallR r := fun r hr => splitL_small h.small r (List.mem_filter.1 hr).1
theorem bare_short {rs : List Int} (h : Name rs) : (bareL rs).length ≤ 12 := Nat.le_trans (List.length_filter_le _ _) h.few

theorem dig_miss {a b : Int} {t : List Int} (h : ¬ (a = 99 ∧ b = 104)) : dig (a :: b :: t) = dig (b :: t) := by
  simp [dig, h]
theorem dig_hit (t : List Int) : dig (99 :: 104 :: t) = 1 + dig t := by
  cases t <;> simp [dig]
theorem dig_first {a : Int} (t : List Int) (h : a ≠ 99) : dig (a :: t) = dig t := by
  cases t with
  | nil => simp [dig]
  | cons b t => simp [dig, h]
theorem dig_cons_ge (a : Int) (t : List Int) : dig t ≤ dig (a :: t) := by
  cases t with
  | nil => simp [dig]
  | cons b t => simp [dig]
theorem noMarks_cons_pos {a : Int} (t : List Int) (h : classZ a = 0) : noMarks (a :: t) = a :: noMarks t := by simp [noMarks, h]
theorem noMarks_cons_neg {a : Int} (t : List Int) (h : classZ a ≠ 0) : noMarks (a :: t) = noMarks t := by simp [noMarks, h]
theorem c99 : classZ 99 = 0 := by decide
theorem c104 : classZ 104 = 0 := by decide
theorem c67 : classZ 67 = 0 := by decide

theorem dig_noMarks : ∀ (n : Nat) (F : List Int), F.length ≤ n → dig F ≤ dig (noMarks F)
  | _, [], _ => by simp [dig]
  | _, [_], _ => by simp [dig]
  | 0, _ :: _ :: _, h => by simp at h
  | n + 1, a :: b :: t, h => by
    have ih := dig_noMarks n (b :: t) (by simp at h ⊢; omega)
    by_cases hab : a = 99 ∧ b = 104
    · obtain ⟨rfl, rfl⟩ := hab
      have ih2 := dig_noMarks n t (by simp at h; omega)
      rw [noMarks_cons_pos _ c99, noMarks_cons_pos _ c104, dig_hit, dig_hit]
      omega
    · rw [dig_miss hab]
      by_cases hc : classZ a = 0
      · rw [noMarks_cons_pos _ hc]
        exact Nat.le_trans ih (dig_cons_ge _ _)
      · rw [noMarks_cons_neg _ hc]
        exact ih

theorem repl_hit (t : List Int) : repl (99 :: 104 :: t) = 67 :: repl t := by rw [repl]; simp
theorem repl_miss {a b : Int} {t : List Int} (h : ¬ (a = 99 ∧ b = 104)) : repl (a :: b :: t) = a :: repl (b :: t) := by rw [repl, if_neg h]
theorem repl_nil : repl [] = [] := by rw [repl]

theorem repl_noMarks : ∀ (n : Nat) (F : List Int), F.length ≤ n → dig F = dig (noMarks F) → repl (noMarks F) = noMarks (repl F)
  | _, [], _, _ => by rw [repl_nil]; show repl [] = []; exact repl_nil
  | _, [a], _, _ => by
    rw [repl_one]
    by_cases hc : classZ a = 0
    · rw [noMarks_cons_pos _ hc]
      exact repl_one a
    · rw [noMarks_cons_neg _ hc]
      exact repl_nil
  | 0, _ :: _ :: _, h, _ => by simp at h
  | n + 1, a :: b :: t, h, hd => by
    by_cases hab : a = 99 ∧ b = 104
    · obtain ⟨rfl, rfl⟩ := hab
      rw [noMarks_cons_pos _ c99, noMarks_cons_pos _ c104, dig_hit, dig_hit] at hd
      rw [noMarks_cons_pos _ c99, noMarks_cons_pos _ c104, repl_hit, repl_hit, noMarks_cons_pos _ c67, repl_noMarks n t (by simp at h; omega) (by omega)]
    · rw [dig_miss hab] at hd
      rw [repl_miss hab]
      by_cases hc : classZ a = 0
      · rw [noMarks_cons_pos _ hc] at hd ⊢
        rw [noMarks_cons_pos _ hc]
        have hle := dig_noMarks (b :: t).length (b :: t) (Nat.le_refl _)
        have ih := repl_noMarks n (b :: t) (by simp at h ⊢; omega)
        generalize noMarks (b :: t) = G at hd hle ih ⊢
        cases G with
        | nil =>
          rw [← ih (by simp [dig] at hd hle ⊢; omega), repl_one, repl_nil]
        | cons g G =>
          by_cases hg : a = 99 ∧ g = 104
          · obtain ⟨rfl, rfl⟩ := hg
            rw [dig_hit] at hd
            have := dig_first G (a := 104) (by decide)
            omega
          · rw [dig_miss hg] at hd
            rw [repl_miss hg, ih hd]
      · have ha : a ≠ 99 := by rintro rfl; exact hc c99
        rw [noMarks_cons_neg _ hc] at hd ⊢
        rw [noMarks_cons_neg _ hc]
        exact repl_noMarks n (b :: t) (by simp at h ⊢; omega) hd

theorem runK_bases : ∀ (ts : List Int) (st : List Int × List Int), (∀ q ∈ ts, (BaseF q ∨ q = 67) ∨ Mark q) → (ts.foldl stepK st).1 = st.1 ++ (noMarks ts).map weightE
  | [], st, _ => by simp [noMarks]
  | q :: ts, st, h => by
    rw [List.foldl_cons, runK_bases ts _ (fun x hx => h x (by simp [hx]))]
    rcases h q (by simp) with h1 | h1
    · rw [step_base h1, noMarks_cons_pos _ (baseF_class h1)]
      simp
    · rw [step_mark h1, noMarks_cons_neg _ (by rcases h1 with h1 | h1 <;> omega)]
theorem noMarks_again (ts : List Int) : noMarks (noMarks ts) = noMarks ts := by
  unfold noMarks
  simp

/-- The letters' part of a key. -/
theorem key_letters {a : List Int} (h : Name a) : (runK (repl (foldL a))).1 = (noMarks (repl (foldL a))).map weightE := by
  have := runK_bases (repl (foldL a)) ([], []) (repl_kind (fold_kind h.signs))
  simpa [runK] using this
theorem key_letters_bare {a : List Int} (h : Name a) (hx : Name (bareL a)) (hd : dig (foldL a) = dig (foldL (bareL a))) : (runK (repl (foldL a))).1 = (runK (repl (foldL (bareL a)))).1 := by
  rw [key_letters h, key_letters hx]
  rw [bare_fold h] at hd ⊢
  rw [repl_noMarks _ _ (Nat.le_refl _) hd, noMarks_again]

theorem map_weight_inj : ∀ (a b : List Int), (∀ q ∈ a, BaseF q ∨ q = 67) → (∀ q ∈ b, BaseF q ∨ q = 67) → a.map weightE = b.map weightE → a = b
  | [], [], _, _, _ => rfl
  | [], _ :: _, _, _, h => by simp at h
  | _ :: _, [], _, _, h => by simp at h
  | x :: a, y :: b, ha, hb, h => by
    rw [List.map_cons, List.map_cons, List.cons.injEq] at h
    rw [weightE_inj (ha x (by simp)) (hb y (by simp)) h.1, map_weight_inj a b (fun q hq => ha q (by simp [hq])) (fun q hq => hb q (by simp [hq])) h.2]

theorem bare_letters_ne {a b : List Int} (ha : Name a) (hb : Name b) (hxa : Name (bareL a)) (hxb : Name (bareL b)) (hf : foldL (bareL a) ≠ foldL (bareL b)) : (runK (repl (foldL (bareL a)))).1 ≠ (runK (repl (foldL (bareL b)))).1 := by
  intro e
  have plain : ∀ {c : List Int}, Name c → Name (bareL c) → noMarks (repl (foldL (bareL c))) = repl (foldL (bareL c)) := fun {c} hc hx => by
    apply List.filter_eq_self.2
    intro q hq
    have hk : ∀ q ∈ foldL (bareL c), BaseF q := fun q hq => by
      rcases fold_kind hx.signs q hq with h | h
      · exact h
      · rw [bare_fold hc] at hq
        have := noMarks_class _ q hq
        rcases h with h | h <;> omega
    have hk2 : ∀ q ∈ repl (foldL (bareL c)), BaseF q ∨ q = 67 := fun q hq => by
      have h1 : q ∈ unrepl (repl (foldL (bareL c))) ∨ q = 67 := by
        by_cases h67 : q = 67
        · exact .inr h67
        · exact .inl (List.mem_flatMap.2 ⟨q, hq, by simp [h67]⟩)
      rcases h1 with h1 | h1
      · rw [unrepl_repl (fun r hr => kind_no67 (fold_kind hx.signs r hr))] at h1
        exact .inl (hk q h1)
      · exact .inr h1
    simp [baseF_class (hk2 q hq)]
  have kind : ∀ {c : List Int}, Name c → Name (bareL c) → ∀ q ∈ repl (foldL (bareL c)), BaseF q ∨ q = 67 := fun {c} hc hx q hq => by
    rcases repl_kind (fold_kind hx.signs) q hq with h | h
    · exact h
    · rw [← plain hc hx] at hq
      have := noMarks_class _ q hq
      rcases h with h | h <;> omega
  rw [key_letters hxa, key_letters hxb, plain ha hxa, plain hb hxb] at e
  have h1 := map_weight_inj _ _ (kind ha hxa) (kind hb hxb) e
  have h2 : unrepl (repl (foldL (bareL a))) = unrepl (repl (foldL (bareL b))) := by rw [h1]
  rw [unrepl_repl (fun r hr => kind_no67 (fold_kind hxa.signs r hr)), unrepl_repl (fun r hr => kind_no67 (fold_kind hxb.signs r hr))] at h2
  exact hf h2

theorem cmp_ahead : ∀ (A B : List UInt8) (R S R' S' : List UInt8), (∀ x ∈ A, 1 < x) → (∀ x ∈ B, 1 < x) → A ≠ B → compareBytes (A ++ 1 :: R) (B ++ 1 :: S) = compareBytes (A ++ 1 :: R') (B ++ 1 :: S')
  | [], [], _, _, _, _, _, _, h => absurd rfl h
  | [], b :: B, R, S, R', S', _, hB, _ => by
    have h := hB b (by simp)
    simp [compareBytes, h]
  | a :: A, [], R, S, R', S', hA, _, _ => by
    have h := hA a (by simp)
    have h2 : ¬ a < 1 := by rw [UInt8.lt_iff_toNat_lt] at h ⊢; omega
    simp [compareBytes, h, h2]
  | a :: A, b :: B, R, S, R', S', hA, hB, h => by
    simp only [List.cons_append, compareBytes]
    by_cases h1 : a < b
    · rw [if_pos h1, if_pos h1]
    · rw [if_neg h1, if_neg h1]
      by_cases h2 : b < a
      · rw [if_pos h2, if_pos h2]
      · rw [if_neg h2, if_neg h2]
        have e : a = b := by
          rw [UInt8.lt_iff_toNat_lt] at h1 h2
          exact UInt8.toNat_inj.1 (by omega)
        exact cmp_ahead A B R S R' S' (fun x hx => hA x (by simp [hx])) (fun x hx => hB x (by simp [hx])) (fun h3 => h (by rw [e, h3]))

theorem key_shape (a : List Int) : (keyOf a).data.toList = ((runK (repl (foldL a))).1.map fun (z : Int) => z.toNat.toUInt8) ++ 1 :: (((runK (repl (foldL a))).2 ++ [1]).map fun (z : Int) => z.toNat.toUInt8) := by
  unfold keyOf keyB toB keyZ
  simp

/-- Letters count ahead of marks. -/
theorem cmp_bare {a b : List Int} (ha : Name a) (hb : Name b) (hxa : Name (bareL a)) (hxb : Name (bareL b)) (hf : foldL (bareL a) ≠ foldL (bareL b)) (hda : dig (foldL a) = dig (foldL (bareL a))) (hdb : dig (foldL b) = dig (foldL (bareL b))) : cmpK a b = cmpK (bareL a) (bareL b) := by
  have hne := bare_letters_ne ha hb hxa hxb hf
  have hra := (runK_facts (repl (foldL (bareL a)))).2.2.1
  have hrb := (runK_facts (repl (foldL (bareL b)))).2.2.1
  have big : ∀ l : List Int, (∀ x ∈ l, 2 ≤ x ∧ x ≤ 44) → ∀ y ∈ (l.map fun z => z.toNat.toUInt8), 1 < y := fun l hl y hy => by
    obtain ⟨z, hz, rfl⟩ := List.mem_map.1 hy
    have := hl z hz
    rw [UInt8.lt_iff_toNat_lt]
    have h2 : z.toNat.toUInt8.toNat = z.toNat := by
      rw [show z.toNat.toUInt8 = UInt8.ofNat z.toNat from rfl, UInt8.toNat_ofNat']
      omega
    rw [h2]
    show 1 < z.toNat
    omega
  unfold cmpK
  rw [key_shape, key_shape, key_shape, key_shape, key_letters_bare ha hxa hda, key_letters_bare hb hxb hdb]
  refine cmp_ahead _ _ _ _ _ _ (big _ hra) (big _ hrb) (fun e => hne ?_)
  exact toB_inj _ _ (fun x hx => by have := hra x hx; omega) (fun x hx => by have := hrb x hx; omega) e
end Go.Proofs.YtdflokjpgbeniaaDoor
