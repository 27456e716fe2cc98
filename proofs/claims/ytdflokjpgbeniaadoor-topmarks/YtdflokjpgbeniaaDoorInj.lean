/-
  Keys are the same just if names are alike: the facts of it. Plain facts; no Go text.
-/
import Derived.Test.YtdflokjpgbeniaaDoorCompare
namespace Go.Proofs.YtdflokjpgbeniaaDoor
open Go.Lib

/-- What stands where a byte is found. -/
theorem indexByte_at (c : UInt8) : ∀ (l : List UInt8), 0 ≤ indexByte l c → l[(indexByte l c).toNat]? = some c
  | [], h => by simp [indexByte] at h
  | b :: l, h => by
    have ih := indexByte_at c l
    have hge := indexByte_ge l c
    unfold indexByte at h ⊢
    by_cases h1 : b = c
    · simp [h1]
    · have h1' : (b == c) = false := by simpa using h1
      simp only [h1', Bool.false_eq_true, if_false] at h ⊢
      by_cases h2 : indexByte l c = -1
      · simp [h2] at h
      · have h2' : (indexByte l c == -1) = false := by simpa using h2
        simp only [h2', Bool.false_eq_true, if_false] at h ⊢
        have h3 : 0 ≤ indexByte l c := by omega
        have h4 : (indexByte l c + 1).toNat = (indexByte l c).toNat + 1 := by omega
        rw [h4, List.getElem?_cons_succ]
        exact ih h3

theorem idx_ascii {r : Int} (h0 : 0 ≤ r) (h1 : r < 128) (hi : 0 ≤ idxE r) : orderB.data.toList[(idxE r).toNat]? = some r.toNat.toUInt8 := by
  have e : idxE r = indexByte orderB.data.toList r.toNat.toUInt8 := by
    unfold idxE
    rw [if_neg (by omega), if_pos h1]
  rw [e] at hi ⊢
  exact indexByte_at _ _ hi

theorem weightE_inj {r q : Int} (hr : BaseF r ∨ r = 67) (hq : BaseF q ∨ q = 67) (h : weightE r = weightE q) : r = q := by
  have wr := weight_base hr
  have wq := weight_base hq
  have ir : 0 ≤ idxE r ∧ weightE r = 2 + idxE r := by
    unfold weightE at wr ⊢
    split at wr
    · omega
    · rename_i h; exact ⟨by omega, by rw [if_neg h]⟩
  have iq : 0 ≤ idxE q ∧ weightE q = 2 + idxE q := by
    unfold weightE at wq ⊢
    split at wq
    · omega
    · rename_i h; exact ⟨by omega, by rw [if_neg h]⟩
  have e : idxE r = idxE q := by omega
  have ar : r = 963 ∨ (0 ≤ r ∧ r < 128) := by unfold BaseF at hr; omega
  have aq : q = 963 ∨ (0 ≤ q ∧ q < 128) := by unfold BaseF at hq; omega
  have sig : idxE 963 = 41 := rfl
  have at41 : orderB.data.toList[41]? = some 207 := rfl
  rcases ar with rfl | ⟨r0, r1⟩
  · rcases aq with rfl | ⟨q0, q1⟩
    · rfl
    · have h2 := idx_ascii q0 q1 iq.1
      rw [← e, sig] at h2
      have h3 : (207 : UInt8) = q.toNat.toUInt8 := by
        have : some (207 : UInt8) = some q.toNat.toUInt8 := at41.symm.trans h2
        exact Option.some.inj this
      have h4 := congrArg UInt8.toNat h3
      rw [u8 _ (by omega)] at h4
      have h5 : (207 : UInt8).toNat = 207 := rfl
      omega
  · rcases aq with rfl | ⟨q0, q1⟩
    · have h2 := idx_ascii r0 r1 ir.1
      rw [e, sig] at h2
      have h3 : (207 : UInt8) = r.toNat.toUInt8 := by
        have : some (207 : UInt8) = some r.toNat.toUInt8 := at41.symm.trans h2
        exact Option.some.inj this
      have h4 := congrArg UInt8.toNat h3
      rw [u8 _ (by omega)] at h4
      have h5 : (207 : UInt8).toNat = 207 := rfl
      omega
    · have h2 := idx_ascii r0 r1 ir.1
      have h3 := idx_ascii q0 q1 iq.1
      rw [e, h3] at h2
      have h4 := congrArg UInt8.toNat (Option.some.inj h2)
      rw [u8 _ (by omega), u8 _ (by omega)] at h4
      omega
theorem weightM_inj {r q : Int} (hr : Mark r) (hq : Mark q) (h : weightM r = weightM q) : r = q := by
  rcases mark_four hr with rfl | rfl | rfl | rfl <;> rcases mark_four hq with rfl | rfl | rfl | rfl
  all_goals first | rfl | (exact absurd h (by decide))

/-- Elements and marks, an element first. -/
def GoodT (ts : List Int) : Prop := (∀ q ∈ ts, (BaseF q ∨ q = 67) ∨ Mark q) ∧ ∀ q t, ts = q :: t → (BaseF q ∨ q = 67)

theorem GoodT.init {ts : List Int} {x : Int} (h : GoodT (ts ++ [x])) : GoodT ts :=
  ⟨fun q hq => h.1 q (by simp [hq]), fun q t e => h.2 q (t ++ [x]) (by rw [e]; rfl)⟩
theorem GoodT.empty {ts : List Int} (h : GoodT ts) (he : (runK ts).1 = []) : ts = [] := by
  cases ts with
  | nil => rfl
  | cons q t => exact absurd he (runK_ne (by have := weight_base (h.2 q t rfl); omega))
theorem step_base {st : List Int × List Int} {x : Int} (h : BaseF x ∨ x = 67) : stepK st x = (st.1 ++ [weightE x], if st.1 = [] then st.2 else st.2 ++ [1]) := by
  unfold stepK
  rw [if_pos (by have := weight_base h; omega)]
theorem step_mark {st : List Int × List Int} {x : Int} (h : Mark x) : stepK st x = (st.1, st.2 ++ [weightM x]) := by
  have hw := weight_mark h
  unfold stepK
  rw [if_neg (by rw [hw.1]; simp), if_pos (by omega)]

theorem runK_inj : ∀ (n : Nat) (ts us : List Int), ts.length ≤ n → GoodT ts → GoodT us → runK ts = runK us → ts = us := by
  intro n
  induction n with
  | zero =>
    intro ts us hn _ hu h
    have : ts = [] := List.eq_nil_of_length_eq_zero (by omega)
    subst this
    exact (hu.empty (by rw [← h]; rfl)).symm
  | succ n ih =>
    intro ts us hn ht hu h
    rcases last_or ts with rfl | ⟨ts', x, rfl⟩
    · exact (hu.empty (by rw [← h]; rfl)).symm
    · rcases last_or us with rfl | ⟨us', y, rfl⟩
      · exact absurd (ht.empty (by rw [h]; rfl)) (by simp)
      · have ht' := ht.init
        have hu' := hu.init
        have hl : ts'.length ≤ n := by simp at hn; omega
        rw [runK_snoc, runK_snoc] at h
        have key : runK ts' = runK us' ∧ x = y := by
          rcases ht.1 x (by simp) with hx | hx
          · rw [step_base hx] at h
            rcases hu.1 y (by simp) with hy | hy
            · rw [step_base hy] at h
              have h1 := congrArg Prod.fst h
              have h2 := congrArg Prod.snd h
              simp only at h1 h2
              obtain ⟨e1, e2⟩ := List.append_inj' h1 rfl
              have e3 : x = y := weightE_inj hx hy (by simpa using e2)
              refine ⟨Prod.ext e1 ?_, e3⟩
              by_cases hE : (runK ts').1 = []
              · rw [if_pos hE, if_pos (by rw [← e1]; exact hE)] at h2
                exact h2
              · rw [if_neg hE, if_neg (by rw [← e1]; exact hE)] at h2
                exact (List.append_inj' h2 rfl).1
            · rw [step_mark hy] at h
              have h1 := congrArg Prod.fst h
              have h2 := congrArg Prod.snd h
              simp only at h1 h2
              exfalso
              have hw := (weight_mark hy).2
              by_cases hE : (runK ts').1 = []
              · have := ht'.empty hE
                subst this
                rw [if_pos hE] at h2
                have := congrArg List.length h2
                simp [runK] at this
              · rw [if_neg hE] at h2
                have e := (List.append_inj' h2 rfl).2
                simp at e
                omega
          · rw [step_mark hx] at h
            have hw := (weight_mark hx).2
            rcases hu.1 y (by simp) with hy | hy
            · rw [step_base hy] at h
              have h1 := congrArg Prod.fst h
              have h2 := congrArg Prod.snd h
              simp only at h1 h2
              exfalso
              by_cases hE : (runK us').1 = []
              · have := hu'.empty hE
                subst this
                rw [if_pos hE] at h2
                have := congrArg List.length h2
                simp [runK] at this
              · rw [if_neg hE] at h2
                have e := (List.append_inj' h2 rfl).2
                simp at e
                omega
            · rw [step_mark hy] at h
              have h1 := congrArg Prod.fst h
              have h2 := congrArg Prod.snd h
              simp only at h1 h2
              obtain ⟨e1, e2⟩ := List.append_inj' h2 rfl
              exact ⟨Prod.ext h1 e1, weightM_inj hx hy (by simpa using e2)⟩
        rw [ih ts' us' hl ht' hu' key.1, key.2]

theorem split_one : ∀ (a b : List Int) (r q : List Int), (∀ x ∈ a, x ≠ 1) → (∀ x ∈ b, x ≠ 1) → a ++ 1 :: r = b ++ 1 :: q → a = b ∧ r = q
  | [], [], r, q, _, _, h => ⟨rfl, by simpa using h⟩
  | [], y :: b, r, q, _, hb, h => by
    simp only [List.nil_append, List.cons_append, List.cons.injEq] at h
    exact absurd h.1.symm (hb y (by simp))
  | x :: a, [], r, q, ha, _, h => by
    simp only [List.nil_append, List.cons_append, List.cons.injEq] at h
    exact absurd h.1 (ha x (by simp))
  | x :: a, y :: b, r, q, ha, hb, h => by
    simp only [List.cons_append, List.cons.injEq] at h
    obtain ⟨e1, e2⟩ := split_one a b r q (fun z hz => ha z (by simp [hz])) (fun z hz => hb z (by simp [hz])) h.2
    exact ⟨by rw [h.1, e1], e2⟩

theorem toB_inj : ∀ (a b : List Int), (∀ x ∈ a, 0 ≤ x ∧ x < 256) → (∀ x ∈ b, 0 ≤ x ∧ x < 256) → a.map (fun z => z.toNat.toUInt8) = b.map (fun z => z.toNat.toUInt8) → a = b
  | [], [], _, _, _ => rfl
  | [], _ :: _, _, _, h => by simp at h
  | _ :: _, [], _, _, h => by simp at h
  | x :: a, y :: b, ha, hb, h => by
    rw [List.map_cons, List.map_cons, List.cons.injEq] at h
    have h1 := congrArg UInt8.toNat h.1
    have hx := ha x (by simp)
    have hy := hb y (by simp)
    rw [u8 _ (by omega), u8 _ (by omega)] at h1
    have e : x = y := by omega
    rw [e, toB_inj a b (fun z hz => ha z (by simp [hz])) (fun z hz => hb z (by simp [hz])) h.2]

theorem keyZ_bytes (ts : List Int) : ∀ x ∈ keyZ ts, 0 ≤ x ∧ x < 256 := by
  intro x hx
  have hf := runK_facts ts
  unfold keyZ at hx
  simp only [List.mem_append, List.mem_singleton] at hx
  rcases hx with (hx | hx) | (hx | hx)
  · have := hf.2.2.1 x hx; omega
  · omega
  · have := hf.2.2.2 x hx; omega
  · omega

theorem keyB_inj {ts us : List Int} (ht : GoodT ts) (hu : GoodT us) (h : (keyB ts).data.toList = (keyB us).data.toList) : ts = us := by
  have h1 : (keyZ ts).map (fun z => z.toNat.toUInt8) = (keyZ us).map (fun z => z.toNat.toUInt8) := by simpa [keyB, toB] using h
  have h2 := toB_inj _ _ (keyZ_bytes ts) (keyZ_bytes us) h1
  unfold keyZ at h2
  rw [List.append_assoc, List.append_assoc, List.singleton_append, List.singleton_append] at h2
  obtain ⟨e1, e2⟩ := split_one _ _ _ _ (fun x hx => by have := (runK_facts ts).2.2.1 x hx; omega) (fun x hx => by have := (runK_facts us).2.2.1 x hx; omega) h2
  refine runK_inj ts.length ts us (Nat.le_refl _) ht hu (Prod.ext e1 ?_)
  exact (List.append_inj' e2 rfl).1

/-- The two together are two again. -/
def unrepl (ts : List Int) : List Int := ts.flatMap fun r => if r = 67 then [99, 104] else [r]
theorem unrepl_repl {ts : List Int} (h : ∀ r ∈ ts, r ≠ 67) : unrepl (repl ts) = ts := by
  induction ts using repl.induct with
  | case1 => rw [repl]; rfl
  | case2 r =>
    rw [repl]
    have := h r (by simp)
    simp [unrepl, this]
  | case3 r q t hc ih =>
    rw [repl, if_pos hc]
    have := ih (fun x hx => h x (by simp [hx]))
    unfold unrepl at this ⊢
    rw [List.flatMap_cons, this, if_pos rfl, hc.1, hc.2]
    rfl
  | case4 r q t hc ih =>
    rw [repl, if_neg hc]
    have := ih (fun x hx => h x (by simp at hx ⊢; exact .inr hx))
    unfold unrepl at this ⊢
    rw [List.flatMap_cons, this, if_neg (h r (by simp))]
    rfl

theorem kind_no67 {q : Int} (h : BaseF q ∨ Mark q) : q ≠ 67 := by
  rcases h with h | h
  · unfold BaseF at h; omega
  · have := mark_range h; omega

theorem Name.good {rs : List Int} (h : Name rs) : GoodT (repl (foldL rs)) := by
  refine ⟨repl_kind (fold_kind h.signs), fun q t e => ?_⟩
  obtain ⟨q0, t0, e0, hb⟩ := h.fold_head
  obtain ⟨q', t', e', hb'⟩ := repl_head (t := t0) hb
  rw [e0, e'] at e
  rw [List.cons.injEq] at e
  rw [← e.1]
  exact hb'

/-- KEYS ARE THE SAME JUST IF NAMES ARE ALIKE. -/
theorem key_same {a b : List Int} (ha : Name a) (hb : Name b) : (keyOf a).data.toList = (keyOf b).data.toList ↔ foldL a = foldL b := by
  constructor
  · intro h
    have h1 := keyB_inj ha.good hb.good h
    have h2 := congrArg unrepl h1
    rwa [unrepl_repl (fun r hr => kind_no67 (fold_kind ha.signs r hr)), unrepl_repl (fun r hr => kind_no67 (fold_kind hb.signs r hr))] at h2
  · intro h
    unfold keyOf
    rw [h]
theorem key_size {a : List Int} (ha : Name a) : 1 ≤ (keyOf a).size ∧ (keyOf a).size ≤ 40 := by
  have e : (keyOf a).size = (keyZ (repl (foldL a))).length := by
    show ((keyZ (repl (foldL a))).map (fun z => z.toNat.toUInt8)).toArray.size = _
    simp
  have hf := runK_facts (repl (foldL a))
  have h1 := repl_length (foldL a)
  have h2 := foldL_length a
  have h3 := ha.few
  rw [splitL_length] at h3
  rw [e]
  unfold keyZ
  simp only [List.length_append, List.length_cons, List.length_nil]
  omega
end Go.Proofs.YtdflokjpgbeniaaDoor
