/-
  Keys are the same just if names are alike: the facts of it. Plain facts; no Go text. What is split up is split up once; what is folded is folded once; letters the other way round are alike. Plain facts; no Go text. The contracts of plain.Fold and plain.Alike, over the seat's program, of any bytes that have fewer than forty marks; what is split up is split up once.
-/
import Derived.Test.YtjpmomklkkifjaaGreatDoorCWide
import Derived.Test.YtjpmomklkkifjaaGreatDoorCPlainW
namespace Go.Proofs.YtjpmomklkkifjaaGreatDoor
open Go.Lib
set_option maxRecDepth 100000

/-- What stands where a byte is found. -/
theorem indexByte_at (c : UInt8) : ∀ (l : List UInt8), 0 ≤ indexByte l c → l[(indexByte l c).toNat]? = some c
  | [], h => by simp [indexByte] at h
  | b :: l, h => by
    have ih := indexByte_at c l
    have hge := indexByte_ge l c
    unfold indexByte at h ⊢
    by_cases h1 : b = c
    · simp [h1]
    · have h1' : (b == c) = false := by simpa using h1
      simp only [h1', Bool.false_eq_true, if_false] at h ⊢
      by_cases h2 : indexByte l c = -1
      · simp [h2] at h
      · have h2' : (indexByte l c == -1) = false := by simpa using h2
        simp only [h2', Bool.false_eq_true, if_false] at h ⊢
        have h3 : 0 ≤ indexByte l c := by omega
        have h4 : (indexByte l c + 1).toNat = (indexByte l c).toNat + 1 := by omega
        rw [h4, List.getElem?_cons_succ]
        exact ih h3

theorem idx_ascii {r : Int} (h0 : 0 ≤ r) (h1 : r < 128) (hi : 0 ≤ idxE r) : orderB.data.toList[(idxE r).toNat]? = some r.toNat.toUInt8 := by
  have e : idxE r = indexByte orderB.data.toList r.toNat.toUInt8 := by
    unfold idxE
    rw [if_neg (by omega), if_pos h1]
  rw [e] at hi ⊢
  exact indexByte_at _ _ hi

theorem weightE_inj {r q : Int} (hr : BaseF r ∨ r = 67) (hq : BaseF q ∨ q = 67) (h : weightE r = weightE q) : r = q := by
  have wr := weight_base hr
  have wq := weight_base hq
  have ir : 0 ≤ idxE r ∧ weightE r = 2 + idxE r := by
    unfold weightE at wr ⊢
    split at wr
    · omega
    · rename_i h; exact ⟨by omega, by rw [if_neg h]⟩
  have iq : 0 ≤ idxE q ∧ weightE q = 2 + idxE q := by
    unfold weightE at wq ⊢
    split at wq
    · omega
    · rename_i h; exact ⟨by omega, by rw [if_neg h]⟩
  have e : idxE r = idxE q := by omega
  have ar : r = 963 ∨ (0 ≤ r ∧ r < 128) := by unfold BaseF at hr; omega
  have aq : q = 963 ∨ (0 ≤ q ∧ q < 128) := by unfold BaseF at hq; omega
  have sig : idxE 963 = 41 := rfl
  have at41 : orderB.data.toList[41]? = some 207 := rfl
  rcases ar with rfl | ⟨r0, r1⟩
  · rcases aq with rfl | ⟨q0, q1⟩
    · rfl
    · have h2 := idx_ascii q0 q1 iq.1
      rw [← e, sig] at h2
      have h3 : (207 : UInt8) = q.toNat.toUInt8 := by
        have : some (207 : UInt8) = some q.toNat.toUInt8 := at41.symm.trans h2
        exact Option.some.inj this
      have h4 := congrArg UInt8.toNat h3
      rw [u8 _ (by omega)] at h4
      have h5 : (207 : UInt8).toNat = 207 := rfl
      omega
  · rcases aq with rfl | ⟨q0, q1⟩
    · have h2 := idx_ascii r0 r1 ir.1
      rw [e, sig] at h2
      have h3 : (207 : UInt8) = r.toNat.toUInt8 := by
        have : some (207 : UInt8) = some r.toNat.toUInt8 := at41.symm.trans h2
        exact Option.some.inj this
      have h4 := congrArg UInt8.toNat h3
      rw [u8 _ (by omega)] at h4
      have h5 : (207 : UInt8).toNat = 207 := rfl
      omega
    · have h2 := idx_ascii r0 r1 ir.1
      have h3 := idx_ascii q0 q1 iq.1
      rw [e, h3] at h2
      have h4 := congrArg UInt8.toNat (Option.some.inj h2)
      rw [u8 _ (by omega), u8 _ (by omega)] at h4
      omega
theorem weightM_inj {r q : Int} (hr : Mark r) (hq : Mark q) (h : weightM r = weightM q) : r = q := by
  rcases mark_four hr with rfl | rfl | rfl | rfl <;> rcases mark_four hq with rfl | rfl | rfl | rfl
  all_goals first | rfl | (exact absurd h (by decide))

/-- Elements and marks, an element first. -/
def GoodT (ts : List Int) : Prop := (∀ q ∈ ts, (BaseF q ∨ q = 67) ∨ Mark q) ∧ ∀ q t, ts = q :: t → (BaseF q ∨ q = 67)

theorem GoodT.init {ts : List Int} {x : Int} (h : GoodT (ts ++ [x])) : GoodT ts :=
  ⟨fun q hq => h.1 q (by simp [hq]), fun q t e => h.2 q (t ++ [x]) (by rw [e]; rfl)⟩
theorem GoodT.empty {ts : List Int} (h : GoodT ts) (he : (runK ts).1 = []) : ts = [] := by
  cases ts with
  | nil => rfl
  | cons q t => exact absurd he (runK_ne (by have := weight_base (h.2 q t rfl); omega))
theorem step_base {st : List Int × List Int} {x : Int} (h : BaseF x ∨ x = 67) : stepK st x = (st.1 ++ [weightE x], if st.1 = [] then st.2 else st.2 ++ [1]) := by
  unfold stepK
  rw [if_pos (by have := weight_base h; omega)]
theorem step_mark {st : List Int × List Int} {x : Int} (h : Mark x) : stepK st x = (st.1, st.2 ++ [weightM x]) := by
  have hw := weight_mark h
  unfold stepK
  rw [if_neg (by rw [hw.1]; simp), if_pos (by omega)]

theorem runK_inj : ∀ (n : Nat) (ts us : List Int), ts.length ≤ n → GoodT ts → GoodT us → runK ts = runK us → ts = us := by
  intro n
  induction n with
  | zero =>
    intro ts us hn _ hu h
    have : ts = [] := List.eq_nil_of_length_eq_zero (by omega)
    subst this
    exact (hu.empty (by rw [← h]; rfl)).symm
  | succ n ih =>
    intro ts us hn ht hu h
    rcases last_or ts with rfl | ⟨ts', x, rfl⟩
    · exact (hu.empty (by rw [← h]; rfl)).symm
    · rcases last_or us with rfl | ⟨us', y, rfl⟩
      · exact absurd (ht.empty (by rw [h]; rfl)) (by simp)
      · have ht' := ht.init
        have hu' := hu.init
        have hl : ts'.length ≤ n := by simp at hn; omega
        rw [runK_snoc, runK_snoc] at h
        have key : runK ts' = runK us' ∧ x = y := by
          rcases ht.1 x (by simp) with hx | hx
          · rw [step_base hx] at h
            rcases hu.1 y (by simp) with hy | hy
            · rw [step_base hy] at h
              have h1 := congrArg Prod.fst h
              have h2 := congrArg Prod.snd h
              simp only at h1 h2
              obtain ⟨e1, e2⟩ := List.append_inj' h1 rfl
              have e3 : x = y := weightE_inj hx hy (by simpa using e2)
              refine ⟨Prod.ext e1 ?_, e3⟩
              by_cases hE : (runK ts').1 = []
              · rw [if_pos hE, if_pos (by rw [← e1]; exact hE)] at h2
                exact h2
              · rw [if_neg hE, if_neg (by rw [← e1]; exact hE)] at h2
                exact (List.append_inj' h2 rfl).1
            · rw [step_mark hy] at h
              have h1 := congrArg Prod.fst h
              have h2 := congrArg Prod.snd h
              simp only at h1 h2
              exfalso
              have hw := (weight_mark hy).2
              by_cases hE : (runK ts').1 = []
              · have := ht'.empty hE
                subst this
                rw [if_pos hE] at h2
                have := congrArg List.length h2
                simp [runK] at this
              · rw [if_neg hE] at h2
                have e := (List.append_inj' h2 rfl).2
                simp at e
                omega
          · rw [step_mark hx] at h
            have hw := (weight_mark hx).2
            rcases hu.1 y (by simp) with hy | hy
            · rw [step_base hy] at h
              have h1 := congrArg Prod.fst h
              have h2 := congrArg Prod.snd h
              simp only at h1 h2
              exfalso
              by_cases hE : (runK us').1 = []
              · have := hu'.empty hE
                subst this
                rw [if_pos hE] at h2
                have := congrArg List.length h2
                simp [runK] at this
              · rw [if_neg hE] at h2
                have e := (List.append_inj' h2 rfl).2
                simp at e
                omega
            · rw [step_mark hy] at h
              have h1 := congrArg Prod.fst h
              have h2 := congrArg Prod.snd h
              simp only at h1 h2
              obtain ⟨e1, e2⟩ := List.append_inj' h2 rfl
              exact ⟨Prod.ext h1 e1, weightM_inj hx hy (by simpa using e2)⟩
        rw [ih ts' us' hl ht' hu' key.1, key.2]

theorem split_one : ∀ (a b : List Int) (r q : List Int), (∀ x ∈ a, x ≠ 1) → (∀ x ∈ b, x ≠ 1) → a ++ 1 :: r = b ++ 1 :: q → a = b ∧ r = q
  | [], [], r, q, _, _, h => ⟨rfl, by simpa using h⟩
  | [], y :: b, r, q, _, hb, h => by
    simp only [List.nil_append, List.cons_append, List.cons.injEq] at h
    exact absurd h.1.symm (hb y (by simp))
  | x :: a, [], r, q, ha, _, h => by
    simp only [List.nil_append, List.cons_append, List.cons.injEq] at h
    exact absurd h.1 (ha x (by simp))
  | x :: a, y :: b, r, q, ha, hb, h => by
    simp only [List.cons_append, List.cons.injEq] at h
    obtain ⟨e1, e2⟩ := split_one a b r q (fun z hz => ha z (by simp [hz])) (fun z hz => hb z (by simp [hz])) h.2
    exact ⟨by rw [h.1, e1], e2⟩

theorem toB_inj : ∀ (a b : List Int), (∀ x ∈ a, 0 ≤ x ∧ x < 256) → (∀ x ∈ b, 0 ≤ x ∧ x < 256) → a.map (fun z => z.toNat.toUInt8) = b.map (fun z => z.toNat.toUInt8) → a = b
  | [], [], _, _, _ => rfl
  | [], _ :: _, _, _, h => by simp at h
  | _ :: _, [], _, _, h => by simp at h
  | x :: a, y :: b, ha, hb, h => by
    rw [List.map_cons, List.map_cons, List.cons.injEq] at h
    have h1 := congrArg UInt8.toNat h.1
    have hx := ha x (by simp)
    have hy := hb y (by simp)
    rw [u8 _ (by omega), u8 _ (by omega)] at h1
    have e : x = y := by omega
    rw [e, toB_inj a b (fun z hz => ha z (by simp [hz])) (fun z hz => hb z (by simp [hz])) h.2]

theorem keyZ_bytes (ts : List Int) : ∀ x ∈ keyZ ts, 0 ≤ x ∧ x < 256 := by
  intro x hx
  have hf := runK_facts ts
  unfold keyZ at hx
  simp only [List.mem_append, List.mem_singleton] at hx
  rcases hx with (hx | hx) | (hx | hx)
  · have := hf.2.2.1 x hx; omega
  · omega
  · have := hf.2.2.2 x hx; omega
  · omega

theorem keyB_inj {ts us : List Int} (ht : GoodT ts) (hu : GoodT us) (h : (keyB ts).data.toList = (keyB us).data.toList) : ts = us := by
  have h1 : (keyZ ts).map (fun z => z.toNat.toUInt8) = (keyZ us).map (fun z => z.toNat.toUInt8) := by simpa [keyB, toB] using h
  have h2 := toB_inj _ _ (keyZ_bytes ts) (keyZ_bytes us) h1
  unfold keyZ at h2
  rw [List.append_assoc, List.append_assoc, List.singleton_append, List.singleton_append] at h2
  obtain ⟨e1, e2⟩ := split_one _ _ _ _ (fun x hx => by have := (runK_facts ts).2.2.1 x hx; omega) (fun x hx => by have := (runK_facts us).2.2.1 x hx; omega) h2
  refine runK_inj ts.length ts us (Nat.le_refl _) ht hu (Prod.ext e1 ?_)
  exact (List.append_inj' e2 rfl).1

/-- The two together are two again. -/
def unrepl (ts : List Int) : List Int := ts.flatMap fun r => if r = 67 then [99, 104] else [r]
theorem unrepl_repl {ts : List Int} (h : ∀ r ∈ ts, r ≠ 67) : unrepl (repl ts) = ts := by
  induction ts using repl.induct with
  | case1 => rw [repl]; rfl
  | case2 r =>
    rw [repl]
    have := h r (by simp)
    simp [unrepl, this]
  | case3 r q t hc ih =>
    rw [repl, if_pos hc]
    have := ih (fun x hx => h x (by simp [hx]))
    unfold unrepl at this ⊢
    rw [List.flatMap_cons, this, if_pos rfl, hc.1, hc.2]
    rfl
  | case4 r q t hc ih =>
    rw [repl, if_neg hc]
    have := ih (fun x hx => h x (by simp at hx ⊢; exact .inr hx))
    unfold unrepl at this ⊢
    rw [List.flatMap_cons, this, if_neg (h r (by simp))]
    rfl

theorem kind_no67 {q : Int} (h : BaseF q ∨ Mark q) : q ≠ 67 := by
  rcases h with h | h
  · unfold BaseF at h; omega
  · have := mark_range h; omega

theorem Name.good {rs : List Int} (h : Name rs) : GoodT (repl (foldL rs)) := by
  refine ⟨repl_kind (fold_kind h.signs), fun q t e => ?_⟩
  obtain ⟨q0, t0, e0, hb⟩ := h.fold_head
  obtain ⟨q', t', e', hb'⟩ := repl_head (t := t0) hb
  rw [e0, e'] at e
  rw [List.cons.injEq] at e
  rw [← e.1]
  exact hb'

/-- KEYS ARE THE SAME JUST IF YtjpmomklkkifjaaGreatDoorS ARE ALIKE. -/
theorem key_same {a b : List Int} (ha : Name a) (hb : Name b) : (keyOf a).data.toList = (keyOf b).data.toList ↔ foldL a = foldL b := by
  constructor
  · intro h
    have h1 := keyB_inj ha.good hb.good h
    have h2 := congrArg unrepl h1
    rwa [unrepl_repl (fun r hr => kind_no67 (fold_kind ha.signs r hr)), unrepl_repl (fun r hr => kind_no67 (fold_kind hb.signs r hr))] at h2
  · intro h
    unfold keyOf
    rw [h]
theorem key_size {a : List Int} (ha : Name a) : 1 ≤ (keyOf a).size ∧ (keyOf a).size ≤ 40 := by
  have e : (keyOf a).size = (keyZ (repl (foldL a))).length := by
    show ((keyZ (repl (foldL a))).map (fun z => z.toNat.toUInt8)).toArray.size = _
    simp
  have hf := runK_facts (repl (foldL a))
  have h1 := repl_length (foldL a)
  have h2 := foldL_length a
  have h3 := ha.few
  rw [splitL_length] at h3
  rw [e]
  unfold keyZ
  simp only [List.length_append, List.length_cons, List.length_nil]
  omega
end Go.Proofs.YtjpmomklkkifjaaGreatDoor
namespace Go.Proofs.YtjpmomklkkifjaaGreatDoor
set_option maxRecDepth 100000

/-- Parts, put in order. -/
def joinS (ps : List Int) : List Int := (runS ps).1 ++ sortM (runS ps).2
theorem splitL_join (rs : List Int) : splitL rs = joinS (partsL rs) := rfl

theorem sortM_map (f : Int → Int) (hf : ∀ r, classZ (f r) = classZ r) (l : List Int) : sortM (l.map f) = (sortM l).map f := by
  unfold sortM
  rw [List.filter_map, List.filter_map, List.map_append]
  have e1 : ((fun r => classZ r == 202) ∘ f) = fun r => classZ r == 202 := by funext r; simp [hf]
  have e2 : ((fun r => !(classZ r == 202)) ∘ f) = fun r => !(classZ r == 202) := by funext r; simp [hf]
  rw [e1, e2]
theorem filter_none (l : List Int) : l.filter (fun _ => false) = [] := List.filter_eq_nil_iff.2 (fun _ _ h => by cases h)
theorem sortM_sortM (l : List Int) : sortM (sortM l) = sortM l := by
  unfold sortM
  rw [List.filter_append, List.filter_append, List.filter_filter, List.filter_filter, List.filter_filter, List.filter_filter]
  have e1 : (fun a => (classZ a == 202) && !(classZ a == 202)) = fun _ => false := by funext a; cases classZ a == 202 <;> rfl
  have e2 : (fun a => !(classZ a == 202) && (classZ a == 202)) = fun _ => false := by funext a; cases classZ a == 202 <;> rfl
  rw [e1, e2, filter_none, List.append_nil, List.nil_append]
  simp

theorem foldl_map (f : Int → Int) (hf : ∀ r, classZ (f r) = classZ r) : ∀ (ps : List Int) (st : List Int × List Int), (ps.map f).foldl stepS (st.1.map f, st.2.map f) = (((ps.foldl stepS st).1).map f, ((ps.foldl stepS st).2).map f)
  | [], st => rfl
  | p :: ps, st => by
    rw [List.map_cons, List.foldl_cons, List.foldl_cons]
    have e : stepS (st.1.map f, st.2.map f) (f p) = ((stepS st p).1.map f, (stepS st p).2.map f) := by
      unfold stepS
      rw [hf]
      split
      · simp [sortM_map f hf]
      · simp
    rw [e]
    exact foldl_map f hf ps (stepS st p)
theorem joinS_map (f : Int → Int) (hf : ∀ r, classZ (f r) = classZ r) (ps : List Int) : joinS (ps.map f) = (joinS ps).map f := by
  have h := foldl_map f hf ps ([], [])
  unfold joinS runS
  simp only [List.map_nil] at h
  rw [h, List.map_append, sortM_map f hf]

/-- What is folded hangs on the folded parts alone. -/
theorem foldL_parts (rs : List Int) : foldL rs = joinS ((partsL rs).map foldZ) := by
  rw [joinS_map foldZ class_fold]
  rfl

theorem runS_marks (a m : List Int) (h : runS a = (a, [])) (hm : ∀ x ∈ m, Mark x) : runS (a ++ m) = (a, m) := by
  suffices hh : ∀ (l : List Int), l.reverse = m → runS (a ++ m) = (a, m) from hh m.reverse (by simp)
  intro l
  induction l generalizing m with
  | nil =>
    intro e
    simp at e
    subst e
    rw [List.append_nil]
    exact h
  | cons x l ih =>
    intro e
    have hx : m = l.reverse ++ [x] := by rw [← e]; simp
    have h2 := ih l.reverse (fun y hy => hm y (by rw [hx]; exact List.mem_append.2 (.inl hy))) rfl
    have hmx := hm x (by rw [hx]; simp)
    rw [hx, ← List.append_assoc, runS_snoc, h2]
    unfold stepS
    rw [if_neg (by rcases hmx with h | h <;> omega)]
theorem runS_again (ps : List Int) : runS (runS ps).1 = ((runS ps).1, []) := by
  suffices h : ∀ (l : List Int), l.reverse = ps → runS (runS ps).1 = ((runS ps).1, []) from h ps.reverse (by simp)
  intro l
  induction l generalizing ps with
  | nil =>
    intro e
    simp at e
    subst e
    rfl
  | cons p l ih =>
    intro e
    have hp : ps = l.reverse ++ [p] := by rw [← e]; simp
    have h1 := ih l.reverse rfl
    have hm := (runS_facts l.reverse).1
    rw [hp, runS_snoc]
    by_cases hc : classZ p = 0
    · have es : stepS (runS l.reverse) p = ((runS l.reverse).1 ++ sortM (runS l.reverse).2 ++ [p], []) := by unfold stepS; rw [if_pos hc]
      rw [es]
      simp only
      rw [runS_snoc, runS_marks _ _ h1 (fun x hx => hm x ((sortM_mem _ _).1 hx))]
      unfold stepS
      rw [if_pos hc]
      simp only
      rw [sortM_sortM]
    · have es : stepS (runS l.reverse) p = ((runS l.reverse).1, (runS l.reverse).2 ++ [p]) := by unfold stepS; rw [if_neg hc]
      rw [es]
      exact h1
/-- What is in order stays. -/
theorem joinS_again (ps : List Int) : joinS (joinS ps) = joinS ps := by
  have hm := (runS_facts ps).1
  have h1 := runS_marks _ (sortM (runS ps).2) (runS_again ps) (fun x hx => hm x ((sortM_mem _ _).1 hx))
  unfold joinS
  rw [h1]
  simp only
  rw [sortM_sortM]

theorem whole_big {r : Int} (h : r < 192 ∨ 768 ≤ r) : wholeB r = false := by
  cases hB : wholeB r with
  | false => rfl
  | true =>
    obtain ⟨hm, hx⟩ := whole_mem r hB
    have h3 : ∀ x ∈ tab, 192 ≤ x.1 ∧ x.1 < 768 := by decide +kernel
    have := h3 _ hm
    omega
theorem splitZ_self {r : Int} (h : r < 192 ∨ 768 ≤ r) : splitZ r = [r] := by
  unfold splitZ
  rw [whole_big h]
  rfl
theorem partsL_self {rs : List Int} (h : ∀ r ∈ rs, r < 192 ∨ 768 ≤ r) : partsL rs = rs := by
  induction rs with
  | nil => rfl
  | cons r rs ih =>
    show splitZ r ++ partsL rs = _
    rw [splitZ_self (h r (by simp)), ih (fun x hx => h x (by simp [hx]))]
    rfl

/-- Letters the other way round. -/
def swapZ (r : Int) : Int := if 97 ≤ r ∧ r ≤ 122 then r - 32 else if 65 ≤ r ∧ r ≤ 90 then r + 32 else r
theorem fold_swap (r : Int) : foldZ (swapZ r) = foldZ r := by
  unfold foldZ swapZ
  by_cases h1 : 97 ≤ r ∧ r ≤ 122
  · rw [if_pos h1, if_pos (by omega), if_neg (by omega), if_neg (by omega)]
    omega
  · rw [if_neg h1]
    by_cases h2 : 65 ≤ r ∧ r ≤ 90
    · rw [if_pos h2, if_neg (by omega), if_neg (by omega), if_pos h2]
    · rw [if_neg h2]
theorem swap_cases (r : Int) : swapZ r = r ∨ (r < 192 ∧ swapZ r < 192) := by
  unfold swapZ
  split
  · omega
  · split <;> omega
theorem swap_small {r : Int} (h : SmallR r) : SmallR (swapZ r) := by
  unfold swapZ SmallR at *
  split
  · omega
  · split <;> omega
theorem parts_swap (rs : List Int) : (partsL (rs.map swapZ)).map foldZ = (partsL rs).map foldZ := by
  induction rs with
  | nil => rfl
  | cons r rs ih =>
    show (splitZ (swapZ r) ++ partsL (rs.map swapZ)).map foldZ = (splitZ r ++ partsL rs).map foldZ
    rw [List.map_append, List.map_append, ih]
    congr 1
    rcases swap_cases r with h | ⟨h1, h2⟩
    · rw [h]
    · rw [splitZ_self (.inl h1), splitZ_self (.inl h2)]
      simp [fold_swap]

theorem fold_swapped (rs : List Int) : foldL (rs.map swapZ) = foldL rs := by
  rw [foldL_parts, foldL_parts, parts_swap]

theorem marks_fold (ps : List Int) : marks (ps.map foldZ) = marks ps := by
  unfold marks
  rw [List.filter_map, List.length_map]
  have e : ((fun p => classZ p != 0) ∘ foldZ) = fun p => classZ p != 0 := by funext r; simp [class_fold]
  rw [e]
theorem marks_le (ps : List Int) : marks ps ≤ ps.length := List.length_filter_le _ _

/-- The parts of signs that are there are no whole signs. -/
theorem part_plain {p : Int} (h : baseZ p = true ∨ Mark p) : p < 192 ∨ 768 ≤ p := by
  rcases h with h | h
  · have := of_decide_eq_true h; omega
  · have := mark_range h; omega
theorem Name.part {rs : List Int} (h : Name rs) : ∀ p ∈ splitL rs, baseZ p = true ∨ Mark p := by
  intro p hp
  obtain ⟨r, hr, hpr⟩ := List.mem_flatMap.1 (splitL_mem p hp)
  exact parts_sign (h.signs r hr) p hpr

theorem fold_swapped_split {rs : List Int} (h : Name rs) : foldL ((splitL rs).map swapZ) = foldL rs := by
  have e : partsL ((splitL rs).map swapZ) = (splitL rs).map swapZ := by
    refine partsL_self (fun r hr => ?_)
    obtain ⟨p, hp, rfl⟩ := List.mem_map.1 hr
    rcases swap_cases p with h1 | h1
    · rw [h1]
      exact part_plain (h.part p hp)
    · exact .inl h1.2
  rw [foldL_parts, e, List.map_map]
  have e2 : (foldZ ∘ swapZ) = foldZ := by funext r; exact fold_swap r
  rw [e2, splitL_join, ← joinS_map foldZ class_fold, joinS_again, foldL_parts]
theorem fold_folded {rs : List Int} (h : Name rs) : foldL (foldL rs) = foldL rs := by
  have e : partsL (foldL rs) = foldL rs := by
    refine partsL_self (fun r hr => ?_)
    rcases fold_kind h.signs r hr with h1 | h1
    · unfold BaseF at h1; omega
    · have := mark_range h1; omega
  have e2 : (foldL rs).map foldZ = foldL rs := by
    unfold foldL
    rw [List.map_map]
    exact List.map_congr_left (fun r _ => fold_fold r)
  rw [foldL_parts (foldL rs), e, e2, foldL_parts, joinS_again]

/-- A text that is folded as a name is has a key. -/
theorem keyed_like {rs ts : List Int} (h : Name rs) (he : foldL ts = foldL rs) (hs : ∀ r ∈ ts, SmallR r) (hl : ts.length ≤ 400) (hm : marks (partsL ts) < 20) : Keyed ts :=
  ⟨hs, hl, hm, by rw [he]; exact h.elem, by rw [he]; exact h.key_ne⟩
theorem keyed_swapped {rs : List Int} (h : Name rs) : Keyed (rs.map swapZ) := by
  refine keyed_like h (fold_swapped rs) ?_ (by rw [List.length_map]; have := h.short; omega) ?_
  · intro r hr
    obtain ⟨p, hp, rfl⟩ := List.mem_map.1 hr
    exact swap_small (h.small p hp)
  · rw [← marks_fold, parts_swap, marks_fold]
    exact h.marks
theorem keyed_swapped_split {rs : List Int} (h : Name rs) : Keyed ((splitL rs).map swapZ) := by
  have hf := h.few
  refine keyed_like h (fold_swapped_split h) ?_ (by rw [List.length_map]; omega) ?_
  · intro r hr
    obtain ⟨p, hp, rfl⟩ := List.mem_map.1 hr
    exact swap_small (splitL_small h.small p hp)
  · have e : partsL ((splitL rs).map swapZ) = (splitL rs).map swapZ := by
      refine partsL_self (fun r hr => ?_)
      obtain ⟨p, hp, rfl⟩ := List.mem_map.1 hr
      rcases swap_cases p with h1 | h1
      · rw [h1]
        exact part_plain (h.part p hp)
      · exact .inl h1.2
    rw [e]
    have := marks_le ((splitL rs).map swapZ)
    rw [List.length_map] at this
    omega
theorem keyed_folded {rs : List Int} (h : Name rs) : Keyed (foldL rs) := by
  have hf := h.few
  have hl : (foldL rs).length ≤ 12 := by rw [foldL_length, ← splitL_length]; exact hf
  refine keyed_like h (fold_folded h) (foldL_small h.small) (by omega) ?_
  have e : partsL (foldL rs) = foldL rs := by
    refine partsL_self (fun r hr => ?_)
    rcases fold_kind h.signs r hr with h1 | h1
    · unfold BaseF at h1; omega
    · have := mark_range h1; omega
  rw [e]
  have := marks_le (foldL rs)
  omega
end Go.Proofs.YtjpmomklkkifjaaGreatDoor
namespace Go.Proofs.YtjpmomklkkifjaaGreatDoor
open Go.RowKit
set_option maxRecDepth 100000

theorem foldZ_wide {r : Int} (h : WideR r) : WideR (foldZ r) := by
  unfold foldZ WideR at *
  split
  · omega
  · split <;> omega
theorem splitL_wide {rs : List Int} (h : ∀ r ∈ rs, WideR r) : ∀ p ∈ splitL rs, WideR p := fun p hp => partsL_wide h p (splitL_mem p hp)
theorem foldL_wide {rs : List Int} (h : ∀ r ∈ rs, WideR r) : ∀ p ∈ foldL rs, WideR p := by
  intro p hp
  obtain ⟨q, hq, rfl⟩ := List.mem_map.1 hp
  exact foldZ_wide (splitL_wide h q hq)

theorem mapD_encW (f : Int → Int) (hf : ∀ r, WideR r → 0 ≤ f r) : ∀ rs : List Int, (∀ r ∈ rs, WideR r) → Lib.mapD f (encL rs) = encL (rs.map f)
  | [], _ => rfl
  | r :: rs, h => by
    have hr := h r (by simp)
    have hne : encL (r :: rs) ≠ [] := by
      intro e
      have := congrArg List.length e
      rw [encL_cons, List.length_append, List.length_nil] at this
      have := (enc_lenW r).1
      omega
    rw [Lib.mapD_step f _ hne, encL_cons, decode_encW hr]
    simp only [Int.toNat_of_nonneg hr.1]
    rw [if_pos (hf r hr), List.drop_left, mapD_encW f hf rs (fun x hx => h x (by simp [hx])), List.map_cons, encL_cons]

theorem map_foldW (rs : List Int) (w : World) (hR : Ready w) (hs : ∀ r ∈ rs, WideR r) (hl : rs.length ≤ 2000) :
    Calls Tryz.prog 142 #[.func (.func 143) #[] #[], .string (encS rs)] w fun e w' => e = .returned (.string (encS (rs.map foldZ))) ∧ Below w.heap.size w w' := by
  have h1 := Tryz.strings_Map_grows 143 #[] enter18 foldZ (encS rs) w (by rw [encS_size]; have := (encL_lenW rs).2; omega)
    (fun W x hx _ => (fold_calls (x : Int) W (by omega) (by omega)).mono fun e w' ⟨he, hw⟩ => ⟨he, by rw [hw]; exact Below.refl _ _⟩)
    (fun x hx => fold_range x (by omega) (by omega)) hR.u8
  have e : (encS rs).data.toList = encL rs := by simp [encS]
  rw [e, mapD_encW foldZ (fun r hr => (foldZ_wide hr).1) rs hs] at h1
  exact h1

theorem plainFoldW_calls (s : ByteArray) (rs : List Int) (w : World) (hRd : Reads s.data.toList rs) (hR : Ready w) (hs : ∀ r ∈ rs, WideR r) (hl : rs.length ≤ 1000) (hm : marks (partsL rs) ≤ 900) :
    Calls Tryz.prog 98 #[.string s] w fun e w' => e = .returned (.string (encS (foldL rs))) ∧ Below w.heap.size w w' := by
  have h1 := plainSplitW_calls s rs w hRd hR.tab hs hl hm
  have h2 := fun wx (hx : Ready wx) => map_foldW (splitL rs) wx hx (splitL_wide hs) (by rw [splitL_length]; have := partsL_len rs; omega)
  have e : (splitL rs).map foldZ = foldL rs := rfl
  rw [e] at h2
  generalize splitL rs = sp at *
  generalize foldL rs = fl at *
  clear e hRd
  go_enter Tryz.func98, Tryz.ntmps98
  go_wp2_with fail
  refine h1.mono ?_
  rintro e w1 ⟨rfl, hb1⟩
  have hR1 := hR.later hb1
  go_wp2_with fail
  refine (h2 w1 hR1).mono ?_
  rintro e w2 ⟨rfl, hb2⟩
  go_wp2
  go_ret
  exact ⟨rfl, hb1.trans (hb2.mono hb1.size)⟩

theorem encS_eqW {a b : List Int} (ha : ∀ r ∈ a, WideR r) (hb : ∀ r ∈ b, WideR r) : ((encS a).toList == (encS b).toList) = decide (a = b) := by
  rw [encS_toList, encS_toList, Bool.eq_iff_iff, beq_iff_eq, decide_eq_true_iff]
  exact ⟨encL_injW a b ha hb, fun h => by rw [h]⟩

/-- What a sign is split up to is split up no more. -/
theorem splitZ_once {r p : Int} (h : p ∈ splitZ r) : splitZ p = [p] := by
  cases hB : wholeB r with
  | false =>
    have e : splitZ r = [r] := by unfold splitZ; rw [hB]; rfl
    rw [e] at h
    simp at h
    rw [h, e]
  | true =>
    unfold splitZ at h
    rw [hB] at h
    obtain ⟨hm, _⟩ := whole_mem r hB
    have := tab_small _ hm
    simp at h
    rcases h with rfl | rfl
    · exact splitZ_self (by omega)
    · exact splitZ_self (by omega)
theorem partsL_once {ps : List Int} (h : ∀ p ∈ ps, splitZ p = [p]) : partsL ps = ps := by
  induction ps with
  | nil => rfl
  | cons p ps ih =>
    have e : partsL (p :: ps) = splitZ p ++ partsL ps := rfl
    rw [e, h p (by simp), ih (fun q hq => h q (by simp [hq]))]
    rfl
theorem split_once (rs : List Int) : ∀ p ∈ splitL rs, splitZ p = [p] := fun p hp => by
  obtain ⟨r, _, hpr⟩ := List.mem_flatMap.1 (splitL_mem p hp)
  exact splitZ_once hpr
theorem parts_split (rs : List Int) : partsL (splitL rs) = splitL rs := partsL_once (split_once rs)
theorem split_split (rs : List Int) : splitL (splitL rs) = splitL rs := by
  rw [splitL_join (splitL rs), parts_split, splitL_join, joinS_again]
theorem fold_once {p : Int} (h : splitZ p = [p]) : splitZ (foldZ p) = [foldZ p] := by
  unfold foldZ
  split
  · exact splitZ_self (by omega)
  · split
    · exact splitZ_self (by omega)
    · exact h
theorem parts_fold (rs : List Int) : partsL (foldL rs) = foldL rs := partsL_once (fun q hq => by
  obtain ⟨p, hp, rfl⟩ := List.mem_map.1 hq
  exact fold_once (split_once rs p hp))
theorem fold_fold_all (rs : List Int) : foldL (foldL rs) = foldL rs := by
  have e2 : (foldL rs).map foldZ = foldL rs := by
    unfold foldL
    rw [List.map_map]
    exact List.map_congr_left (fun r _ => fold_fold r)
  rw [foldL_parts (foldL rs), parts_fold, e2, foldL_parts, joinS_again]
theorem fold_split_all (rs : List Int) : foldL (splitL rs) = foldL rs := by
  show (splitL (splitL rs)).map foldZ = _
  rw [split_split]
  rfl

theorem marks_filter (l : List Int) (h : ∀ x ∈ l, Mark x) : marks l = l.length := by
  unfold marks
  rw [List.filter_eq_self.2 (fun x hx => by rcases h x hx with h | h <;> simp [h])]
theorem marks_runS (ps : List Int) : marks (runS ps).1 + (runS ps).2.length = marks ps := by
  suffices hh : ∀ (l : List Int), l.reverse = ps → marks (runS ps).1 + (runS ps).2.length = marks ps from hh ps.reverse (by simp)
  intro l
  induction l generalizing ps with
  | nil =>
    intro e
    simp at e
    subst e
    rfl
  | cons x l ih =>
    intro e
    rw [List.reverse_cons] at e
    subst e
    have h := ih l.reverse rfl
    have hf := (runS_facts l.reverse).1
    rw [runS_snoc, marks_append]
    unfold stepS
    split
    · rename_i hc
      rw [marks_append, marks_append, marks_filter (sortM _) (fun y hy => hf y ((sortM_mem _ _).1 hy)), sortM_length]
      simp [marks, hc] at h ⊢
      omega
    · rename_i hc
      have e1 : marks [x] = 1 := by simp [marks, hc]
      rw [e1, List.length_append, List.length_singleton]
      show marks (runS l.reverse).1 + _ = _
      omega
theorem marks_join (ps : List Int) : marks (joinS ps) = marks ps := by
  unfold joinS
  have hf := (runS_facts ps).1
  rw [marks_append, marks_filter (sortM _) (fun y hy => hf y ((sortM_mem _ _).1 hy)), sortM_length]
  exact marks_runS ps
theorem marks_splitL (rs : List Int) : marks (partsL (splitL rs)) = marks (partsL rs) := by
  rw [parts_split, splitL_join, marks_join]
theorem marks_foldL (rs : List Int) : marks (partsL (foldL rs)) = marks (partsL rs) := by
  rw [parts_fold]
  show marks ((splitL rs).map foldZ) = _
  rw [marks_fold, splitL_join, marks_join]
theorem encS_bytes (rs : List Int) : (encS rs).data.toList = encL rs := by simp [encS]
end Go.Proofs.YtjpmomklkkifjaaGreatDoor
