/-
  A log as plain data: what a sector tells, what is read of sectors, and that what is told is read. Plain facts.
-/
import Derived.Test.YtcjfhfalffngjaaCRowB
import Derived.Test.YtcjfhfalffngjaaCRowP
import Derived.Test.YtcjfhfalffngjaaCRowO
namespace Go.Proofs.Ytcjfhfalffngjaa
open Go.RowKit Go.Lib
set_option maxRecDepth 100000
set_option linter.unusedVariables false
set_option linter.unusedSimpArgs false

def mkB (l : List UInt8) : ByteArray := ⟨l.toArray⟩
theorem mkB_list (l : List UInt8) : (mkB l).data.toList = l := by simp [mkB]
theorem mkB_size (l : List UInt8) : (mkB l).size = l.length := by show l.toArray.size = l.length; simp
theorem mkB_inj {a b : List UInt8} (h : mkB a = mkB b) : a = b := by
  have := congrArg (fun s : ByteArray => s.data.toList) h
  simpa [mkB_list] using this
theorem mkB_of (s : ByteArray) : mkB s.data.toList = s := mk_list s
theorem mkB_extract (l : List UInt8) (a b : Nat) : (mkB l).extract a b = mkB ((l.take b).drop a) := by
  unfold mkB
  rw [ByteArray.extract_mk]
  congr 1
  apply Array.ext'
  simp [List.extract_eq_take_drop, List.drop_take]
theorem numB_leB : ∀ (k n : Nat), n < 256 ^ k → numB (leB n k) = n
  | 0, n, h => by simp only [Nat.pow_zero] at h; simp [leB, numB]; omega
  | k + 1, n, h => by
    have h2 : n / 256 < 256 ^ k := by rw [Nat.pow_succ] at h; exact Nat.div_lt_of_lt_mul (by omega)
    have h3 : (UInt8.ofNat (n % 256)).toNat = n % 256 := by simp
    rw [leB, numB, numB_leB k _ h2, h3]
    omega

/-- A sector's bytes, as a list. -/
def tellL (k : UInt8) (n : Nat) (b : List UInt8) : List UInt8 := k :: (leB n 4 ++ leB b.length 2 ++ b)
theorem tellP_list (k : UInt8) (n : Nat) (b : List UInt8) : tellP (mkB [k]) n (mkB b) = mkB (tellL k n b) := by
  unfold tellP
  have e1 : mkB [k] ++ ⟨(leB n 4).toArray⟩ = mkB ([k] ++ leB n 4) := ByteArray.mk_append_mk [k] _
  have e2 : mkB ([k] ++ leB n 4) ++ ⟨(leB (mkB b).size 2).toArray⟩ = mkB ([k] ++ leB n 4 ++ leB (mkB b).size 2) := ByteArray.mk_append_mk _ _
  have e3 : mkB ([k] ++ leB n 4 ++ leB (mkB b).size 2) ++ mkB b = mkB ([k] ++ leB n 4 ++ leB (mkB b).size 2 ++ b) := ByteArray.mk_append_mk _ _
  rw [e1, e2, e3, mkB_size]
  simp [tellL]
theorem tellL_length (k : UInt8) (n : Nat) (b : List UInt8) : (tellL k n b).length = 7 + b.length := by
  simp [tellL, leB_length]; omega
/-- What is told is parsed. -/
theorem parse_tell (k : UInt8) (n : Nat) (b : List UInt8) (hk : k = 111 ∨ k = 99) (hn : n < 4294967296) (hb : b.length ≤ 133) : parseS (mkB (padL (tellL k n b))) n = (mkB [k], mkB b) := by
  have hl4 := leB_length 4 n
  have hl2 := leB_length 2 b.length
  obtain ⟨z, hz⟩ : ∃ z, padL (tellL k n b) = k :: (leB n 4 ++ leB b.length 2 ++ b ++ z) := ⟨List.replicate (140 - (tellL k n b).length) 0, by simp [padL, tellL]⟩
  rw [hz]
  have x0 : (mkB (k :: (leB n 4 ++ leB b.length 2 ++ b ++ z))).extract 0 1 = mkB [k] := by
    rw [mkB_extract]; rfl
  have x1 : (mkB (k :: (leB n 4 ++ leB b.length 2 ++ b ++ z))).extract 1 5 = mkB (leB n 4) := by
    rw [mkB_extract]
    refine congrArg mkB ?_
    rw [List.take_succ_cons, List.drop_succ_cons, List.drop_zero, List.append_assoc, List.append_assoc, List.take_append_of_le_length (by omega)]
    exact List.take_of_length_le (by omega)
  have x2 : (mkB (k :: (leB n 4 ++ leB b.length 2 ++ b ++ z))).extract 5 7 = mkB (leB b.length 2) := by
    rw [mkB_extract]
    refine congrArg mkB ?_
    rw [List.take_succ_cons, List.drop_succ_cons, List.append_assoc, List.append_assoc, List.take_append, List.drop_append, hl4, List.take_of_length_le (by omega), List.drop_of_length_le (by omega), List.nil_append, hl4]
    rw [Nat.sub_self, List.drop_zero, List.take_append_of_le_length (by omega)]
    exact List.take_of_length_le (by omega)
  have x3 : ∀ m, m = b.length → (mkB (k :: (leB n 4 ++ leB b.length 2 ++ b ++ z))).extract 7 (7 + m) = mkB b := fun m hm => by
    subst hm
    rw [mkB_extract]
    congr 1
    rw [show 7 + b.length = (6 + b.length) + 1 by omega, List.take_succ_cons, List.drop_succ_cons]
    have h6 : (leB n 4 ++ leB b.length 2).length = 6 := by rw [List.length_append, hl4, hl2]
    rw [List.append_assoc (leB n 4 ++ leB b.length 2), List.take_append, h6, List.take_of_length_le (by omega), List.drop_append_of_le_length (by omega), List.drop_of_length_le (by omega), List.nil_append, List.take_append_of_le_length (by omega), List.take_of_length_le (by omega)]
  have y1 : numS (mkB (k :: (leB n 4 ++ leB b.length 2 ++ b ++ z))) = n := by unfold numS; rw [x1, mkB_list, numB_leB 4 n hn]
  have y2 : lenS (mkB (k :: (leB n 4 ++ leB b.length 2 ++ b ++ z))) = b.length := by unfold lenS; rw [x2, mkB_list, numB_leB 2 _ (by omega)]
  have hG : GoodS (mkB (k :: (leB n 4 ++ leB b.length 2 ++ b ++ z))) n := by
    refine ⟨?_, y1, by omega⟩
    rw [x0]
    rcases hk with rfl | rfl
    · exact .inl rfl
    · exact .inr rfl
  unfold parseS
  rw [if_pos hG, x0, y2, x3 _ rfl]
theorem parse_nought (n : Nat) : parseS (mkB nought) n = (nilB, nilB) := by
  have x0 : (mkB nought).extract 0 1 = mkB [0] := by rw [mkB_extract]; rfl
  have hG : ¬ GoodS (mkB nought) n := by
    unfold GoodS
    rw [x0]
    rintro ⟨h | h, _⟩
    · have := mkB_inj (a := [0]) (b := [111]) h; revert this; decide
    · have := mkB_inj (a := [0]) (b := [99]) h; revert this; decide
  unfold parseS
  rw [if_neg hG]
theorem padL_nil : padL [] = nought := by simp [padL, nought]

/-- Bytes of a change are read as it. -/
theorem parse_bytes {c : ChD} (h : checkP c = none) : parseP (mkB (bytesP c)) = some c := by
  obtain ⟨h1, h2, h3, h4⟩ := checkP_none h
  obtain ⟨key, val, gone⟩ := c
  simp only at h1 h2 h3 h4
  have hk : (UInt8.ofNat key.size).toNat = key.size := by simp; omega
  have hs : (mkB (bytesP ⟨key, val, gone⟩)).size = 2 + key.size + val.size := by
    rw [mkB_size]
    simp only [bytesP, List.length_cons, List.length_append, Array.length_toList]
    have e1 : key.data.size = key.size := rfl
    have e2 : val.data.size = val.size := rfl
    omega
  have hkl : key.data.toList.length = key.size := by rw [Array.length_toList]; rfl
  have hvl : val.data.toList.length = val.size := by rw [Array.length_toList]; rfl
  obtain ⟨g, hg⟩ : ∃ g : UInt8, (if gone then 1 else 0) = g := ⟨_, rfl⟩
  have hcut : cutP (mkB (bytesP ⟨key, val, gone⟩)) g (2 + key.size) = ⟨key, val, gone⟩ := by
    unfold cutP
    rw [hs]
    unfold bytesP
    simp only
    rw [mkB_extract, mkB_extract, hg]
    congr 1
    · rw [show 2 + key.size = key.size + 1 + 1 by omega, List.take_succ_cons, List.take_succ_cons, List.drop_succ_cons, List.drop_succ_cons, List.drop_zero, List.take_append_of_le_length (by omega), List.take_of_length_le (by omega), mkB_of]
    · rw [List.take_of_length_le (by simp only [List.length_cons, List.length_append]; omega), show 2 + key.size = key.size + 1 + 1 by omega, List.drop_succ_cons, List.drop_succ_cons, List.drop_append_of_le_length (by omega), List.drop_of_length_le (by omega), List.nil_append, mkB_of]
    · rw [← hg]; cases gone <;> rfl
  have hb : bytesP ⟨key, val, gone⟩ = g :: UInt8.ofNat key.size :: (key.data.toList ++ val.data.toList) := by unfold bytesP; rw [hg]
  unfold parseP
  rw [mkB_list]
  rw [hb] at hcut hs ⊢
  simp only
  rw [hk, hcut, h, hs]
  have hg2 : g.toNat ≤ 1 := by rw [← hg]; cases gone <;> decide
  rw [if_neg (by simp; omega)]
  rfl

/-- What was read so far. -/
structure RS where
  deeds : List (List ChD)
  deed : List ChD
  used : Nat
/-- One sector more; none: no more is read. -/
def stepR (s : ByteArray) (num i : Nat) (st : RS) : Option RS :=
  if (parseS s num).1 = kindO then (parseP (parseS s num).2).map fun c => ⟨st.deeds, st.deed ++ [c], st.used⟩
  else if (parseS s num).1 = kindC then (if (parseS s num).2 = mkB (leB st.deed.length 4) then some ⟨st.deeds ++ [st.deed], [], i + 1⟩ else none)
  else none
def goR (get : Nat → ByteArray) (first : Nat) : Nat → Nat → RS → RS
  | 0, _, st => st
  | k + 1, i, st => match stepR (get i) (first + i) i st with
    | none => st
    | some st' => goR get first k (i + 1) st'
def runR (get : Nat → ByteArray) (first : Nat) : Nat → Nat → RS → Option RS
  | 0, _, st => some st
  | k + 1, i, st => (stepR (get i) (first + i) i st).bind (runR get first k (i + 1))
theorem runR_goR {get : Nat → ByteArray} {first : Nat} : ∀ (m k i : Nat) (st st' : RS), runR get first m i st = some st' → goR get first (m + k) i st = goR get first k (i + m) st'
  | 0, k, i, st, st', h => by cases h; simp
  | m + 1, k, i, st, st', h => by
    rw [show m + 1 + k = (m + k) + 1 by omega, goR]
    rw [runR] at h
    cases hs : stepR (get i) (first + i) i st with
    | none => rw [hs] at h; cases h
    | some s1 =>
      rw [hs, Option.bind_some] at h
      simp only
      rw [runR_goR m k (i + 1) s1 st' h, show i + 1 + m = i + (m + 1) by omega]
theorem runR_app {get : Nat → ByteArray} {first : Nat} : ∀ (m k i : Nat) (st st' : RS), runR get first m i st = some st' → runR get first (m + k) i st = runR get first k (i + m) st'
  | 0, k, i, st, st', h => by cases h; simp
  | m + 1, k, i, st, st', h => by
    rw [show m + 1 + k = (m + k) + 1 by omega, runR]
    rw [runR] at h
    cases hs : stepR (get i) (first + i) i st with
    | none => rw [hs] at h; cases h
    | some s1 =>
      rw [hs, Option.bind_some] at h
      simp only [Option.bind_some]
      rw [runR_app m k (i + 1) s1 st' h, show i + 1 + m = i + (m + 1) by omega]
theorem runR_congr {get get' : Nat → ByteArray} {first : Nat} : ∀ (m i : Nat) (st : RS), (∀ j, i ≤ j → j < i + m → get j = get' j) → runR get first m i st = runR get' first m i st
  | 0, i, st, h => rfl
  | m + 1, i, st, h => by
    rw [runR, runR, h i (by omega) (by omega)]
    cases stepR (get' i) (first + i) i st with
    | none => rfl
    | some s1 => exact runR_congr m (i + 1) s1 fun j h1 h2 => h j (by omega) (by omega)
theorem step_kind {s : ByteArray} {num i : Nat} {st st' : RS} (h : stepR s num i st = some st') : (st'.used = st.used ∧ st'.deeds = st.deeds) ∨ st' = ⟨st.deeds ++ [st.deed], [], i + 1⟩ := by
  unfold stepR at h
  split at h
  · cases hp : parseP (parseS s num).2 with
    | none => rw [hp] at h; cases h
    | some c => rw [hp] at h; cases h; exact .inl ⟨rfl, rfl⟩
  split at h
  · split at h
    · cases h; exact .inr rfl
    · cases h
  · cases h
/-- What is read stands ahead of where it ends. -/
theorem goR_prefix {get : Nat → ByteArray} {first : Nat} : ∀ (k i : Nat) (st : RS), ((goR get first k i st).used = st.used ∧ (goR get first k i st).deeds = st.deeds) ∨ ∃ m, m ≤ k ∧ (goR get first k i st).used = i + m ∧ runR get first m i st = some ⟨(goR get first k i st).deeds, [], (goR get first k i st).used⟩
  | 0, i, st => .inl ⟨rfl, rfl⟩
  | k + 1, i, st => by
    rw [goR]
    cases hs : stepR (get i) (first + i) i st with
    | none => exact .inl ⟨rfl, rfl⟩
    | some s1 =>
      simp only
      rcases goR_prefix k (i + 1) s1 with ⟨h1, h2⟩ | ⟨m, hm, h1, h2⟩
      · rcases step_kind hs with ⟨h3, h4⟩ | h3
        · exact .inl ⟨h1.trans h3, h2.trans h4⟩
        · refine .inr ⟨1, by omega, by rw [h1, h3], ?_⟩
          rw [runR, hs, Option.bind_some, runR, h1, h2, h3]
      · exact .inr ⟨m + 1, by omega, by rw [h1]; omega, by rw [runR, hs, Option.bind_some, h2]⟩
def st0 : RS := ⟨[], [], 0⟩
/-- Sectors up to a place tell deeds. -/
def Pre (get : Nat → ByteArray) (first used : Nat) (D : List (List ChD)) : Prop := runR get first used 0 st0 = some ⟨D, [], used⟩
theorem pre_zero (get : Nat → ByteArray) (first : Nat) : Pre get first 0 [] := rfl
theorem pre_of_go (get : Nat → ByteArray) (first many : Nat) : (goR get first many 0 st0).used ≤ many ∧ Pre get first (goR get first many 0 st0).used (goR get first many 0 st0).deeds := by
  rcases goR_prefix (get := get) (first := first) many 0 st0 with ⟨h1, h2⟩ | ⟨m, hm, h1, h2⟩
  · rw [h1, h2]
    exact ⟨Nat.zero_le _, pre_zero _ _⟩
  · rw [Nat.zero_add] at h1
    rw [h1] at h2 ⊢
    exact ⟨hm, h2⟩
theorem Pre.congr {get get' : Nat → ByteArray} {first used : Nat} {D : List (List ChD)} (h : Pre get first used D) (he : ∀ j, j < used → get' j = get j) : Pre get' first used D := by
  unfold Pre at h ⊢
  rw [← h]
  exact runR_congr used 0 st0 fun j _ hj => he j (by omega)
theorem step_nought (n i : Nat) (st : RS) : stepR (mkB nought) n i st = none := by
  unfold stepR
  rw [parse_nought]
  rw [if_neg (fun h => by have := mkB_inj (a := []) (b := [111]) h; cases this), if_neg (fun h => by have := mkB_inj (a := []) (b := [99]) h; cases this)]
/-- With noughts behind it no more is read. -/
theorem Pre.go {get : Nat → ByteArray} {first used many : Nat} {D : List (List ChD)} (h : Pre get first used D) (hm : used ≤ many) (hn : used < many → get used = mkB nought) : goR get first many 0 st0 = ⟨D, [], used⟩ := by
  obtain ⟨k, rfl⟩ : ∃ k, many = used + k := ⟨many - used, by omega⟩
  rw [runR_goR used k 0 st0 _ h, Nat.zero_add]
  cases k with
  | zero => rfl
  | succ k => rw [goR, hn (by omega), step_nought]

/-- A deed's sectors. -/
def chS (n : Nat) (c : ChD) : List UInt8 := tellL 111 n (bytesP c)
def endS (n m : Nat) : List UInt8 := tellL 99 n (leB m 4)
def secsOf (n : Nat) (l : List ChD) : List (List UInt8) := l.mapIdx fun i c => chS (n + i) c
def deedS (n : Nat) (l : List ChD) : List (List UInt8) := secsOf n l ++ [endS (n + l.length) l.length]
theorem secsOf_length (n : Nat) (l : List ChD) : (secsOf n l).length = l.length := by simp [secsOf]
theorem deedS_length (n : Nat) (l : List ChD) : (deedS n l).length = l.length + 1 := by simp [deedS, secsOf_length]
theorem secsOf_snoc (n : Nat) (l : List ChD) (c : ChD) : secsOf n (l ++ [c]) = secsOf n l ++ [chS (n + l.length) c] := by simp [secsOf]
theorem secsOf_cons (n : Nat) (c : ChD) (l : List ChD) : secsOf n (c :: l) = chS n c :: secsOf (n + 1) l := by
  unfold secsOf
  rw [List.mapIdx_cons]
  congr 1
  congr 1
  funext i c
  rw [show n + (i + 1) = n + 1 + i by omega]
theorem bytesP_length {c : ChD} (h : checkP c = none) : (bytesP c).length ≤ 94 := by
  obtain ⟨_, _, h3, h4⟩ := checkP_none h
  simp only [bytesP, List.length_cons, List.length_append, Array.length_toList]
  have e1 : c.key.data.size = c.key.size := rfl
  have e2 : c.val.data.size = c.val.size := rfl
  omega
theorem chS_length {n : Nat} {c : ChD} (h : checkP c = none) : (chS n c).length ≤ 140 := by
  have := bytesP_length h
  unfold chS
  rw [tellL_length]; omega
theorem endS_length (n m : Nat) : (endS n m).length ≤ 140 := by
  unfold endS
  rw [tellL_length, leB_length]; omega
theorem deedS_short {n : Nat} {l : List ChD} (h : ∀ c ∈ l, checkP c = none) : ∀ s ∈ deedS n l, s.length ≤ 140 := by
  intro s hs
  rcases List.mem_append.1 hs with hs | hs
  · obtain ⟨i, hi, rfl⟩ := List.mem_mapIdx.1 hs
    exact chS_length (h _ (List.getElem_mem _))
  · rw [List.mem_singleton.1 hs]
    exact endS_length _ _
theorem run_secs {get : Nat → ByteArray} {first : Nat} : ∀ (l : List ChD) (i : Nat) (D : List (List ChD)) (acc : List ChD) (u : Nat), (∀ c ∈ l, checkP c = none) → first + i + l.length < 4294967296 → (∀ j s, (secsOf (first + i) l)[j]? = some s → get (i + j) = mkB (padL s)) → runR get first l.length i ⟨D, acc, u⟩ = some ⟨D, acc ++ l, u⟩
  | [], i, D, acc, u, _, _, _ => by simp [runR]
  | c :: l, i, D, acc, u, hc, hn, hg => by
    have hok := hc c (by simp)
    rw [List.length_cons] at hn ⊢
    rw [secsOf_cons] at hg
    have h0 := hg 0 _ rfl
    rw [Nat.add_zero] at h0
    have hp := parse_tell 111 (first + i) (bytesP c) (.inl rfl) (by omega) (by have := bytesP_length hok; omega)
    rw [runR, h0]
    have hs : stepR (mkB (padL (chS (first + i) c))) (first + i) i ⟨D, acc, u⟩ = some ⟨D, acc ++ [c], u⟩ := by
      unfold stepR chS
      rw [hp, if_pos (show (mkB [111], mkB (bytesP c)).1 = kindO from rfl)]
      simp only
      rw [parse_bytes hok]
      rfl
    rw [hs, Option.bind_some, run_secs l (i + 1) D (acc ++ [c]) u (fun x hx => hc x (by simp [hx])) (by omega) (fun j s hj => by
      have := hg (j + 1) s (by rw [List.getElem?_cons_succ]; rw [show first + i + 1 = first + (i + 1) by omega]; exact hj)
      rw [show i + 1 + j = i + (j + 1) by omega]
      exact this)]
    simp
/-- A deed that is told is read. -/
theorem Pre.deed {get : Nat → ByteArray} {first used : Nat} {D : List (List ChD)} (h : Pre get first used D) (l : List ChD) (hc : ∀ c ∈ l, checkP c = none) (hn : first + used + l.length < 4294967296) (hg : ∀ j s, (deedS (first + used) l)[j]? = some s → get (used + j) = mkB (padL s)) : Pre get first (used + (l.length + 1)) (D ++ [l]) := by
  unfold Pre at h ⊢
  rw [runR_app used (l.length + 1) 0 st0 _ h, Nat.zero_add]
  have h1 := run_secs (get := get) (first := first) l used D [] used hc (by omega) (fun j s hj => hg j s (by
    unfold deedS
    rw [List.getElem?_append_left (List.getElem?_eq_some_iff.1 hj).1]
    exact hj))
  rw [runR_app l.length 1 used _ _ h1, runR]
  have h2 := hg l.length (endS (first + used + l.length) l.length) (by
    unfold deedS
    rw [List.getElem?_append_right (by rw [secsOf_length]; exact Nat.le_refl _), secsOf_length, Nat.sub_self]
    rfl)
  have hp := parse_tell 99 (first + (used + l.length)) (leB l.length 4) (.inr rfl) (by omega) (by rw [leB_length]; omega)
  have hs : stepR (get (used + l.length)) (first + (used + l.length)) (used + l.length) ⟨D, [] ++ l, used⟩ = some ⟨D ++ [l], [], used + l.length + 1⟩ := by
    rw [h2, show first + used + l.length = first + (used + l.length) by omega]
    unfold stepR endS
    rw [hp, if_neg (show ¬ (mkB [99], mkB (leB l.length 4)).1 = kindO from fun h => by have := mkB_inj (a := [99]) (b := [111]) h; revert this; decide), if_pos (show (mkB [99], mkB (leB l.length 4)).1 = kindC from rfl)]
    simp only [List.nil_append]
    rw [if_pos trivial]
  rw [hs, Option.bind_some, runR, Nat.add_assoc]
#print axioms Pre.deed
#print axioms Pre.go
#print axioms pre_of_go
end Go.Proofs.Ytcjfhfalffngjaa
