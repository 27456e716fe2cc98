/-
  Names and paths that are written otherwise: what their parts and keys are. Plain facts; no Go text.
-/
import Derived.Test.YtjpmomklkkifjaaGreatDoorCBHeap
import Derived.Test.YtjpmomklkkifjaaGreatDoorCMerge
import Derived.Test.YtjpmomklkkifjaaGreatDoorCFoldW
namespace Go.Proofs.YtjpmomklkkifjaaGreatDoor.T
open Go.RowKit
set_option maxRecDepth 100000
set_option linter.unusedVariables false
set_option linter.unusedSimpArgs false

/-- Split up, and its letters the other way round. -/
def otherR (rs : List Int) : List Int := (splitL rs).map swapZ

theorem step_shift (P a m : List Int) (p : Int) : stepS (P ++ a, m) p = (P ++ (stepS (a, m) p).1, (stepS (a, m) p).2) := by
  unfold stepS
  split <;> simp
theorem foldl_shift (P : List Int) : ∀ (ps a m : List Int), ps.foldl stepS (P ++ a, m) = (P ++ (ps.foldl stepS (a, m)).1, (ps.foldl stepS (a, m)).2)
  | [], a, m => rfl
  | p :: ps, a, m => by
    rw [List.foldl_cons, List.foldl_cons, step_shift]
    exact foldl_shift P ps _ _
theorem runS_cut (a b : List Int) {x : Int} (hx : classZ x = 0) : runS (a ++ x :: b) = ((joinS a ++ [x]) ++ (runS b).1, (runS b).2) := by
  have h1 : stepS (runS a) x = ((joinS a ++ [x]) ++ [], []) := by
    unfold stepS
    rw [if_pos hx]
    simp [joinS]
  have h2 := foldl_shift (joinS a ++ [x]) b [] []
  rw [← h1] at h2
  show (a ++ x :: b).foldl stepS ([], []) = _
  rw [List.foldl_append, List.foldl_cons]
  exact h2
theorem joinS_cut (a b : List Int) {x : Int} (hx : classZ x = 0) : joinS (a ++ x :: b) = joinS a ++ x :: joinS b := by
  show (runS (a ++ x :: b)).1 ++ sortM (runS (a ++ x :: b)).2 = _
  rw [runS_cut a b hx]
  show (joinS a ++ [x]) ++ (runS b).1 ++ sortM (runS b).2 = joinS a ++ x :: ((runS b).1 ++ sortM (runS b).2)
  simp
theorem splitL_cut (a b : List Int) : splitL (a ++ 47 :: b) = splitL a ++ 47 :: splitL b := by
  have e : partsL (a ++ 47 :: b) = partsL a ++ 47 :: partsL b := by
    unfold partsL
    rw [List.flatMap_append, List.flatMap_cons, splitZ_self (.inl (by omega))]
    rfl
  rw [splitL_join, e, joinS_cut _ _ (by decide)]
  rfl
theorem otherR_cut (a b : List Int) : otherR (a ++ 47 :: b) = otherR a ++ 47 :: otherR b := by
  unfold otherR
  rw [splitL_cut, List.map_append, List.map_cons]
  rfl
theorem otherR_join : ∀ l : List (List Int), otherR (joinP 47 l) = joinP 47 (l.map otherR)
  | [] => by decide
  | [a] => rfl
  | a :: b :: t => by
    show otherR (a ++ 47 :: joinP 47 (b :: t)) = otherR a ++ 47 :: joinP 47 ((b :: t).map otherR)
    rw [otherR_cut, otherR_join (b :: t)]
theorem enc47 : Lib.encodeRune 47 = [47] := by rw [enc_one (by omega) (by omega)]; rfl
theorem encL_join : ∀ l : List (List Int), encL (joinP 47 l) = joinP 47 (l.map encL)
  | [] => rfl
  | [a] => rfl
  | a :: b :: t => by
    show encL (a ++ 47 :: joinP 47 (b :: t)) = encL a ++ 47 :: joinP 47 ((b :: t).map encL)
    rw [encL_append, encL_cons, enc47, encL_join (b :: t)]
    rfl
theorem otherR_small {rs : List Int} (h : ∀ r ∈ rs, SmallR r) : ∀ r ∈ otherR rs, SmallR r := fun r hr => by
  obtain ⟨q, hq, rfl⟩ := List.mem_map.1 hr
  exact swap_small (splitL_small h q hq)

/-- No byte 47 where no sign 47 is. -/
theorem enc_no47 {r : Int} (h : SmallR r) (h47 : r ≠ 47) : (47 : UInt8) ∉ Lib.encodeRune r := by
  obtain ⟨h0, h1⟩ := h
  rcases Int.lt_or_le r 128 with hl | hl
  · rw [enc_one h0 hl]
    intro e
    have e1 : (47 : UInt8) = r.toNat.toUInt8 := by simpa using e
    have e2 := congrArg UInt8.toNat e1
    rw [u8 _ (by omega)] at e2
    have : (47 : UInt8).toNat = 47 := rfl
    omega
  · rw [enc_two hl h1]
    intro e
    have e1 : (47 : UInt8) = (192 + r / 64).toNat.toUInt8 ∨ (47 : UInt8) = (128 + r % 64).toNat.toUInt8 := by simpa using e
    have h47 : (47 : UInt8).toNat = 47 := rfl
    rcases e1 with e1 | e1
    · have e2 := congrArg UInt8.toNat e1
      rw [u8 _ (by omega)] at e2
      omega
    · have e2 := congrArg UInt8.toNat e1
      rw [u8 _ (by omega)] at e2
      omega
theorem encL_no47 {rs : List Int} (h : ∀ r ∈ rs, SmallR r ∧ r ≠ 47) : (47 : UInt8) ∉ encL rs := by
  intro e
  obtain ⟨r, hr, hm⟩ := List.mem_flatMap.1 e
  exact enc_no47 (h r hr).1 (h r hr).2 hm
theorem isZ_47 : isZ 47 = false := by decide +kernel
theorem swap47 {r : Int} (h : swapZ r = 47) : r = 47 := by
  unfold swapZ at h
  split at h
  · omega
  split at h
  · omega
  · exact h
theorem Name.no47 {rs : List Int} (h : Name rs) : ∀ r ∈ rs, SmallR r ∧ r ≠ 47 := fun r hr => ⟨h.small r hr, fun e => by
  have := h.signs r hr
  rw [e, isZ_47] at this
  cases this⟩
theorem Name.other47 {rs : List Int} (h : Name rs) : ∀ r ∈ otherR rs, SmallR r ∧ r ≠ 47 := fun r hr => ⟨otherR_small h.small r hr, fun e => by
  obtain ⟨q, hq, he⟩ := List.mem_map.1 hr
  rw [e] at he
  have hq47 := swap47 he
  rcases h.part q hq with h1 | h1
  · rw [hq47] at h1; exact absurd h1 (by decide)
  · rw [hq47] at h1; rcases h1 with h1 | h1 <;> exact absurd h1 (by decide)⟩

/-- The signs of a part. -/
noncomputable def sg (p : ByteArray) : List Int := if p.toList = [46] then [46] else if p.toList = [46, 46] then [46, 46] else signsOf p
theorem toList_inj {a b : ByteArray} (h : a.data.toList = b.data.toList) : a = b := by
  cases a; cases b
  congr 1
  exact Array.toList_inj.1 h
theorem sg_facts {p : ByteArray} (h : PartOk p) : p = encS (sg p) ∧ (∀ r ∈ sg p, SmallR r) ∧ (47 : UInt8) ∉ encL (otherR (sg p)) ∧ (47 : UInt8) ∉ encL (sg p) ∧ sg p ≠ [] := by
  unfold sg
  split
  · rename_i h1
    refine ⟨toList_inj ?_, by simp [SmallR], by decide +kernel, by decide +kernel, by simp⟩
    rw [Lib.toList_data] at h1
    rw [h1]; decide +kernel
  split
  · rename_i h1
    refine ⟨toList_inj ?_, by simp [SmallR], by decide +kernel, by decide +kernel, by simp⟩
    rw [Lib.toList_data] at h1
    rw [h1]; decide +kernel
  · rename_i h1 h2
    rcases h with h | h
    · unfold dotsB at h
      simp only [Bool.or_eq_true, beq_iff_eq] at h
      rcases h with h | h
      · exact absurd h h1
      · exact absurd h h2
    · obtain ⟨hn, he, _⟩ := name_of_check h
      exact ⟨he, hn.small, encL_no47 (Name.other47 hn), encL_no47 (Name.no47 hn), hn.ne⟩

theorem foldl_plain : ∀ {ps : List Int} (a : List Int), (∀ p ∈ ps, classZ p = 0) → ps.foldl stepS (a, []) = (a ++ ps, [])
  | [], a, _ => by simp
  | p :: ps, a, h => by
    have h1 : stepS (a, []) p = (a ++ [p], []) := by
      unfold stepS
      rw [if_pos (h p (by simp))]
      simp [sortM]
    rw [List.foldl_cons, h1, foldl_plain _ fun q hq => h q (by simp [hq])]
    simp
theorem runS_plain {ps : List Int} (h : ∀ p ∈ ps, classZ p = 0) : runS ps = (ps, []) := by
  have := foldl_plain [] h
  rw [List.nil_append] at this
  exact this
/-- Where no mark comes out nothing was split up. -/
theorem split_plain {rs : List Int} (h : ∀ p ∈ splitL rs, classZ p = 0) : splitL rs = rs := by
  have hm : marks (partsL rs) = 0 := by
    have h1 : marks (splitL rs) = 0 := by
      unfold marks
      rw [List.length_eq_zero_iff, List.filter_eq_nil_iff]
      intro p hp; rw [h p hp]; decide
    have hf := runS_facts (partsL rs)
    have h2 : (runS (partsL rs)).2 = [] := by
      cases hr : (runS (partsL rs)).2 with
      | nil => rfl
      | cons a t =>
        exfalso
        have ha : a ∈ splitL rs := by
          unfold splitL
          rw [hr]
          exact List.mem_append_right _ ((sortM_mem _ _).2 (by simp))
        have := hf.1 a (by rw [hr]; simp)
        rcases this with h3 | h3 <;> rw [h a ha] at h3 <;> exact absurd h3 (by decide)
    have h3 := marks_runS (partsL rs)
    rw [h2] at h3
    have e : splitL rs = (runS (partsL rs)).1 := by unfold splitL; rw [h2]; simp [sortM]
    rw [← e, h1] at h3
    simpa using h3.symm
  have hp : ∀ p ∈ partsL rs, classZ p = 0 := fun p hp => by
    have := (List.filter_eq_nil_iff.1 (List.length_eq_zero_iff.1 hm)) p hp
    simpa using this
  have hrs : partsL rs = rs := by
    clear h hm
    induction rs with
    | nil => rfl
    | cons r rs ih =>
      have e : partsL (r :: rs) = splitZ r ++ partsL rs := rfl
      rw [e] at hp ⊢
      rw [ih fun p hq => hp p (by simp [hq])]
      have : splitZ r = [r] := by
        unfold splitZ at hp ⊢
        split
        · rename_i hw
          exfalso
          obtain ⟨hmm, hx⟩ := whole_mem r hw
          have hk : ∀ x ∈ tab, classZ x.2.2 ≠ 0 := by decide +kernel
          rw [if_pos hw] at hp
          have h5 := hk _ hmm
          have h6 := hp (wholeX r).2.2 (by simp)
          exact h5 h6
        · rfl
      rw [this]; rfl
  unfold splitL
  rw [runS_plain hp, hrs]
  simp [sortM]
theorem other_dots {rs : List Int} {ds : List Int} (hd : ds = [46] ∨ ds = [46, 46]) (h : otherR rs = ds) : rs = ds := by
  have h46 : ∀ q ∈ splitL rs, q = 46 := fun q hq => by
    have h1 : swapZ q ∈ otherR rs := List.mem_map.2 ⟨q, hq, rfl⟩
    rw [h] at h1
    have h2 : swapZ q = 46 := by rcases hd with rfl | rfl <;> simpa using h1
    unfold swapZ at h2
    split at h2
    · omega
    split at h2
    · omega
    · exact h2
  have e := split_plain fun q hq => by rw [h46 q hq]; decide
  have hl : rs.length = ds.length := by rw [← h]; unfold otherR; rw [List.length_map, e]
  have hm : ∀ q ∈ rs, q = 46 := fun q hq => h46 q (by rw [e]; exact hq)
  rcases hd with rfl | rfl
  · match rs, hl, hm with
    | [a], _, hm => rw [hm a (by simp)]
  · match rs, hl, hm with
    | [a, b], _, hm => rw [hm a (by simp), hm b (by simp)]

/-- A part that is written otherwise. -/
noncomputable def otherPart (p : ByteArray) : ByteArray := encS (otherR (sg p))
theorem enc_dots1 : encS [46] = itself := by decide +kernel
theorem enc_dots2 : encS [46, 46] = above := by decide +kernel
theorem toList_enc (rs : List Int) : (encS rs).toList = encL rs := encS_toList rs
theorem encL_46 {rs : List Int} (hs : ∀ r ∈ rs, SmallR r) (ds : List Int) (hd : ∀ r ∈ ds, SmallR r) : encL rs = encL ds ↔ rs = ds := ⟨fun h => encL_inj _ _ hs hd h, fun h => by rw [h]⟩
theorem step_other {N : List NV} {F : Forest} {v : NV} {p : ByteArray} (h : PartOk p) : stepP N F v (otherPart p) = stepP N F v p := by
  obtain ⟨he, hsm, _, _, _⟩ := sg_facts h
  have hso := otherR_small hsm
  have e1 : encL [46] = [46] := by decide +kernel
  have e2 : encL [46, 46] = [46, 46] := by decide +kernel
  have d1 : (otherPart p).toList = [46] ↔ p.toList = [46] := by
    conv => rhs; rw [he]
    unfold otherPart
    rw [toList_enc, toList_enc, ← e1, encL_46 hso [46] (by simp [SmallR]), encL_46 hsm [46] (by simp [SmallR])]
    exact ⟨other_dots (.inl rfl), fun h => by rw [h]; decide⟩
  have d2 : (otherPart p).toList = [46, 46] ↔ p.toList = [46, 46] := by
    conv => rhs; rw [he]
    unfold otherPart
    rw [toList_enc, toList_enc, ← e2, encL_46 hso [46, 46] (by simp [SmallR]), encL_46 hsm [46, 46] (by simp [SmallR])]
    exact ⟨other_dots (.inr rfl), fun h => by rw [h]; decide⟩
  unfold stepP
  simp only [beq_iff_eq, d1, d2]
  split
  · rfl
  split
  · rfl
  split
  · rfl
  · rename_i h1 h2
    have hk : keyS (otherPart p) = keyS p := by
      have hn : checkP p = none := by
        rcases h with h | h
        · unfold dotsB at h
          simp only [Bool.or_eq_true, beq_iff_eq] at h
          rcases h with h | h
          · exact absurd h h1
          · exact absurd h h2
        · exact h
      have hsg : sg p = signsOf p := by unfold sg; rw [if_neg h1, if_neg h2]
      obtain ⟨hname, _, _⟩ := name_of_check hn
      unfold keyS otherPart
      rw [signsOf_enc hso, hsg]
      unfold keyOf otherR
      rw [fold_swapped_split hname]
    rw [hk]
theorem walk_other {N : List NV} {F : Forest} : ∀ (l : List ByteArray) (v : NV), (∀ p ∈ l, PartOk p) → walkP N F v (l.map otherPart) = walkP N F v l
  | [], v, _ => rfl
  | p :: l, v, h => by
    rw [List.map_cons]
    unfold walkP
    rw [step_other (h p (by simp))]
    cases stepP N F v p with
    | ok u => exact walk_other l u fun q hq => h q (by simp [hq])
    | error k => rfl
end Go.Proofs.YtjpmomklkkifjaaGreatDoor.T
