/-
  The contracts of plain.Fold and plain.Alike, over the seat's program, of any bytes that have fewer than forty marks; what is split up is split up once.
-/
import Derived.Test.YtdflokjpgbeniaaDoorPlainW
import Derived.Test.YtdflokjpgbeniaaDoorAgain
namespace Go.Proofs.YtdflokjpgbeniaaDoor
open Go.RowKit

theorem foldZ_wide {r : Int} (h : WideR r) : WideR (foldZ r) := by
  unfold foldZ WideR at *
  split
  · omega
  · split <;> omega
theorem splitL_wide {rs : List Int} (h : ∀ r ∈ rs, WideR r) : ∀ p ∈ splitL rs, WideR p := fun p hp => partsL_wide h p (splitL_mem p hp)
theorem foldL_wide {rs : List Int} (h : ∀ r ∈ rs, WideR r) : ∀ p ∈ foldL rs, WideR p := by
  intro p hp
  obtain ⟨q, hq, rfl⟩ := List.mem_map.1 hp
  exact foldZ_wide (splitL_wide h q hq)

theorem mapD_encW (f : Int → Int) (hf : ∀ r, WideR r → 0 ≤ f r) : ∀ rs : List Int, (∀ r ∈ rs, WideR r) → Lib.mapD f (encL rs) = encL (rs.map f)
  | [], _ => rfl
  | r :: rs, h => by
    have hr := h r (by simp)
    have hne : encL (r :: rs) ≠ [] := by
      intro e
      have := congrArg List.length e
      rw [encL_cons, List.length_append, List.length_nil] at this
      have := (enc_lenW r).1
      omega
    rw [Lib.mapD_step f _ hne, encL_cons, decode_encW hr]
    simp only [Int.toNat_of_nonneg hr.1]
    rw [if_pos (hf r hr), List.drop_left, mapD_encW f hf rs (fun x hx => h x (by simp [hx])), List.map_cons, encL_cons]

theorem map_foldW (rs : List Int) (w : World) (hR : Ready w) (hs : ∀ r ∈ rs, WideR r) (hl : rs.length ≤ 2000) :
    Calls Tryd.prog 35 #[.func (.func 18) #[] #[], .string (encS rs)] w fun e w' => e = .returned (.string (encS (rs.map foldZ))) ∧ Below w.heap.size w w' := by
  have h1 := Tryd.strings_Map_grows 18 #[] enter18 foldZ (encS rs) w (by rw [encS_size]; have := (encL_lenW rs).2; omega)
    (fun W x hx _ => (fold_calls (x : Int) W (by omega) (by omega)).mono fun e w' ⟨he, hw⟩ => ⟨he, by rw [hw]; exact Below.refl _ _⟩)
    (fun x hx => fold_range x (by omega) (by omega)) hR.u8
  have e : (encS rs).data.toList = encL rs := by simp [encS]
  rw [e, mapD_encW foldZ (fun r hr => (foldZ_wide hr).1) rs hs] at h1
  exact h1

theorem plainFoldW_calls (s : ByteArray) (rs : List Int) (w : World) (hRd : Reads s.data.toList rs) (hR : Ready w) (hs : ∀ r ∈ rs, WideR r) (hl : rs.length ≤ 1000) (hm : marks (partsL rs) < 40) :
    Calls Tryd.prog 20 #[.string s] w fun e w' => e = .returned (.string (encS (foldL rs))) ∧ Below w.heap.size w w' := by
  have h1 := plainSplitW_calls s rs w hRd hR.tab hs hl hm
  have h2 := fun wx (hx : Ready wx) => map_foldW (splitL rs) wx hx (splitL_wide hs) (by rw [splitL_length]; have := partsL_len rs; omega)
  have e : (splitL rs).map foldZ = foldL rs := rfl
  rw [e] at h2
  generalize splitL rs = sp at *
  generalize foldL rs = fl at *
  clear e hRd
  go_enter Tryd.func20, Tryd.ntmps20
  go_wp2_with fail
  refine h1.mono ?_
  rintro e w1 ⟨rfl, hb1⟩
  have hR1 := hR.later hb1
  go_wp2_with fail
  refine (h2 w1 hR1).mono ?_
  rintro e w2 ⟨rfl, hb2⟩
  go_wp2
  go_ret
  exact ⟨rfl, hb1.trans (hb2.mono hb1.size)⟩

theorem encS_eqW {a b : List Int} (ha : ∀ r ∈ a, WideR r) (hb : ∀ r ∈ b, WideR r) : ((encS a).toList == (encS b).toList) = decide (a = b) := by
  rw [encS_toList, encS_toList, Bool.eq_iff_iff, beq_iff_eq, decide_eq_true_iff]
  exact ⟨encL_injW a b ha hb, fun h => by rw [h]⟩

theorem alikeW_calls (s t : ByteArray) (a b : List Int) (w : World) (hRa : Reads s.data.toList a) (hRb : Reads t.data.toList b) (hR : Ready w) (hsa : ∀ r ∈ a, WideR r) (hla : a.length ≤ 1000) (hma : marks (partsL a) < 40) (hsb : ∀ r ∈ b, WideR r) (hlb : b.length ≤ 1000) (hmb : marks (partsL b) < 40) :
    Calls Tryd.prog 21 #[.string s, .string t] w fun e w' => e = .returned (.bool (decide (foldL a = foldL b))) ∧ Below w.heap.size w w' := by
  have h1 := plainFoldW_calls s a w hRa hR hsa hla hma
  have h2 := fun wx (hx : Ready wx) => plainFoldW_calls t b wx hRb hx hsb hlb hmb
  have hd := encS_eqW (foldL_wide hsa) (foldL_wide hsb)
  generalize decide (foldL a = foldL b) = d at *
  generalize encS (foldL a) = fa at *
  generalize encS (foldL b) = fb at *
  have Hd := hide hd
  clear hd hRa hRb
  go_enter Tryd.func21, Tryd.ntmps21
  go_wp2_with fail
  refine h1.mono ?_
  rintro e w1 ⟨rfl, hb1⟩
  have hR1 := hR.later hb1
  go_wp2_with fail
  refine (h2 w1 hR1).mono ?_
  rintro e w2 ⟨rfl, hb2⟩
  go_wp2
  go_ret
  refine ⟨?_, hb1.trans (hb2.mono hb1.size)⟩
  rw [← unhide Hd]
  rfl

/-- What a sign is split up to is split up no more. -/
theorem splitZ_once {r p : Int} (h : p ∈ splitZ r) : splitZ p = [p] := by
  cases hB : wholeB r with
  | false =>
    have e : splitZ r = [r] := by unfold splitZ; rw [hB]; rfl
    rw [e] at h
    simp at h
    rw [h, e]
  | true =>
    unfold splitZ at h
    rw [hB] at h
    obtain ⟨hm, _⟩ := whole_mem r hB
    have := tab_small _ hm
    simp at h
    rcases h with rfl | rfl
    · exact splitZ_self (by omega)
    · exact splitZ_self (by omega)
theorem partsL_once {ps : List Int} (h : ∀ p ∈ ps, splitZ p = [p]) : partsL ps = ps := by
  induction ps with
  | nil => rfl
  | cons p ps ih =>
    have e : partsL (p :: ps) = splitZ p ++ partsL ps := rfl
    rw [e, h p (by simp), ih (fun q hq => h q (by simp [hq]))]
    rfl
theorem split_once (rs : List Int) : ∀ p ∈ splitL rs, splitZ p = [p] := fun p hp => by
  obtain ⟨r, _, hpr⟩ := List.mem_flatMap.1 (splitL_mem p hp)
  exact splitZ_once hpr
theorem parts_split (rs : List Int) : partsL (splitL rs) = splitL rs := partsL_once (split_once rs)
theorem split_split (rs : List Int) : splitL (splitL rs) = splitL rs := by
  rw [splitL_join (splitL rs), parts_split, splitL_join, joinS_again]
theorem fold_once {p : Int} (h : splitZ p = [p]) : splitZ (foldZ p) = [foldZ p] := by
  unfold foldZ
  split
  · exact splitZ_self (by omega)
  · split
    · exact splitZ_self (by omega)
    · exact h
theorem parts_fold (rs : List Int) : partsL (foldL rs) = foldL rs := partsL_once (fun q hq => by
  obtain ⟨p, hp, rfl⟩ := List.mem_map.1 hq
  exact fold_once (split_once rs p hp))
theorem fold_fold_all (rs : List Int) : foldL (foldL rs) = foldL rs := by
  have e2 : (foldL rs).map foldZ = foldL rs := by
    unfold foldL
    rw [List.map_map]
    exact List.map_congr_left (fun r _ => fold_fold r)
  rw [foldL_parts (foldL rs), parts_fold, e2, foldL_parts, joinS_again]
theorem fold_split_all (rs : List Int) : foldL (splitL rs) = foldL rs := by
  show (splitL (splitL rs)).map foldZ = _
  rw [split_split]
  rfl

theorem marks_filter (l : List Int) (h : ∀ x ∈ l, Mark x) : marks l = l.length := by
  unfold marks
  rw [List.filter_eq_self.2 (fun x hx => by rcases h x hx with h | h <;> simp [h])]
theorem marks_runS (ps : List Int) : marks (runS ps).1 + (runS ps).2.length = marks ps := by
  suffices hh : ∀ (l : List Int), l.reverse = ps → marks (runS ps).1 + (runS ps).2.length = marks ps from hh ps.reverse (by simp)
  intro l
  induction l generalizing ps with
  | nil =>
    intro e
    simp at e
    subst e
    rfl
  | cons x l ih =>
    intro e
    rw [List.reverse_cons] at e
    subst e
    have h := ih l.reverse rfl
    have hf := (runS_facts l.reverse).1
    rw [runS_snoc, marks_append]
    unfold stepS
    split
    · rename_i hc
      rw [marks_append, marks_append, marks_filter (sortM _) (fun y hy => hf y ((sortM_mem _ _).1 hy)), sortM_length]
      simp [marks, hc] at h ⊢
      omega
    · rename_i hc
      have e1 : marks [x] = 1 := by simp [marks, hc]
      rw [e1, List.length_append, List.length_singleton]
      show marks (runS l.reverse).1 + _ = _
      omega
theorem marks_join (ps : List Int) : marks (joinS ps) = marks ps := by
  unfold joinS
  have hf := (runS_facts ps).1
  rw [marks_append, marks_filter (sortM _) (fun y hy => hf y ((sortM_mem _ _).1 hy)), sortM_length]
  exact marks_runS ps
theorem marks_splitL (rs : List Int) : marks (partsL (splitL rs)) = marks (partsL rs) := by
  rw [parts_split, splitL_join, marks_join]
theorem marks_foldL (rs : List Int) : marks (partsL (foldL rs)) = marks (partsL rs) := by
  rw [parts_fold]
  show marks ((splitL rs).map foldZ) = _
  rw [marks_fold, splitL_join, marks_join]
theorem encS_bytes (rs : List Int) : (encS rs).data.toList = encL rs := by simp [encS]
end Go.Proofs.YtdflokjpgbeniaaDoor
