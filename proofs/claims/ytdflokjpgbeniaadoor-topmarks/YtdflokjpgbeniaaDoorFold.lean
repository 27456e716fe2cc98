/-
  The contracts of plain.Fold and plain.Alike, over the seat's program.
-/
import Derived.Test.YtdflokjpgbeniaaDoorPlain
import Derived.Test.YtdflokjpgbeniaaDoorShelf
namespace Go.Proofs.YtdflokjpgbeniaaDoor
open Go.RowKit

/-- What the program's road wants of a world: the table of whole signs, utf8's two tables, some number in the library's own variable. -/
structure Ready (w : World) : Prop where
  tab : HasTab w
  u8 : Lib.Utf8Tabs 0 1 w
  mx : ∃ m, w.cell? ⟨3, 0, none⟩ = some (.int .i64 m)

theorem Ready.size {w : World} (h : Ready w) : 4 ≤ w.heap.size := by
  obtain ⟨m, hm⟩ := h.mx
  exact World.block_lt_of_cell? w _ hm
theorem Ready.later {w w' : World} (h : Ready w) (hb : Below w.heap.size w w') : Ready w' where
  tab := h.tab.later hb h.tab.size
  u8 := Utf8Tabs_below h.u8 hb
  mx := by
    obtain ⟨m, hm⟩ := h.mx
    exact ⟨m, (hb.cell (p := ⟨3, 0, none⟩) h.size).trans hm⟩

/-- What plain.Fold answers. -/
def foldL (rs : List Int) : List Int := (splitL rs).map foldZ

theorem foldZ_small {r : Int} (h : SmallR r) : SmallR (foldZ r) := by
  unfold foldZ SmallR at *
  split
  · omega
  · split <;> omega
theorem splitL_mem {rs : List Int} : ∀ p ∈ splitL rs, p ∈ partsL rs := by
  intro p hp
  unfold splitL at hp
  refine (runS_facts (partsL rs)).2.2.2 p ?_
  rcases List.mem_append.1 hp with h | h
  · exact List.mem_append.2 (.inl h)
  · exact List.mem_append.2 (.inr ((sortM_mem _ _).1 h))
theorem splitL_small {rs : List Int} (h : ∀ r ∈ rs, SmallR r) : ∀ p ∈ splitL rs, SmallR p := fun p hp => partsL_small h p (splitL_mem p hp)
theorem foldL_small {rs : List Int} (h : ∀ r ∈ rs, SmallR r) : ∀ p ∈ foldL rs, SmallR p := by
  intro p hp
  obtain ⟨q, hq, rfl⟩ := List.mem_map.1 hp
  exact foldZ_small (splitL_small h q hq)
theorem splitL_length (rs : List Int) : (splitL rs).length = (partsL rs).length := by
  unfold splitL
  rw [List.length_append, sortM_length]
  exact (runS_facts (partsL rs)).2.2.1
theorem foldL_length (rs : List Int) : (foldL rs).length = (partsL rs).length := by
  unfold foldL
  rw [List.length_map, splitL_length]

theorem mapD_enc (f : Int → Int) (hf : ∀ r, SmallR r → 0 ≤ f r) : ∀ rs : List Int, (∀ r ∈ rs, SmallR r) → Lib.mapD f (encL rs) = encL (rs.map f)
  | [], _ => rfl
  | r :: rs, h => by
    have hr := h r (by simp)
    have hne : encL (r :: rs) ≠ [] := by
      intro e
      have := congrArg List.length e
      rw [encL_cons, List.length_append, List.length_nil] at this
      have := enc_pos hr
      omega
    rw [Lib.mapD_step f _ hne, encL_cons, decode_enc hr]
    simp only [Int.toNat_of_nonneg hr.1]
    rw [if_pos (hf r hr), List.drop_left, mapD_enc f hf rs (fun x hx => h x (by simp [hx])), List.map_cons, encL_cons]

theorem enter18 : ∀ args w, (callFunc 18 args).run Tryd.prog w = .ok (.enter 18 args) w := fun args w => by kernel_rfl

theorem map_fold (rs : List Int) (w : World) (hR : Ready w) (hs : ∀ r ∈ rs, SmallR r) (hl : rs.length ≤ 2000) :
    Calls Tryd.prog 35 #[.func (.func 18) #[] #[], .string (encS rs)] w fun e w' => e = .returned (.string (encS (rs.map foldZ))) ∧ Below w.heap.size w w' := by
  have h1 := Tryd.strings_Map_grows 18 #[] enter18 foldZ (encS rs) w (by rw [encS_size]; have := (encL_len rs hs).2; omega)
    (fun W x hx _ => (fold_calls (x : Int) W (by omega) (by omega)).mono fun e w' ⟨he, hw⟩ => ⟨he, by rw [hw]; exact Below.refl _ _⟩)
    (fun x hx => fold_range x (by omega) (by omega)) hR.u8
  have e : (encS rs).data.toList = encL rs := by simp [encS]
  rw [e, mapD_enc foldZ (fun r hr => (foldZ_small hr).1) rs hs] at h1
  exact h1

theorem plainFold_calls (rs : List Int) (w : World) (hR : Ready w) (hs : ∀ r ∈ rs, SmallR r) (hl : rs.length ≤ 1000) (hm : marks (partsL rs) < 20) :
    Calls Tryd.prog 20 #[.string (encS rs)] w fun e w' => e = .returned (.string (encS (foldL rs))) ∧ Below w.heap.size w w' := by
  have h1 := plainSplit_calls rs w hR.tab hs hl hm
  have h2 := fun wx (hx : Ready wx) => map_fold (splitL rs) wx hx (splitL_small hs) (by rw [splitL_length]; have := partsL_len rs; omega)
  have e : (splitL rs).map foldZ = foldL rs := rfl
  rw [e] at h2
  generalize splitL rs = sp at *
  generalize foldL rs = fl at *
  clear e
  go_enter Tryd.func20, Tryd.ntmps20
  go_wp2_with fail
  refine h1.mono ?_
  rintro e w1 ⟨rfl, hb1⟩
  have hR1 := hR.later hb1
  go_wp2_with fail
  refine (h2 w1 hR1).mono ?_
  rintro e w2 ⟨rfl, hb2⟩
  go_wp2
  go_ret
  exact ⟨rfl, hb1.trans (hb2.mono hb1.size)⟩

theorem encS_toList (rs : List Int) : (encS rs).toList = encL rs := by
  rw [Lib.toList_data]
  simp [encS]
theorem encS_eq {a b : List Int} (ha : ∀ r ∈ a, SmallR r) (hb : ∀ r ∈ b, SmallR r) : ((encS a).toList == (encS b).toList) = decide (a = b) := by
  rw [encS_toList, encS_toList, Bool.eq_iff_iff, beq_iff_eq, decide_eq_true_iff]
  exact ⟨encL_inj a b ha hb, fun h => by rw [h]⟩

theorem alike_calls (a b : List Int) (w : World) (hR : Ready w) (hsa : ∀ r ∈ a, SmallR r) (hla : a.length ≤ 1000) (hma : marks (partsL a) < 20) (hsb : ∀ r ∈ b, SmallR r) (hlb : b.length ≤ 1000) (hmb : marks (partsL b) < 20) :
    Calls Tryd.prog 21 #[.string (encS a), .string (encS b)] w fun e w' => e = .returned (.bool (decide (foldL a = foldL b))) ∧ Below w.heap.size w w' := by
  have h1 := plainFold_calls a w hR hsa hla hma
  have h2 := fun wx (hx : Ready wx) => plainFold_calls b wx hx hsb hlb hmb
  have hd := encS_eq (foldL_small hsa) (foldL_small hsb)
  generalize decide (foldL a = foldL b) = d at *
  generalize encS (foldL a) = fa at *
  generalize encS (foldL b) = fb at *
  have Hd := hide hd
  clear hd
  go_enter Tryd.func21, Tryd.ntmps21
  go_wp2_with fail
  refine h1.mono ?_
  rintro e w1 ⟨rfl, hb1⟩
  have hR1 := hR.later hb1
  go_wp2_with fail
  refine (h2 w1 hR1).mono ?_
  rintro e w2 ⟨rfl, hb2⟩
  go_wp2
  go_ret
  refine ⟨?_, hb1.trans (hb2.mono hb1.size)⟩
  rw [← unhide Hd]
  rfl
end Go.Proofs.YtdflokjpgbeniaaDoor
