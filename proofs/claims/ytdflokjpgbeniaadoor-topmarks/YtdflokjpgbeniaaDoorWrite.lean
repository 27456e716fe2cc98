/-
  The contract of plain.writeMarks, over the seat's program: the marks go into the builder in the order of their classes.
-/
import Derived.Test.YtdflokjpgbeniaaDoorFrames
import Derived.Test.YtdflokjpgbeniaaDoorText
import Derived.Test.YtdflokjpgbeniaaDoorRune
import Derived.Deep.LoopGhost
import Derived.BigCall
import Derived.Outline
namespace Go.Proofs.YtdflokjpgbeniaaDoor
open Go.RowKit

theorem hide {p : Prop} (h : p) : Hid p := h
theorem unhide {p : Prop} (h : Hid p) : p := h

/-- Every block stands but the builder's, the row's and rows of bytes. -/
def Kept (b : Nat) (row : Option Nat) (w w' : World) : Prop := ∀ k o, w.heap[k]? = some o → k ≠ b → some k ≠ row → (∀ c fz, o ≠ .cells c 5 fz) → w'.heap[k]? = some o
theorem Kept.refl (b : Nat) (row : Option Nat) (w : World) : Kept b row w w := fun _ _ h _ _ _ => h
theorem Kept.trans {b : Nat} {row : Option Nat} {a c d : World} (h : Kept b row a c) (k : Kept b row c d) : Kept b row a d :=
  fun i o hi hb hr ho => k i o (h i o hi hb hr ho) hb hr ho
theorem Kept.others {b : Nat} {row : Option Nat} {w w' : World} (h : Lib.OthersKept 5 (some b) w w') : Kept b row w w' :=
  fun i o hi hb _ ho => h i o hi (fun e => hb (Option.some.inj e)) ho
theorem Kept.grown {b : Nat} {row : Option Nat} {w w' : World} (h : w.grownBy w' row) : Kept b row w w' := by
  intro i o hi _ hr _
  rw [h.block i (Array.getElem?_eq_some_iff.1 hi).1 hr]
  exact hi

theorem add_addr (g j : Nat) : (⟨g, 0, none⟩ : Addr).add j = ⟨g, j, none⟩ := by
  unfold Addr.add
  split <;> simp_all

theorem mark_range {r : Int} (h : Mark r) : 768 ≤ r ∧ r ≤ 807 := by
  unfold Mark classZ at h
  by_cases h1 : r = 768 ∨ r = 769 ∨ r = 776
  · omega
  · rw [if_neg h1] at h
    by_cases h2 : r = 807
    · omega
    · rw [if_neg h2] at h
      omega
theorem mark_small {r : Int} (h : Mark r) : SmallR r := by
  have := mark_range h
  exact ⟨by omega, by omega⟩

theorem below_grown {B : Nat} {w w' : World} {row : Option Nat} (h : w.grownBy w' row) (hB : B ≤ w.heap.size) (hr : ∀ g, row = some g → B ≤ g) : Below B w w' :=
  ⟨h.os, h.tape, h.output, h.size, fun k hk => h.block k (by omega) (fun e => by have := hr k e.symm; omega)⟩

set_option maxRecDepth 100000 in
theorem writeMarks_calls (B b : Nat) (acc : List UInt8) (ms : List Int) (v : Value) (w : World) (hI : Lib.IsBuilderF 55 5 B b (Lib.byteCells acc) w) (hlen : acc.length + 80 ≤ 140737488355328) (hBw : B ≤ w.heap.size)
    (h : w.ownsRow B 21 1 v ms.length (ms.map (Value.int .i32))) (hm : ∀ a ∈ ms, Mark a) (hn : ms.length < 20) :
    Calls Tryd.prog 32 #[.pointer (some ⟨b, 0, none⟩), v] w fun e w' => e = .returned (.tuple #[]) ∧ Lib.IsBuilderF 55 5 B b (Lib.byteCells (acc ++ encL (sortM ms))) w' ∧
      w'.ownsRow B 21 1 v ms.length ((sortM ms).map (Value.int .i32)) ∧ Below B w w' ∧ Kept b v.ownBlock w w' := by
  have hs := sort_owns B ms v w h hm hn
  have hvne := owns_ne_builder h hI (by decide)
  have hkind := owns_kind h
  have hlt := fun g hg => (h.lt g hg).1
  have hm' : ∀ a ∈ sortM ms, Mark a := fun a ha => hm a ((sortM_mem _ _).1 ha)
  have hl' := sortM_length ms
  have hv : ∃ p cap, v = .slice p ms.length cap ∧ (ms.length = 0 ∨ ∃ g, p = some ⟨g, 0, none⟩) := by
    rcases h.2 with ⟨rfl, hz⟩ | ⟨g, cap, cur, rfl, _⟩
    · exact ⟨none, 0, by rw [hz], .inl hz⟩
    · exact ⟨_, cap, rfl, .inr ⟨g, rfl⟩⟩
  obtain ⟨p, cap, hve, hp⟩ := hv
  generalize sortM ms = ss at *
  clear hm h
  generalize hnn : ms.length = n at *
  have hle63 : (n : Int) < 20 := by omega
  subst hve
  have HI := hide hI
  have HK := hide hkind
  have HL := hide hlt
  have Hm := hide hm'
  have Hl := hide hl'
  clear hI hkind hlt hm' hl' hnn
  go_enter Tryd.func32, Tryd.ntmps32
  go_wp2_with fail
  refine hs.mono ?_
  rintro e w1 ⟨rfl, ho1, hg1⟩
  clear hs
  have hb1 := below_grown hg1 hBw (unhide HL)
  have hI1 := builder_grown (unhide HI) hg1 (fun g hg => by
    obtain ⟨c, hc⟩ := unhide HK g hg
    exact ⟨c, 21, (0, 0), hc, by decide, by decide⟩)
  have hk1 : Kept b (Value.slice p n cap).ownBlock w w1 := Kept.grown hg1
  have hs1 := hg1.size
  clear hg1
  go_wp2_with fail
  go_loopg [10] (n + 1) (fun k i wr => ∃ j : Nat, j ≤ n ∧ k = n + 1 - j ∧ i = .int .i64 j ∧ Hid (Lib.IsBuilderF 55 5 B b (Lib.byteCells (acc ++ encL (ss.take j))) wr) ∧ Hid (wr.ownsRow B 21 1 (.slice p n cap) n (ss.map (Value.int .i32))) ∧ Below B w wr ∧ Hid (Kept b (Value.slice p n cap).ownBlock w wr))
  case atStart => exact ⟨0, by omega, rfl, rfl, by rw [List.take_zero, encL_nil, List.append_nil]; exact hI1, ho1, hb1, hk1⟩
  case round =>
    obtain ⟨j, hj, hk, rfl, HIr, HOr, hBr, HKr⟩ := hrel
    have hBs : B ≤ wr.heap.size := Nat.le_trans hBw hBr.size
    by_cases hjn : j < n
    · obtain ⟨g, rfl⟩ : ∃ g, p = some ⟨g, 0, none⟩ := by
        rcases hp with h0 | h0
        · omega
        · exact h0
      have hjs : j < ss.length := by have := unhide Hl; omega
      obtain ⟨x, Hx⟩ : ∃ x, Hid (ss[j]? = some x) := ⟨_, List.getElem?_eq_getElem hjs⟩
      have hxm : Mark x := unhide Hm x (List.mem_of_getElem? (unhide Hx))
      have hxr := mark_range hxm
      have hcell : wr.cell? ⟨g, j, none⟩ = some (.int .i32 x) := by
        have := (unhide HOr).cells (g := g) rfl j (.int .i32 x) (by rw [List.getElem?_map, unhide Hx]; rfl)
        rwa [add_addr] at this
      have hjz : (j : Int) < (n : Int) := by omega
      have htl : (encL (ss.take j)).length ≤ 2 * j := by
        have h1 := (encL_len (ss.take j) (fun r hr => mark_small (unhide Hm r (List.mem_of_mem_take hr)))).2
        have h2 : (ss.take j).length ≤ j := by rw [List.length_take]; omega
        omega
      have hW := writeRune_k B b (Lib.byteCells (acc ++ encL (ss.take j))) x (by omega) (by omega) wr (unhide HIr) (by rw [Lib.byteCells_length, List.length_append]; omega) hBs
      clear hxm hj hI1 ho1 hb1 hk1 hs1 hxr htl hjs
      go_wp2_with fail
      refine hW.mono ?_
      rintro e w2 ⟨rfl, h2, b2, k2⟩
      go_wp2
      go_roundg (n - j)
      case measure => omega
      case rel =>
        refine ⟨j + 1, by omega, by omega, by simp, ?_, ?_, hBr.trans b2, (unhide HKr).trans (Kept.others k2)⟩
        · have e1 : ss.take (j + 1) = ss.take j ++ [x] := by rw [List.take_add_one, unhide Hx]; rfl
          rw [e1, encL_append, encL_one, ← List.append_assoc, Lib.byteCells_append, Lib.byteCells_encodeRune]
          exact Or.inr h2
        · exact owns_others (unhide HOr) k2 hvne (by decide)
    · have hjz : ¬ (j : Int) < (n : Int) := by omega
      have hjl : ss.take j = ss := List.take_of_length_le (by have := unhide Hl; omega)
      have Hjl := hide hjl
      clear hjl
      go_wp2
      go_end0
      refine ⟨rfl, ?_, unhide HOr, hBr, unhide HKr⟩
      have := unhide HIr
      rw [unhide Hjl] at this
      exact this
end Go.Proofs.YtdflokjpgbeniaaDoor
