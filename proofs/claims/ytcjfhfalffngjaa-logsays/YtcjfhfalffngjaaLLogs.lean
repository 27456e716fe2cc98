/-
  The contract of logs: a closed fact of the log; and texts as an argument.
-/
import Derived.Test.YtcjfhfalffngjaaLTop
import Derived.Test.YtcjfhfalffngjaaLClosed
namespace Go.Proofs.Ytcjfhfalffngjaa
open Go.ChangeShapes Go.WideShapes Go.RowKit Go.Deep Go.Lib
set_option maxRecDepth 100000
set_option linter.unusedVariables false
set_option linter.unusedSimpArgs false

set_option maxHeartbeats 2000000 in
theorem logs_calls (w : World) : Calls Try.prog 38 #[] w fun e w' => e = .returned (.bool true) ∧ Below w.heap.size w w' := by
  have e12 := new_calls w w [] (Hold.init w) 8 (by decide) (by decide)
  unfold NewEnd at e12
  have E12 := hide e12
  clear e12
  go_enter Try.func38, Try.ntmps38
  go_wp2_with fail
  refine (unhide E12).mono ?_
  rintro e w1 ⟨db, rfl, hD1⟩
  have e39 := open_calls hD1 rfl 2 6 1 (by decide) (by decide) (by decide) (by simp [newP])
  have hL0 : LogOk (newP 8) 2 6 1 [] 0 := LogOk.new (by decide)
  unfold OpenEnd at e39
  rw [hL0.read] at e39
  have E39 := hide e39
  clear e39 E12 hD1
  go_wp2_with fail
  refine (unhide E39).mono ?_
  rintro e w2 ⟨lb, v0, P0, rfl, hP0, hD2⟩
  simp only [List.map_eq_nil_iff] at hP0
  subst hP0
  obtain ⟨p0, c0, hv0, _⟩ := row_slice (hD2.hold.rowAt (.head _))
  simp only [List.length_nil] at hv0
  subst hv0
  have hD2' := hD2.lose (deedsR _ [])
  obtain ⟨B, hB⟩ : ∃ B, w2.heap.size = B := ⟨_, rfl⟩
  have hD3 : DiskIn w (w2.alloc (.cells #[.string ⟨#[107]⟩, .string ⟨#[120]⟩, .bool false] 54)) db (newP 8) (.cell B 54 [.string ⟨#[107]⟩, .string ⟨#[120]⟩, .bool false] :: [logR lb db 2 6 1 0]) := by rw [← hB]; exact hD2'.made 54 [.string ⟨#[107]⟩, .string ⟨#[120]⟩, .bool false]
  have hcc : ChL (w2.alloc (.cells #[.string ⟨#[107]⟩, .string ⟨#[120]⟩, .bool false] 54)) (.slice (some ⟨B, 0, none⟩) 1 1) [⟨⟨#[107]⟩, ⟨#[120]⟩, false⟩] := by
    refine .inr ⟨B, 0, 1, rfl, by decide, hD3.hold.ltAt (.head _), fun j hj => ?_⟩
    obtain rfl : j = 0 := by simp at hj; omega
    exact ⟨hD3.cellAt (.head _) (j := 0) rfl, hD3.cellAt (.head _) (j := 1) rfl, hD3.cellAt (.head _) (j := 2) rfl⟩
  have ea := add_calls (hD3.perm (List.Perm.swap _ _ _)) (by decide) (by decide) (by decide) (by decide) (by simp [newP]) (.slice (some ⟨B, 0, none⟩) 1 1) 1 _ hcc (by decide)
  rw [show listOf 1 (fun i => ([⟨⟨#[107]⟩, ⟨#[120]⟩, false⟩] : List ChD).getD i chZ) = [⟨⟨#[107]⟩, ⟨#[120]⟩, false⟩] from rfl] at ea
  obtain ⟨d3, had, _, _, hok3⟩ := add_done hL0.steady.down (by simp [newP]) hL0.len hL0.pre (Nat.zero_le _) (by decide) [⟨⟨#[107]⟩, ⟨#[120]⟩, false⟩] (by decide) (by decide) (by kernel_rfl)
  unfold AddEnd at ea
  rw [had] at ea
  have EA := hide ea
  clear ea had hok3 hcc hD3 hD2 hD2' hL0 E39
  simp only [errV] at EA
  go_wp2_with fail
  refine (unhide EA).mono ?_
  rintro e w4 ⟨rfl, hD4⟩
  have hm : logR lb db 2 6 1 2 ∈ (logR lb db 2 6 1 2 :: [.cell B 54 [.string ⟨#[107]⟩, .string ⟨#[120]⟩, .bool false]]) := .head _
  have k2 : w4.cell? ⟨lb, 2, none⟩ = some (.int .i64 6) := hD4.cellAt hm rfl
  have k3 : w4.cell? ⟨lb, 3, none⟩ = some (.int .i64 1) := hD4.cellAt hm rfl
  have k4 : w4.cell? ⟨lb, 4, none⟩ = some (.int .i64 2) := hD4.cellAt hm rfl
  have es := same_calls w4 none 0
  unfold sameP at es
  simp only [errV] at es
  have ES := hide es
  have e42 := room_calls lb 6 2 w4 (by decide) (by decide) k2 k4
  have e43 := fun m => next_calls lb 6 1 (w4.drewN m) (by decide) (by decide) k2 k3
  have E42 := hide e42
  have E43 := hide e43
  have HB4 := hide hD4.below
  clear es e42 e43 hD4 EA hm k2 k3 k4
  go_wp2_with fail
  refine (unhide ES).mono ?_
  rintro e w5 ⟨rfl, rfl⟩
  simp only [beq_self_eq_true]
  clear ES
  go_wp2_with fail
  refine (unhide E42).mono ?_
  rintro e w6 ⟨rfl, m6, rfl⟩
  clear E42
  go_wp2_with fail
  refine (unhide E43 m6).mono ?_
  rintro e w7 ⟨rfl, m7, rfl⟩
  clear E43
  go_wp2_with fail
  go_ret
  exact ⟨rfl, Below.trans (unhide HB4) (((Hold.init w5).drewN _).below.mono (unhide HB4).size)⟩
#print axioms logs_calls

section
variable {H : Type} {enc : TypeId × Value → H} {W : World} {base : Nat} {held : Bool}
theorem texts_open {v : Value} {d : DataW H} {ps : List MemPlace} (hval : ∃ a len cap, v = .slice a len cap) (h : DataW.Trod enc Try.prog W base (fun _ => true) held 47 v d ps) : ∃ (n : Nat) (l : List (List UInt8)), StrOk W v l := by
  obtain ⟨fuel, h⟩ := h
  obtain ⟨a0, l0, c0, rfl⟩ := hval
  rcases open_slice Try.underlying47 h with ⟨h0, _⟩ | ⟨a, len, cap, m, n, D, Pl, hcs, hb, hl, hm, hmm, _, hx⟩
  · simp only [Value.cells, List.cons.injEq, and_true] at h0
    exact ⟨0, [], .inl ⟨rfl, none, 0, h0⟩⟩
  · simp only [Value.cells, List.cons.injEq, and_true] at hcs
    simp only [if_true] at hmm
    rcases Nat.eq_zero_or_pos cap with h0 | h0
    · obtain rfl : len = 0 := by omega
      exact ⟨0, [], .inl ⟨rfl, _, _, hcs⟩⟩
    · obtain ⟨b, o, spot⟩ := a
      have hsp : spot = none ∧ b < W.heap.size := by
        obtain ⟨cs', h1, _⟩ := hx 0 (by omega)
        rw [cells9] at h1
        obtain ⟨_, hlen, hcell⟩ := World.cells?_some h1
        have := hcell 0 (by omega)
        rw [List.getElem?_eq_getElem (by omega)] at this
        exact ⟨by simpa [Addr.add] using World.cell?_spot this, by have h2 := World.block_lt_of_cell? _ _ this; simpa [Addr.add] using h2⟩
      obtain ⟨rfl, hlt⟩ := hsp
      have each : ∀ j, j < len → ∃ q : List UInt8, W.cell? ⟨b, o + j, none⟩ = some (.string (mkB q)) := fun j hj => by
        obtain ⟨cs', h1, h2⟩ := hx j (by omega)
        rw [cells9] at h1
        obtain ⟨_, hlen, hcell⟩ := World.cells?_some h1
        match cs', hlen with
        | [u0], _ =>
          have c0 := hcell 0 (by omega)
          rw [add_add, Addr.add_lit] at c0
          obtain ⟨s0, e0, _⟩ := DataW.trod_string Try.underlying9 h2
          simp at e0
          subst e0
          exact ⟨s0.data.toList, by rw [mkB_of]; simpa using c0⟩
      obtain ⟨f, hf⟩ := choose_lt each
      refine ⟨0, (List.range len).map f, .inr ⟨b, o, cap, by simpa using hcs, by simp; unfold maxLen at hm; omega, hlt, fun j p hp => ?_⟩⟩
      have hj : j < len := by have := (List.getElem?_eq_some_iff.1 hp).1; simpa using this
      rw [List.getElem?_map, List.getElem?_range hj] at hp
      cases hp
      exact hf j hj
end
#print axioms texts_open
end Go.Proofs.Ytcjfhfalffngjaa
