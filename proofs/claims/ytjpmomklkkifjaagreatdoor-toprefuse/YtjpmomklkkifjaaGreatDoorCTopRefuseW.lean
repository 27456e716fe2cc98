/-
  The walk of TopRefuse: what is refused changes nothing.
-/
import Derived.Test.YtjpmomklkkifjaaGreatDoorCISameFs
import Derived.Test.YtjpmomklkkifjaaGreatDoorCIRowF
import Derived.Test.YtjpmomklkkifjaaGreatDoorCBWalkA
import Derived.Test.YtjpmomklkkifjaaGreatDoorCISort
namespace Go.Proofs.YtjpmomklkkifjaaGreatDoor.T
open Go.RowKit
set_option maxRecDepth 100000
set_option linter.unusedVariables false
set_option linter.unusedSimpArgs false

theorem acts_one {W w : World} {B : Nat} {q : ActD} {u : Int} {p : Option Addr} {n c : Nat} (hq : q.ch = .slice p n c) (hch : ChOk W q.ch) (hb : Below W.heap.size W w) (h : w.heap[B]? = some (.cells #[.string q.kind, .string q.s, .string q.t, .int .i64 q.n, .int .u64 u, .slice p n c] 64 (0, 0))) :
    ActsOk w (.slice (some ⟨B, 0, none⟩) 1 1) 1 (fun _ => q) := by
  have hc : ∀ j v, (#[Value.string q.kind, .string q.s, .string q.t, .int .i64 q.n, .int .u64 u, .slice p n c] : Array Value)[j]? = some v → w.cell? ⟨B, j, none⟩ = some v := fun j v hv => by
    rw [cell_of_row w B j _ 64 (0, 0) h]
    exact hv
  refine .inr ⟨B, 0, 1, rfl, by decide, (Array.getElem?_eq_some_iff.1 h).1, fun j hj => ?_⟩
  obtain rfl : j = 0 := by omega
  refine ⟨hc 0 _ rfl, hc 1 _ rfl, hc 2 _ rfl, hc 3 _ rfl, ⟨u, hc 4 _ rfl⟩, ?_, hch.later hb⟩
  rw [hq]
  exact hc 5 _ rfl

theorem FSIn.six64 {w0 w : World} {fb mb : Nat} {N : List NV} {F : Forest} {next : Int} {l2 : List Res} (h : FSIn w0 w fb mb N F next l2) {b : Nat} {a0 a1 a2 a3 a4 a5 : Value} (hm : Res.cell b 64 [a0, a1, a2, a3, a4, a5] ∈ l2) : w.cell? ⟨b, 0, none⟩ = some a0 ∧ w.cell? ⟨b, 1, none⟩ = some a1 ∧ w.cell? ⟨b, 2, none⟩ = some a2 ∧ w.cell? ⟨b, 3, none⟩ = some a3 ∧ w.cell? ⟨b, 4, none⟩ = some a4 ∧ w.cell? ⟨b, 5, none⟩ = some a5 :=
  ⟨h.cellAt hm (j := 0) rfl, h.cellAt hm (j := 1) rfl, h.cellAt hm (j := 2) rfl, h.cellAt hm (j := 3) rfl, h.cellAt hm (j := 4) rfl, h.cellAt hm (j := 5) rfl⟩
set_option maxHeartbeats 16000000 in
theorem topRefuse_walk (va : Value) (na : Nat) (fa : Nat → ActD) (q : ActD) (u : Int) (p : Option Addr) (n c : Nat) (W : World) (hR : Ready W) (hA : ActsOk W va na fa) (hq : q.ch = .slice p n c) (hch : ChOk W q.ch) :
    Calls Tryz.prog 10 #[va, .agg #[.string q.kind, .string q.s, .string q.t, .int .i64 q.n, .int .u64 u, .slice p n c]] W fun e w' => e = .returned (.bool true) ∧ Below W.heap.size W w' := by
  obtain ⟨B, hB⟩ : ∃ B, W.heap.size = B := ⟨_, rfl⟩
  have h0 := Hold.made (H0.start W) (Nat.le_refl _) 64 [.string q.kind, .string q.s, .string q.t, .int .i64 q.n, .int .u64 u, .slice p n c]
  rw [hB] at h0
  obtain ⟨w0, hw0⟩ : ∃ w0, W.alloc (.cells [Value.string q.kind, .string q.s, .string q.t, .int .i64 q.n, .int .u64 u, .slice p n c].toArray 64) = w0 := ⟨_, rfl⟩
  have hs0 : W.heap.size ≤ w0.heap.size := by rw [← hw0, World.size_alloc]; omega
  rw [hw0] at h0
  have hw0' : W.alloc (.cells #[Value.string q.kind, .string q.s, .string q.t, .int .i64 q.n, .int .u64 u, .slice p n c] 64) = w0 := hw0
  rw [← hB] at h0
  have hmade := made_calls hR h0 hs0
  have hgr := fun w1 (h1 : H0 W w1 [.cell W.heap.size 64 [.string q.kind, .string q.s, .string q.t, .int .i64 q.n, .int .u64 u, .slice p n c]]) => grown_calls hR h1 va na fa hA
  have hone := fun wx C (hb : Below W.heap.size W wx) (hx : wx.heap[C]? = some (.cells #[.string q.kind, .string q.s, .string q.t, .int .i64 q.n, .int .u64 u, .slice p n c] 64 (0, 0))) => lightActs_told (.slice (some ⟨C, 0, none⟩) 1 1) 1 (fun _ => q) wx (acts_one hq hch hb hx) 1 (by decide)
  rw [hB] at hmade hgr
  have HMd := hide hmade
  have HGr := hide hgr
  have HOne := hide hone
  have HR := hide hR
  have hB2 := hide hB
  clear hmade hgr hone hA hR hw0 h0 hs0 hq hch
  go_enter Tryz.func10, Tryz.ntmps10
  go_wp2_with fail
  refine (unhide HMd).mono ?_
  rintro e w1 ⟨rfl, h1⟩
  have H1 := hide h1
  clear h1 HMd hw0'
  go_wp2_with fail
  refine (unhide HGr w1 (unhide H1)).mono ?_
  rintro e w2 (⟨rfl, h2⟩ | ⟨fb, mb, N, F, next, rfl, h2, hG⟩)
  · have H2 := hide h2
    clear h2 HGr H1
    go_wp2_with fail
    go_ret
    exact ⟨rfl, H0.below (unhide H2)⟩
  clear HGr H1
  obtain ⟨b0, b1, b2, b3, b4, b5⟩ := h2.six64 (b := B) (.head _)
  obtain ⟨C, hC⟩ : ∃ C, w2.heap.size = C := ⟨_, rfl⟩
  have h3 := h2.alloc (.cells #[.string q.kind, .string q.s, .string q.t, .int .i64 q.n, .int .u64 u, .slice p n c] 64)
  have hl := unhide HOne (w2.alloc (.cells #[.string q.kind, .string q.s, .string q.t, .int .i64 q.n, .int .u64 u, .slice p n c] 64)) C h3.below (by rw [← hC]; exact heap_alloc_new w2 _)
  obtain ⟨w3, hw3⟩ : ∃ w3, w2.alloc (.cells #[.string q.kind, .string q.s, .string q.t, .int .i64 q.n, .int .u64 u, .slice p n c] 64) = w3 := ⟨_, rfl⟩
  rw [hw3] at h3 hl
  have H3 := hide h3
  have HL := hide hl
  have HG := hide hG
  clear h2 h3 hl hG HOne
  go_wp2_with fail
  refine (unhide HL).mono ?_
  rintro e w4 ⟨⟨r, rfl, hlr⟩, rfl⟩
  clear HL
  cases r with
  | false =>
    clear hlr
    go_wp2_with fail
    go_ret
    exact ⟨rfl, (unhide H3).below⟩
  | true =>
  obtain ⟨_, hsz⟩ := hlr rfl
  have HSz := hide (hsz 0 (by omega))
  have hcp := copyFs_calls (unhide H3) (unhide HG).fits (unhide HG).whole.linked.nodup
  have HCp := hide hcp
  clear hlr hsz hcp H3 b0 b1 b2 b3 b4 b5
  go_wp2_with fail
  refine (unhide HCp).mono ?_
  rintro e w5 ⟨gb, gm, N', F', acc, rs', rfl, hp, ht, hd, hF', h5⟩
  obtain ⟨b0, b1, b2, b3, b4, b5⟩ := h5.six64 (b := B) (a0 := .string q.kind) (a1 := .string q.s) (a2 := .string q.t) (a3 := .int .i64 q.n) (a4 := .int .u64 u) (a5 := .slice p n c) (by simp)
  have hdone := done_good2 (unhide HR) h5 (unhide HG) (by decide) q u p n c (by have := (unhide HSz).1; omega) (by have := (unhide HSz).2; omega)
  have hsm := fun wx (hx : FSIn W wx fb mb N F next (gR gb gm N' next rs' [.cell B 64 [.string q.kind, .string q.s, .string q.t, .int .i64 q.n, .int .u64 u, .slice p n c]])) => same_calls (unhide HR) hx hF' ((unhide HG).rows (by decide)) hp ht hd
  have HDn := hide hdone
  have HSm := hide hsm
  clear hdone hsm hp ht hd hF' h5 HCp HSz
  go_wp2_with fail
  refine (unhide HDn).mono ?_
  rintro e w6 ⟨o, N2, F2, next2, rfl, h6, hG2, _, ho⟩
  cases o with
  | none =>
    have Hb : Hid (Below W.heap.size W w6) := h6.below
    clear h6 hG2 ho HDn HSm b0 b1 b2 b3 b4 b5
    simp only [errV]
    go_wp2_with fail
    go_ret
    exact ⟨rfl, unhide Hb⟩
  | some k =>
    obtain ⟨rfl, rfl, rfl⟩ : N2 = N ∧ F2 = F ∧ next2 = next := by
      rcases ho with ho | ho
      · cases ho
      · exact ho
    have hs6 := unhide HSm w6 h6
    have HS6 := hide hs6
    clear h6 hG2 ho HDn HSm hs6 b0 b1 b2 b3 b4 b5
    simp only [errV]
    go_wp2_with fail
    refine (unhide HS6).mono ?_
    rintro e w7 ⟨rfl, hb⟩
    have Hb := hide hb
    clear hb HS6
    go_wp2_with fail
    go_ret
    exact ⟨rfl, unhide Hb⟩
end Go.Proofs.YtjpmomklkkifjaaGreatDoor.T
