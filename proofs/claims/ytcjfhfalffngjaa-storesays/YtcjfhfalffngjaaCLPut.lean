/-
  The contract of the log's put: noughts, the rest, and last the first sector.
-/
import Derived.Test.YtcjfhfalffngjaaCLMem
namespace Go.Proofs.Ytcjfhfalffngjaa
open Go.RowKit Go.Lib
set_option maxRecDepth 100000
set_option linter.unusedVariables false
set_option linter.unusedSimpArgs false

def restP (used many : Nat) (r : List (List UInt8)) : List (List UInt8) := if used + (r.length + 1) < many then r ++ [[]] else r
/-- The error, and the disk behind it. -/
def putP (d : DK) (fr used many : Nat) (s0 : List UInt8) (r : List (List UInt8)) : Option Int × DK :=
  match layP [[]] d (fr + used) with
  | (some e, d1) => (some e, d1)
  | (none, d1) => match layP (restP used many r) d1 (fr + (used + 1)) with
    | (some e, d2) => (some e, d2)
    | (none, d2) => layP [s0] d2 (fr + used)
theorem flushed_wr (d : DK) (h : d.flushE = none) : d.flushed.wr = [] := by
  unfold DK.flushE at h
  unfold DK.flushed
  cases hf : d.fall with
  | true => rw [hf] at h; simp at h
  | false => rfl
theorem layP_wr : ∀ (l : List (List UInt8)) (d : DK) (a : Nat), (layP l d a).1 = none → (layP l d a).2.wr = []
  | [], d, a, h => flushed_wr d h
  | s :: r, d, a, h => by
    rw [layP] at h ⊢
    cases hw : d.writeE (a : Int) s with
    | some e => rw [hw] at h; simp at h
    | none => rw [hw] at h; simp only at h ⊢; exact layP_wr r _ _ h
def PutEnd (w0 : World) (db : Nat) (d : DK) (l2 : List Res) (fr used many : Nat) (s0 : List UInt8) (r : List (List UInt8)) (e : Ending) (w' : World) : Prop := e = .returned (errV (putP d fr used many s0 r).1) ∧ DiskIn w0 w' db (putP d fr used many s0 r).2 l2

/-- The three lays behind one another, with the texts where they lie. -/
theorem put_rest {w0 : World} {db lb : Nat} {l2 : List Res} {fr many first used : Nat} (hL : logR lb db fr many first used ∈ l2) (hfr : fr ≤ 1000) (hu : used ≤ 1000) (s0 : List UInt8) (r : List (List UInt8)) (hr : r.length ≤ 100) (d : DK) (hw : d.wr.length ≤ 50000)
    (rest : List (List UInt8)) (hrest : restP used many r = rest) (e1 : Option Int) (d1 : DK) (h1 : layP [[]] d (fr + used) = (e1, d1)) : (∀ k, e1 = some k → putP d fr used many s0 r = (some k, d1)) ∧ (e1 = none → d1.wr = [] ∧ ∀ e2 d2, layP rest d1 (fr + (used + 1)) = (e2, d2) → (∀ k, e2 = some k → putP d fr used many s0 r = (some k, d2)) ∧ (e2 = none → d2.wr = [] ∧ putP d fr used many s0 r = layP [s0] d2 (fr + used))) := by
  unfold putP
  rw [h1, hrest]
  refine ⟨fun k hk => by subst hk; rfl, fun hk => ⟨?_, fun e2 d2 h2 => ?_⟩⟩
  · have := layP_wr [[]] d (fr + used); rw [h1] at this; exact this hk
  · subst hk
    simp only
    rw [h2]
    refine ⟨fun k hk => by subst hk; rfl, fun hk => ⟨?_, by subst hk; rfl⟩⟩
    have := layP_wr rest d1 (fr + (used + 1)); rw [h2] at this; exact this hk

set_option maxHeartbeats 4000000 in
theorem put_calls {w0 w : World} {db lb : Nat} {d : DK} {l2 : List Res} {fr many first used : Nat} {v : Value} {s0 : List UInt8} {r : List (List UInt8)} (h : DiskIn w0 w db d (strR v (s0 :: r) :: l2)) (hL : logR lb db fr many first used ∈ l2) (hfr : fr ≤ 1000) (hu : used ≤ 900) (hmany : many ≤ 1000) (hr : r.length ≤ 50) (hw : d.wr.length ≤ 50000) :
    Calls Try.prog 71 #[.pointer (some ⟨lb, 0, none⟩), v] w fun e w' => PutEnd w0 db d l2 fr used many s0 r e w' := by
  obtain ⟨n, hn⟩ : ∃ n, r.length + 1 = n := ⟨_, rfl⟩
  have hrw := h.hold.rowAt (.head _)
  rw [show (s0 :: r).length = n from hn] at hrw
  obtain ⟨g, cap, hv, hnc, hcm⟩ := row_shape hrw (by omega)
  subst hv
  have k4 : w.cell? ⟨lb, 4, none⟩ = some (.int .i64 used) := h.cellAt (.tail _ hL) rfl
  have k2 : w.cell? ⟨lb, 2, none⟩ = some (.int .i64 many) := h.cellAt (.tail _ hL) rfl
  have HH := hide h
  have HL := hide hL
  have HW := hide hw
  have Hn := hide hn
  have Hr := hide hr
  -- the lays, wherever the texts lie
  have hlay : ∀ (R : List Res) (dx : DK) (wx : World) (a : Nat), a ≤ 1000 → dx.wr.length ≤ 50000 → ∀ (l : List (List UInt8)) (n : Nat), l.length = n → n ≤ 100 → ∀ (p : Option Addr) (c : Nat), (0 < l.length → ∃ b off, p = some ⟨b, off, none⟩ ∧ ∀ w', Hold w0 w' (R ++ l2) → ∀ j s, l[j]? = some s → w'.cell? ⟨b, off + j, none⟩ = some (.string (mkB s))) → DiskIn w0 wx db dx (R ++ l2) → ∀ e2 d2, layP l dx (fr + a) = (e2, d2) → Calls Try.prog 83 #[.pointer (some ⟨lb, 0, none⟩), .int .i64 a, .slice p n c] wx fun e w' => e = .returned (errV e2) ∧ DiskIn w0 w' db d2 (R ++ l2) :=
    fun R dx wx a ha hwr l n hln hl p c hp hx e2 d2 h2 => by
      subst hln
      have := lay_calls hx (List.mem_append.2 (.inr (unhide HL))) hfr a ha l (by omega) (by omega) p c hp
      unfold LayEnd at this
      rw [h2] at this
      exact this
  have HLay := hide hlay
  have HCell : Hid (∀ (R : List Res) (dx : DK) (wx : World), DiskIn w0 wx db dx (R ++ l2) → wx.cell? ⟨lb, 4, none⟩ = some (.int .i64 used)) := fun R dx wx hx => hx.cellAt (List.mem_append.2 (.inr (unhide HL))) rfl
  have hn1 : (1 : Int) ≤ (n : Int) := by omega
  have hn2 : (1 : Int) ≤ (cap : Int) := by omega
  have hn3 : n ≤ 100 := by omega
  clear hlay h hrw hL hw hr hn
  unfold PutEnd
  by_cases hlt : used + n < many
  · have hltz : (used : Int) + (n : Int) < (many : Int) := by omega
    have hrest : restP used many r = r ++ [[]] := by unfold restP; rw [unhide Hn, if_pos hlt]
    have Hrest := hide hrest
    clear hrest
    by_cases hcap : cap = 1
    · obtain rfl : n = 1 := by omega
      subst hcap
      go_enter Try.func71, Try.ntmps71
      go_wp2_with fail
      go_quiet (fail)
      have hHn := (unhide HH).drewN nq
      obtain ⟨dp, hh1, hh2⟩ := hHn.back
      obtain ⟨b5, off5, c5, wA, R, hrun, hA, hcells⟩ := str_tail (unhide Hn) hh1 (by omega) [] 0 (by omega)
      have HA := hide (hh2 wA (R ++ l2) (by rw [List.append_assoc]; exact hA))
      have HP : Hid (0 < (r ++ [[]]).length → ∃ b off, (some ⟨b5, off5, none⟩ : Option Addr) = some ⟨b, off, none⟩ ∧ ∀ R' w', Hold w0 w' ((R' ++ R) ++ l2) → ∀ j s, (r ++ [[]])[j]? = some s → w'.cell? ⟨b, off + j, none⟩ = some (.string (mkB s))) := fun _ => ⟨b5, off5, rfl, fun R' w' hh => (hcells w' _ (fun x hx => by simp [hx]) hh).1⟩
      have HG : Hid (∀ R' w', Hold w0 w' ((R' ++ R) ++ l2) → w'.cell? ⟨g, 0, none⟩ = some (.string (mkB s0))) := fun R' w' hh => (hcells w' _ (fun x hx => by simp [hx]) hh).2
      have Hm : Hid ((r ++ [[]]).length = 1) := by show _ = _; rw [List.length_append, List.length_singleton]; exact unhide Hn
      obtain ⟨P5, hP5⟩ : ∃ P5 : Option Addr, some ⟨b5, off5, none⟩ = P5 := ⟨_, rfl⟩
      obtain ⟨rest, hres⟩ : ∃ rest, r ++ [[]] = rest := ⟨_, rfl⟩
      rw [hres] at HP Hm Hrest
      rw [hP5] at HP hrun
      clear hh1 hh2 hA hcells hres hP5 hHn
      go_upto_region 4 with (at_builtin; refine wpList_appendI rfl _ _ 47 47 rfl (.slice (some ⟨g, 0, none⟩) (1 - 1) (1 - 1)) (.slice (some ⟨(w.drewN nq).heap.size, 0, none⟩) 1 1) (by simp [Act.eval, Act.put]) rfl hrun ?_)
      clear hrun
      -- noughts
      have k4 : wA.cell? ⟨lb, 4, none⟩ = some (.int .i64 used) := unhide HCell R d wA (unhide HA)
      obtain ⟨e1, d1, h1⟩ : ∃ e1 d1, layP [[]] d (fr + used) = (e1, d1) := ⟨_, _, rfl⟩
      obtain ⟨p1, p2⟩ := put_rest (w0 := w0) (unhide HL) hfr (by omega) s0 r (by have := unhide Hn; omega) d (unhide HW) _ (unhide Hrest) e1 d1 h1
      obtain ⟨B1, hB1⟩ : ∃ B1, wA.heap.size = B1 := ⟨_, rfl⟩
      have hd1 : DiskIn w0 (wA.alloc (.cells #[.string ⟨#[]⟩] 9)) db d ((.cell B1 9 [.string (mkB [])] :: R) ++ l2) := by rw [← hB1]; exact (unhide HA).made 9 [.string (mkB [])]
      have E1 := hide (unhide HLay (.cell B1 9 [.string (mkB [])] :: R) d _ used (by omega) (unhide HW) [[]] 1 rfl (by omega) (some ⟨B1, 0, none⟩) 1 (fun _ => ⟨B1, 0, rfl, fun w' hh j s hj => by
        rcases j with _ | j
        · cases hj; exact hh.cellAt (.head _) rfl
        · simp at hj⟩) hd1 e1 d1 h1)
      have P1 := hide p1
      have P2 := hide p2
      clear p1 p2 h1 hd1
      go_wp2_with fail
      refine (unhide E1).mono ?_
      rintro e w1 ⟨rfl, hD1⟩
      have HD1 := hide hD1
      clear hD1 E1 k4
      cases e1 with
      | some k =>
        simp only [errV]
        go_wp2_with fail
        go_ret
        rw [unhide P1 k rfl]
        exact ⟨rfl, (unhide HD1).lose _⟩
      | none =>
        obtain ⟨hwr1, p3⟩ := unhide P2 rfl
        obtain ⟨e2, d2, h2⟩ : ∃ e2 d2, layP rest d1 (fr + (used + 1)) = (e2, d2) := ⟨_, _, rfl⟩
        obtain ⟨p4, p5⟩ := p3 e2 d2 h2
        have k4 : w1.cell? ⟨lb, 4, none⟩ = some (.int .i64 used) := unhide HCell _ d1 w1 (unhide HD1)
        have e83 := unhide HLay (.cell B1 9 [.string (mkB [])] :: R) d1 w1 (used + 1) (by omega) (by rw [hwr1]; simp) rest _ (unhide Hm) (by omega) P5 c5 (fun hp => by
          obtain ⟨b, off, q1, q2⟩ := unhide HP hp
          exact ⟨b, off, q1, fun w' hh => q2 [.cell B1 9 [.string (mkB [])]] w' hh⟩) (unhide HD1) e2 d2 h2
        have hca : ((used + 1 : Nat) : Int) = (used : Int) + 1 := by omega
        rw [hca] at e83
        have E2 := hide e83
        have P4 := hide p4
        have P5' := hide p5
        clear e83 p3 p4 p5 h2 P1 P2 hca hwr1
        simp only [errV]
        go_wp2_with fail
        refine (unhide E2).mono ?_
        rintro e w2 ⟨rfl, hD2⟩
        have HD2 := hide hD2
        clear hD2 E2 k4
        cases e2 with
        | some k =>
          simp only [errV]
          go_wp2_with fail
          go_ret
          rw [unhide P4 k rfl]
          exact ⟨rfl, (unhide HD2).lose _⟩
        | none =>
          obtain ⟨hwr2, p6⟩ := unhide P5' rfl
          obtain ⟨e3, d3, h3⟩ : ∃ e3 d3, layP [s0] d2 (fr + used) = (e3, d3) := ⟨_, _, rfl⟩
          rw [h3] at p6
          obtain ⟨B2, hB2⟩ : ∃ B2, w2.heap.size = B2 := ⟨_, rfl⟩
          have hcs : ∀ wx dx, DiskIn w0 wx db dx ((.cell B1 9 [.string (mkB [])] :: R) ++ l2) → wx.cell? ⟨lb, 4, none⟩ = some (.int .i64 used) ∧ wx.cell? ⟨g, 0, none⟩ = some (.string (mkB s0)) := fun wx dx hx => ⟨unhide HCell _ dx wx hx, unhide HG [.cell B1 9 [.string (mkB [])]] wx hx.hold⟩
          have HD3 : Hid (DiskIn w0 (w2.alloc (.cells #[.string (mkB s0)] 9)).drew db d2 ((.cell B2 9 [.string (mkB s0)] :: .cell B1 9 [.string (mkB [])] :: R) ++ l2)) := by rw [← hB2]; exact ((unhide HD2).made 9 [.string (mkB s0)]).drew
          have e83 := fun wx hx => unhide HLay (.cell B2 9 [.string (mkB s0)] :: .cell B1 9 [.string (mkB [])] :: R) d2 wx used (by omega) (by rw [hwr2]; simp) [s0] 1 rfl (by omega) (some ⟨B2, 0, none⟩) 1 (fun _ => ⟨B2, 0, rfl, fun w' hh j s hj => by
            rcases j with _ | j
            · cases hj; exact hh.cellAt (.head _) rfl
            · simp at hj⟩) hx e3 d3 h3
          have E3 := hide e83
          have hS0 := hcs w2 d2 (unhide HD2)
          have hSa := fun o => hcs (w2.alloc o) d2 ((unhide HD2).alloc o)
          have hS9 : ∀ w3, DiskIn w0 w3 db d3 ((.cell B2 9 [.string (mkB s0)] :: .cell B1 9 [.string (mkB [])] :: R) ++ l2) → w3.cell? ⟨lb, 4, none⟩ = some (.int .i64 used) ∧ w3.cell? ⟨g, 0, none⟩ = some (.string (mkB s0)) := fun w3 hx => hcs w3 d3 (hx.lose [_])
          obtain ⟨S0, hS⟩ : ∃ S0, mkB s0 = S0 := ⟨_, rfl⟩
          rw [hS] at E3 HD3 hS9 hS0 hSa
          have HS0 : Hid (w2.drew.cell? ⟨lb, 4, none⟩ = some (.int .i64 used) ∧ w2.drew.cell? ⟨g, 0, none⟩ = some (.string S0)) := hS0
          have HSa : Hid (∀ o, (w2.alloc o).drew.cell? ⟨lb, 4, none⟩ = some (.int .i64 used) ∧ (w2.alloc o).drew.cell? ⟨g, 0, none⟩ = some (.string S0)) := hSa
          have HS9 := hide hS9
          have P6 := hide p6
          have k4 := hS0.1
          have k0 := hS0.2
          clear e83 hcs hS0 hSa hS9 h3 p6 hwr2 P4 P5' hS
          simp only [errV]
          go_wp2_with fail
          go_region_held (fun w' => w'.cell? ⟨lb, 4, none⟩ = some (.int .i64 used) ∧ w'.cell? ⟨g, 0, none⟩ = some (.string S0)) (first | exact unhide HS0 | exact unhide HSa _ | exact unhide HS6) ((go_at_call 83; refine (unhide E3 _ ?_).mono ?_; exact unhide HD3; rintro e w6 ⟨rfl, hD6⟩; have HS6 : Hid (w6.cell? ⟨lb, 4, none⟩ = some (.int .i64 used) ∧ w6.cell? ⟨g, 0, none⟩ = some (.string S0)) := unhide HS9 _ hD6; have HD6 := hide hD6; clear hD6))
          all_goals
            go_wp2_with fail
            go_ret
            rw [unhide P6]
            exact ⟨rfl, (unhide HD6).lose _⟩
    · 
      go_enter Try.func71, Try.ntmps71
      go_wp2_with fail
      go_quiet (fail)
      have hHn := (unhide HH).drewN nq
      obtain ⟨dp, hh1, hh2⟩ := hHn.back
      obtain ⟨b5, off5, c5, wA, R, hrun, hA, hcells⟩ := str_tail (unhide Hn) hh1 (by omega) [] 1 (by omega)
      have HA := hide (hh2 wA (R ++ l2) (by rw [List.append_assoc]; exact hA))
      have HP : Hid (0 < (r ++ [[]]).length → ∃ b off, (some ⟨b5, off5, none⟩ : Option Addr) = some ⟨b, off, none⟩ ∧ ∀ R' w', Hold w0 w' ((R' ++ R) ++ l2) → ∀ j s, (r ++ [[]])[j]? = some s → w'.cell? ⟨b, off + j, none⟩ = some (.string (mkB s))) := fun _ => ⟨b5, off5, rfl, fun R' w' hh => (hcells w' _ (fun x hx => by simp [hx]) hh).1⟩
      have HG : Hid (∀ R' w', Hold w0 w' ((R' ++ R) ++ l2) → w'.cell? ⟨g, 0, none⟩ = some (.string (mkB s0))) := fun R' w' hh => (hcells w' _ (fun x hx => by simp [hx]) hh).2
      have Hm : Hid ((r ++ [[]]).length = n) := by show _ = _; rw [List.length_append, List.length_singleton]; exact unhide Hn
      obtain ⟨P5, hP5⟩ : ∃ P5 : Option Addr, some ⟨b5, off5, none⟩ = P5 := ⟨_, rfl⟩
      obtain ⟨rest, hres⟩ : ∃ rest, r ++ [[]] = rest := ⟨_, rfl⟩
      rw [hres] at HP Hm Hrest
      rw [hP5] at HP hrun
      clear hh1 hh2 hA hcells hres hP5 hHn
      go_upto_region 4 with (at_builtin; refine wpList_appendI rfl _ _ 47 47 rfl (.slice (some ⟨g, 1, none⟩) (n - 1) (cap - 1)) (.slice (some ⟨(w.drewN nq).heap.size, 0, none⟩) 1 1) (by simp [Act.eval, Act.put]) rfl hrun ?_)
      clear hrun
      -- noughts
      have k4 : wA.cell? ⟨lb, 4, none⟩ = some (.int .i64 used) := unhide HCell R d wA (unhide HA)
      obtain ⟨e1, d1, h1⟩ : ∃ e1 d1, layP [[]] d (fr + used) = (e1, d1) := ⟨_, _, rfl⟩
      obtain ⟨p1, p2⟩ := put_rest (w0 := w0) (unhide HL) hfr (by omega) s0 r (by have := unhide Hn; omega) d (unhide HW) _ (unhide Hrest) e1 d1 h1
      obtain ⟨B1, hB1⟩ : ∃ B1, wA.heap.size = B1 := ⟨_, rfl⟩
      have hd1 : DiskIn w0 (wA.alloc (.cells #[.string ⟨#[]⟩] 9)) db d ((.cell B1 9 [.string (mkB [])] :: R) ++ l2) := by rw [← hB1]; exact (unhide HA).made 9 [.string (mkB [])]
      have E1 := hide (unhide HLay (.cell B1 9 [.string (mkB [])] :: R) d _ used (by omega) (unhide HW) [[]] 1 rfl (by omega) (some ⟨B1, 0, none⟩) 1 (fun _ => ⟨B1, 0, rfl, fun w' hh j s hj => by
        rcases j with _ | j
        · cases hj; exact hh.cellAt (.head _) rfl
        · simp at hj⟩) hd1 e1 d1 h1)
      have P1 := hide p1
      have P2 := hide p2
      clear p1 p2 h1 hd1
      go_wp2_with fail
      refine (unhide E1).mono ?_
      rintro e w1 ⟨rfl, hD1⟩
      have HD1 := hide hD1
      clear hD1 E1 k4
      cases e1 with
      | some k =>
        simp only [errV]
        go_wp2_with fail
        go_ret
        rw [unhide P1 k rfl]
        exact ⟨rfl, (unhide HD1).lose _⟩
      | none =>
        obtain ⟨hwr1, p3⟩ := unhide P2 rfl
        obtain ⟨e2, d2, h2⟩ : ∃ e2 d2, layP rest d1 (fr + (used + 1)) = (e2, d2) := ⟨_, _, rfl⟩
        obtain ⟨p4, p5⟩ := p3 e2 d2 h2
        have k4 : w1.cell? ⟨lb, 4, none⟩ = some (.int .i64 used) := unhide HCell _ d1 w1 (unhide HD1)
        have e83 := unhide HLay (.cell B1 9 [.string (mkB [])] :: R) d1 w1 (used + 1) (by omega) (by rw [hwr1]; simp) rest _ (unhide Hm) (by omega) P5 c5 (fun hp => by
          obtain ⟨b, off, q1, q2⟩ := unhide HP hp
          exact ⟨b, off, q1, fun w' hh => q2 [.cell B1 9 [.string (mkB [])]] w' hh⟩) (unhide HD1) e2 d2 h2
        have hca : ((used + 1 : Nat) : Int) = (used : Int) + 1 := by omega
        rw [hca] at e83
        have E2 := hide e83
        have P4 := hide p4
        have P5' := hide p5
        clear e83 p3 p4 p5 h2 P1 P2 hca hwr1
        simp only [errV]
        go_wp2_with fail
        refine (unhide E2).mono ?_
        rintro e w2 ⟨rfl, hD2⟩
        have HD2 := hide hD2
        clear hD2 E2 k4
        cases e2 with
        | some k =>
          simp only [errV]
          go_wp2_with fail
          go_ret
          rw [unhide P4 k rfl]
          exact ⟨rfl, (unhide HD2).lose _⟩
        | none =>
          obtain ⟨hwr2, p6⟩ := unhide P5' rfl
          obtain ⟨e3, d3, h3⟩ : ∃ e3 d3, layP [s0] d2 (fr + used) = (e3, d3) := ⟨_, _, rfl⟩
          rw [h3] at p6
          obtain ⟨B2, hB2⟩ : ∃ B2, w2.heap.size = B2 := ⟨_, rfl⟩
          have hcs : ∀ wx dx, DiskIn w0 wx db dx ((.cell B1 9 [.string (mkB [])] :: R) ++ l2) → wx.cell? ⟨lb, 4, none⟩ = some (.int .i64 used) ∧ wx.cell? ⟨g, 0, none⟩ = some (.string (mkB s0)) := fun wx dx hx => ⟨unhide HCell _ dx wx hx, unhide HG [.cell B1 9 [.string (mkB [])]] wx hx.hold⟩
          have HD3 : Hid (DiskIn w0 (w2.alloc (.cells #[.string (mkB s0)] 9)).drew db d2 ((.cell B2 9 [.string (mkB s0)] :: .cell B1 9 [.string (mkB [])] :: R) ++ l2)) := by rw [← hB2]; exact ((unhide HD2).made 9 [.string (mkB s0)]).drew
          have e83 := fun wx hx => unhide HLay (.cell B2 9 [.string (mkB s0)] :: .cell B1 9 [.string (mkB [])] :: R) d2 wx used (by omega) (by rw [hwr2]; simp) [s0] 1 rfl (by omega) (some ⟨B2, 0, none⟩) 1 (fun _ => ⟨B2, 0, rfl, fun w' hh j s hj => by
            rcases j with _ | j
            · cases hj; exact hh.cellAt (.head _) rfl
            · simp at hj⟩) hx e3 d3 h3
          have E3 := hide e83
          have hS0 := hcs w2 d2 (unhide HD2)
          have hSa := fun o => hcs (w2.alloc o) d2 ((unhide HD2).alloc o)
          have hS9 : ∀ w3, DiskIn w0 w3 db d3 ((.cell B2 9 [.string (mkB s0)] :: .cell B1 9 [.string (mkB [])] :: R) ++ l2) → w3.cell? ⟨lb, 4, none⟩ = some (.int .i64 used) ∧ w3.cell? ⟨g, 0, none⟩ = some (.string (mkB s0)) := fun w3 hx => hcs w3 d3 (hx.lose [_])
          obtain ⟨S0, hS⟩ : ∃ S0, mkB s0 = S0 := ⟨_, rfl⟩
          rw [hS] at E3 HD3 hS9 hS0 hSa
          have HS0 : Hid (w2.drew.cell? ⟨lb, 4, none⟩ = some (.int .i64 used) ∧ w2.drew.cell? ⟨g, 0, none⟩ = some (.string S0)) := hS0
          have HSa : Hid (∀ o, (w2.alloc o).drew.cell? ⟨lb, 4, none⟩ = some (.int .i64 used) ∧ (w2.alloc o).drew.cell? ⟨g, 0, none⟩ = some (.string S0)) := hSa
          have HS9 := hide hS9
          have P6 := hide p6
          have k4 := hS0.1
          have k0 := hS0.2
          clear e83 hcs hS0 hSa hS9 h3 p6 hwr2 P4 P5' hS
          simp only [errV]
          go_wp2_with fail
          go_region_held (fun w' => w'.cell? ⟨lb, 4, none⟩ = some (.int .i64 used) ∧ w'.cell? ⟨g, 0, none⟩ = some (.string S0)) (first | exact unhide HS0 | exact unhide HSa _ | exact unhide HS6) ((go_at_call 83; refine (unhide E3 _ ?_).mono ?_; exact unhide HD3; rintro e w6 ⟨rfl, hD6⟩; have HS6 : Hid (w6.cell? ⟨lb, 4, none⟩ = some (.int .i64 used) ∧ w6.cell? ⟨g, 0, none⟩ = some (.string S0)) := unhide HS9 _ hD6; have HD6 := hide hD6; clear hD6))
          all_goals
            go_wp2_with fail
            go_ret
            rw [unhide P6]
            exact ⟨rfl, (unhide HD6).lose _⟩
  · have hltz : ¬ (used : Int) + (n : Int) < (many : Int) := by omega
    have hrest : restP used many r = r := by unfold restP; rw [unhide Hn, if_neg hlt]
    have Hrest := hide hrest
    clear hrest
    by_cases hcap : cap = 1
    · obtain rfl : n = 1 := by omega
      subst hcap
      go_enter Try.func71, Try.ntmps71
      go_wp2_with fail
      go_quiet (fail)
      obtain ⟨wA, hwA⟩ : ∃ wA, w.drewN nq = wA := ⟨_, rfl⟩
      obtain ⟨R, hR⟩ : ∃ R : List Res, [strR (.slice (some ⟨g, 0, none⟩) 1 1) (s0 :: r)] = R := ⟨_, rfl⟩
      have HA : Hid (DiskIn w0 wA db d (R ++ l2)) := by rw [← hwA, ← hR]; exact (unhide HH).drewN nq
      have hcells : ∀ w' l3, (∀ x ∈ R, x ∈ l3) → Hold w0 w' l3 → ∀ j s, (s0 :: r)[j]? = some s → w'.cell? ⟨g, j, none⟩ = some (.string (mkB s)) := fun w' l3 hR' hh j s hj => by
        have hmem := hR' _ (by rw [← hR]; exact .head _)
        unfold strR at hmem
        rw [show (s0 :: r).length = 1 from unhide Hn] at hmem
        exact hh.rowCell hmem (strV_get hj)
      have HP : Hid (0 < r.length → ∃ b off, (some ⟨g, 0, none⟩ : Option Addr) = some ⟨b, off, none⟩ ∧ ∀ R' w', Hold w0 w' ((R' ++ R) ++ l2) → ∀ j s, r[j]? = some s → w'.cell? ⟨b, off + j, none⟩ = some (.string (mkB s))) := fun hpos => ⟨g, 0, rfl, fun R' w' hh j s hj => by first | exact absurd (unhide Hn) (by omega) | (rw [Nat.add_comm]; exact hcells w' _ (fun x hx => by simp [hx]) hh (j + 1) s (by rw [List.getElem?_cons_succ]; exact hj))⟩
      have HG : Hid (∀ R' w', Hold w0 w' ((R' ++ R) ++ l2) → w'.cell? ⟨g, 0, none⟩ = some (.string (mkB s0))) := fun R' w' hh => hcells w' _ (fun x hx => by simp [hx]) hh 0 s0 rfl
      have Hm : Hid (r.length = 0) := by show _ = _; have := unhide Hn; omega
      go_upto_region 4 with fail
      rw [hwA]
      clear hcells hwA hR
      -- noughts
      have k4 : wA.cell? ⟨lb, 4, none⟩ = some (.int .i64 used) := unhide HCell R d wA (unhide HA)
      obtain ⟨e1, d1, h1⟩ : ∃ e1 d1, layP [[]] d (fr + used) = (e1, d1) := ⟨_, _, rfl⟩
      obtain ⟨p1, p2⟩ := put_rest (w0 := w0) (unhide HL) hfr (by omega) s0 r (by have := unhide Hn; omega) d (unhide HW) _ (unhide Hrest) e1 d1 h1
      obtain ⟨B1, hB1⟩ : ∃ B1, wA.heap.size = B1 := ⟨_, rfl⟩
      have hd1 : DiskIn w0 (wA.alloc (.cells #[.string ⟨#[]⟩] 9)) db d ((.cell B1 9 [.string (mkB [])] :: R) ++ l2) := by rw [← hB1]; exact (unhide HA).made 9 [.string (mkB [])]
      have E1 := hide (unhide HLay (.cell B1 9 [.string (mkB [])] :: R) d _ used (by omega) (unhide HW) [[]] 1 rfl (by omega) (some ⟨B1, 0, none⟩) 1 (fun _ => ⟨B1, 0, rfl, fun w' hh j s hj => by
        rcases j with _ | j
        · cases hj; exact hh.cellAt (.head _) rfl
        · simp at hj⟩) hd1 e1 d1 h1)
      have P1 := hide p1
      have P2 := hide p2
      clear p1 p2 h1 hd1
      go_wp2_with fail
      refine (unhide E1).mono ?_
      rintro e w1 ⟨rfl, hD1⟩
      have HD1 := hide hD1
      clear hD1 E1 k4
      cases e1 with
      | some k =>
        simp only [errV]
        go_wp2_with fail
        go_ret
        rw [unhide P1 k rfl]
        exact ⟨rfl, (unhide HD1).lose _⟩
      | none =>
        obtain ⟨hwr1, p3⟩ := unhide P2 rfl
        obtain ⟨e2, d2, h2⟩ : ∃ e2 d2, layP r d1 (fr + (used + 1)) = (e2, d2) := ⟨_, _, rfl⟩
        obtain ⟨p4, p5⟩ := p3 e2 d2 h2
        have k4 : w1.cell? ⟨lb, 4, none⟩ = some (.int .i64 used) := unhide HCell _ d1 w1 (unhide HD1)
        have e83 := unhide HLay (.cell B1 9 [.string (mkB [])] :: R) d1 w1 (used + 1) (by omega) (by rw [hwr1]; simp) r _ (unhide Hm) (by omega) (some ⟨g, 0, none⟩) 0 (fun hp => by
          obtain ⟨b, off, q1, q2⟩ := unhide HP hp
          exact ⟨b, off, q1, fun w' hh => q2 [.cell B1 9 [.string (mkB [])]] w' hh⟩) (unhide HD1) e2 d2 h2
        have hca : ((used + 1 : Nat) : Int) = (used : Int) + 1 := by omega
        rw [hca] at e83
        have E2 := hide e83
        have P4 := hide p4
        have P5' := hide p5
        clear e83 p3 p4 p5 h2 P1 P2 hca hwr1
        simp only [errV]
        go_wp2_with fail
        refine (unhide E2).mono ?_
        rintro e w2 ⟨rfl, hD2⟩
        have HD2 := hide hD2
        clear hD2 E2 k4
        cases e2 with
        | some k =>
          simp only [errV]
          go_wp2_with fail
          go_ret
          rw [unhide P4 k rfl]
          exact ⟨rfl, (unhide HD2).lose _⟩
        | none =>
          obtain ⟨hwr2, p6⟩ := unhide P5' rfl
          obtain ⟨e3, d3, h3⟩ : ∃ e3 d3, layP [s0] d2 (fr + used) = (e3, d3) := ⟨_, _, rfl⟩
          rw [h3] at p6
          obtain ⟨B2, hB2⟩ : ∃ B2, w2.heap.size = B2 := ⟨_, rfl⟩
          have hcs : ∀ wx dx, DiskIn w0 wx db dx ((.cell B1 9 [.string (mkB [])] :: R) ++ l2) → wx.cell? ⟨lb, 4, none⟩ = some (.int .i64 used) ∧ wx.cell? ⟨g, 0, none⟩ = some (.string (mkB s0)) := fun wx dx hx => ⟨unhide HCell _ dx wx hx, unhide HG [.cell B1 9 [.string (mkB [])]] wx hx.hold⟩
          have HD3 : Hid (DiskIn w0 (w2.alloc (.cells #[.string (mkB s0)] 9)).drew db d2 ((.cell B2 9 [.string (mkB s0)] :: .cell B1 9 [.string (mkB [])] :: R) ++ l2)) := by rw [← hB2]; exact ((unhide HD2).made 9 [.string (mkB s0)]).drew
          have e83 := fun wx hx => unhide HLay (.cell B2 9 [.string (mkB s0)] :: .cell B1 9 [.string (mkB [])] :: R) d2 wx used (by omega) (by rw [hwr2]; simp) [s0] 1 rfl (by omega) (some ⟨B2, 0, none⟩) 1 (fun _ => ⟨B2, 0, rfl, fun w' hh j s hj => by
            rcases j with _ | j
            · cases hj; exact hh.cellAt (.head _) rfl
            · simp at hj⟩) hx e3 d3 h3
          have E3 := hide e83
          have hS0 := hcs w2 d2 (unhide HD2)
          have hSa := fun o => hcs (w2.alloc o) d2 ((unhide HD2).alloc o)
          have hS9 : ∀ w3, DiskIn w0 w3 db d3 ((.cell B2 9 [.string (mkB s0)] :: .cell B1 9 [.string (mkB [])] :: R) ++ l2) → w3.cell? ⟨lb, 4, none⟩ = some (.int .i64 used) ∧ w3.cell? ⟨g, 0, none⟩ = some (.string (mkB s0)) := fun w3 hx => hcs w3 d3 (hx.lose [_])
          obtain ⟨S0, hS⟩ : ∃ S0, mkB s0 = S0 := ⟨_, rfl⟩
          rw [hS] at E3 HD3 hS9 hS0 hSa
          have HS0 : Hid (w2.drew.cell? ⟨lb, 4, none⟩ = some (.int .i64 used) ∧ w2.drew.cell? ⟨g, 0, none⟩ = some (.string S0)) := hS0
          have HSa : Hid (∀ o, (w2.alloc o).drew.cell? ⟨lb, 4, none⟩ = some (.int .i64 used) ∧ (w2.alloc o).drew.cell? ⟨g, 0, none⟩ = some (.string S0)) := hSa
          have HS9 := hide hS9
          have P6 := hide p6
          have k4 := hS0.1
          have k0 := hS0.2
          clear e83 hcs hS0 hSa hS9 h3 p6 hwr2 P4 P5' hS
          simp only [errV]
          go_wp2_with fail
          go_region_held (fun w' => w'.cell? ⟨lb, 4, none⟩ = some (.int .i64 used) ∧ w'.cell? ⟨g, 0, none⟩ = some (.string S0)) (first | exact unhide HS0 | exact unhide HSa _ | exact unhide HS6) ((go_at_call 83; refine (unhide E3 _ ?_).mono ?_; exact unhide HD3; rintro e w6 ⟨rfl, hD6⟩; have HS6 : Hid (w6.cell? ⟨lb, 4, none⟩ = some (.int .i64 used) ∧ w6.cell? ⟨g, 0, none⟩ = some (.string S0)) := unhide HS9 _ hD6; have HD6 := hide hD6; clear hD6))
          all_goals
            go_wp2_with fail
            go_ret
            rw [unhide P6]
            exact ⟨rfl, (unhide HD6).lose _⟩
    · 
      go_enter Try.func71, Try.ntmps71
      go_wp2_with fail
      go_quiet (fail)
      obtain ⟨wA, hwA⟩ : ∃ wA, w.drewN nq = wA := ⟨_, rfl⟩
      obtain ⟨R, hR⟩ : ∃ R : List Res, [strR (.slice (some ⟨g, 0, none⟩) n cap) (s0 :: r)] = R := ⟨_, rfl⟩
      have HA : Hid (DiskIn w0 wA db d (R ++ l2)) := by rw [← hwA, ← hR]; exact (unhide HH).drewN nq
      have hcells : ∀ w' l3, (∀ x ∈ R, x ∈ l3) → Hold w0 w' l3 → ∀ j s, (s0 :: r)[j]? = some s → w'.cell? ⟨g, j, none⟩ = some (.string (mkB s)) := fun w' l3 hR' hh j s hj => by
        have hmem := hR' _ (by rw [← hR]; exact .head _)
        unfold strR at hmem
        rw [show (s0 :: r).length = n from unhide Hn] at hmem
        exact hh.rowCell hmem (strV_get hj)
      have HP : Hid (0 < r.length → ∃ b off, (some ⟨g, 1, none⟩ : Option Addr) = some ⟨b, off, none⟩ ∧ ∀ R' w', Hold w0 w' ((R' ++ R) ++ l2) → ∀ j s, r[j]? = some s → w'.cell? ⟨b, off + j, none⟩ = some (.string (mkB s))) := fun hpos => ⟨g, 1, rfl, fun R' w' hh j s hj => by first | exact absurd (unhide Hn) (by omega) | (rw [Nat.add_comm]; exact hcells w' _ (fun x hx => by simp [hx]) hh (j + 1) s (by rw [List.getElem?_cons_succ]; exact hj))⟩
      have HG : Hid (∀ R' w', Hold w0 w' ((R' ++ R) ++ l2) → w'.cell? ⟨g, 0, none⟩ = some (.string (mkB s0))) := fun R' w' hh => hcells w' _ (fun x hx => by simp [hx]) hh 0 s0 rfl
      have Hm : Hid (r.length = n - 1) := by show _ = _; have := unhide Hn; omega
      obtain ⟨P5, hP5⟩ : ∃ P5 : Option Addr, some ⟨g, 1, none⟩ = P5 := ⟨_, rfl⟩
      obtain ⟨c5, hc5⟩ : ∃ c5, cap - 1 = c5 := ⟨_, rfl⟩
      go_upto_region 4 with fail
      rw [hwA]
      first | rw [hP5] | skip
      first | rw [hc5] | skip
      rw [hP5] at HP
      clear hcells hwA hR
      -- noughts
      have k4 : wA.cell? ⟨lb, 4, none⟩ = some (.int .i64 used) := unhide HCell R d wA (unhide HA)
      obtain ⟨e1, d1, h1⟩ : ∃ e1 d1, layP [[]] d (fr + used) = (e1, d1) := ⟨_, _, rfl⟩
      obtain ⟨p1, p2⟩ := put_rest (w0 := w0) (unhide HL) hfr (by omega) s0 r (by have := unhide Hn; omega) d (unhide HW) _ (unhide Hrest) e1 d1 h1
      obtain ⟨B1, hB1⟩ : ∃ B1, wA.heap.size = B1 := ⟨_, rfl⟩
      have hd1 : DiskIn w0 (wA.alloc (.cells #[.string ⟨#[]⟩] 9)) db d ((.cell B1 9 [.string (mkB [])] :: R) ++ l2) := by rw [← hB1]; exact (unhide HA).made 9 [.string (mkB [])]
      have E1 := hide (unhide HLay (.cell B1 9 [.string (mkB [])] :: R) d _ used (by omega) (unhide HW) [[]] 1 rfl (by omega) (some ⟨B1, 0, none⟩) 1 (fun _ => ⟨B1, 0, rfl, fun w' hh j s hj => by
        rcases j with _ | j
        · cases hj; exact hh.cellAt (.head _) rfl
        · simp at hj⟩) hd1 e1 d1 h1)
      have P1 := hide p1
      have P2 := hide p2
      clear p1 p2 h1 hd1
      go_wp2_with fail
      refine (unhide E1).mono ?_
      rintro e w1 ⟨rfl, hD1⟩
      have HD1 := hide hD1
      clear hD1 E1 k4
      cases e1 with
      | some k =>
        simp only [errV]
        go_wp2_with fail
        go_ret
        rw [unhide P1 k rfl]
        exact ⟨rfl, (unhide HD1).lose _⟩
      | none =>
        obtain ⟨hwr1, p3⟩ := unhide P2 rfl
        obtain ⟨e2, d2, h2⟩ : ∃ e2 d2, layP r d1 (fr + (used + 1)) = (e2, d2) := ⟨_, _, rfl⟩
        obtain ⟨p4, p5⟩ := p3 e2 d2 h2
        have k4 : w1.cell? ⟨lb, 4, none⟩ = some (.int .i64 used) := unhide HCell _ d1 w1 (unhide HD1)
        have e83 := unhide HLay (.cell B1 9 [.string (mkB [])] :: R) d1 w1 (used + 1) (by omega) (by rw [hwr1]; simp) r _ (unhide Hm) (by omega) P5 c5 (fun hp => by
          obtain ⟨b, off, q1, q2⟩ := unhide HP hp
          exact ⟨b, off, q1, fun w' hh => q2 [.cell B1 9 [.string (mkB [])]] w' hh⟩) (unhide HD1) e2 d2 h2
        have hca : ((used + 1 : Nat) : Int) = (used : Int) + 1 := by omega
        rw [hca] at e83
        have E2 := hide e83
        have P4 := hide p4
        have P5' := hide p5
        clear e83 p3 p4 p5 h2 P1 P2 hca hwr1
        simp only [errV]
        go_wp2_with fail
        refine (unhide E2).mono ?_
        rintro e w2 ⟨rfl, hD2⟩
        have HD2 := hide hD2
        clear hD2 E2 k4
        cases e2 with
        | some k =>
          simp only [errV]
          go_wp2_with fail
          go_ret
          rw [unhide P4 k rfl]
          exact ⟨rfl, (unhide HD2).lose _⟩
        | none =>
          obtain ⟨hwr2, p6⟩ := unhide P5' rfl
          obtain ⟨e3, d3, h3⟩ : ∃ e3 d3, layP [s0] d2 (fr + used) = (e3, d3) := ⟨_, _, rfl⟩
          rw [h3] at p6
          obtain ⟨B2, hB2⟩ : ∃ B2, w2.heap.size = B2 := ⟨_, rfl⟩
          have hcs : ∀ wx dx, DiskIn w0 wx db dx ((.cell B1 9 [.string (mkB [])] :: R) ++ l2) → wx.cell? ⟨lb, 4, none⟩ = some (.int .i64 used) ∧ wx.cell? ⟨g, 0, none⟩ = some (.string (mkB s0)) := fun wx dx hx => ⟨unhide HCell _ dx wx hx, unhide HG [.cell B1 9 [.string (mkB [])]] wx hx.hold⟩
          have HD3 : Hid (DiskIn w0 (w2.alloc (.cells #[.string (mkB s0)] 9)).drew db d2 ((.cell B2 9 [.string (mkB s0)] :: .cell B1 9 [.string (mkB [])] :: R) ++ l2)) := by rw [← hB2]; exact ((unhide HD2).made 9 [.string (mkB s0)]).drew
          have e83 := fun wx hx => unhide HLay (.cell B2 9 [.string (mkB s0)] :: .cell B1 9 [.string (mkB [])] :: R) d2 wx used (by omega) (by rw [hwr2]; simp) [s0] 1 rfl (by omega) (some ⟨B2, 0, none⟩) 1 (fun _ => ⟨B2, 0, rfl, fun w' hh j s hj => by
            rcases j with _ | j
            · cases hj; exact hh.cellAt (.head _) rfl
            · simp at hj⟩) hx e3 d3 h3
          have E3 := hide e83
          have hS0 := hcs w2 d2 (unhide HD2)
          have hSa := fun o => hcs (w2.alloc o) d2 ((unhide HD2).alloc o)
          have hS9 : ∀ w3, DiskIn w0 w3 db d3 ((.cell B2 9 [.string (mkB s0)] :: .cell B1 9 [.string (mkB [])] :: R) ++ l2) → w3.cell? ⟨lb, 4, none⟩ = some (.int .i64 used) ∧ w3.cell? ⟨g, 0, none⟩ = some (.string (mkB s0)) := fun w3 hx => hcs w3 d3 (hx.lose [_])
          obtain ⟨S0, hS⟩ : ∃ S0, mkB s0 = S0 := ⟨_, rfl⟩
          rw [hS] at E3 HD3 hS9 hS0 hSa
          have HS0 : Hid (w2.drew.cell? ⟨lb, 4, none⟩ = some (.int .i64 used) ∧ w2.drew.cell? ⟨g, 0, none⟩ = some (.string S0)) := hS0
          have HSa : Hid (∀ o, (w2.alloc o).drew.cell? ⟨lb, 4, none⟩ = some (.int .i64 used) ∧ (w2.alloc o).drew.cell? ⟨g, 0, none⟩ = some (.string S0)) := hSa
          have HS9 := hide hS9
          have P6 := hide p6
          have k4 := hS0.1
          have k0 := hS0.2
          clear e83 hcs hS0 hSa hS9 h3 p6 hwr2 P4 P5' hS
          simp only [errV]
          go_wp2_with fail
          go_region_held (fun w' => w'.cell? ⟨lb, 4, none⟩ = some (.int .i64 used) ∧ w'.cell? ⟨g, 0, none⟩ = some (.string S0)) (first | exact unhide HS0 | exact unhide HSa _ | exact unhide HS6) ((go_at_call 83; refine (unhide E3 _ ?_).mono ?_; exact unhide HD3; rintro e w6 ⟨rfl, hD6⟩; have HS6 : Hid (w6.cell? ⟨lb, 4, none⟩ = some (.int .i64 used) ∧ w6.cell? ⟨g, 0, none⟩ = some (.string S0)) := unhide HS9 _ hD6; have HD6 := hide hD6; clear hD6))
          all_goals
            go_wp2_with fail
            go_ret
            rw [unhide P6]
            exact ⟨rfl, (unhide HD6).lose _⟩
#print axioms put_calls
end Go.Proofs.Ytcjfhfalffngjaa
