/-
  The contracts of FS.walk and FS.find, over the seat's program. The contracts of slices.swapRangeCmpFunc, rotateCmpFunc and symMergeCmpFunc at marks, over the seat's program.
-/
import Derived.Test.YtjpmomklkkifjaaGreatDoorCFStep
import Derived.Test.YtjpmomklkkifjaaGreatDoorCSignsWalk
import Derived.Deep.QuietTactic
import Derived.BigQuiet
import Derived.BigRegion
namespace Go.Proofs.YtjpmomklkkifjaaGreatDoor.T
open Go.RowKit
set_option maxRecDepth 100000
set_option linter.unusedVariables false
set_option linter.unusedSimpArgs false

/-- A walk over parts. -/
noncomputable def walkP (N : List NV) (F : Forest) : NV → List ByteArray → Except Int NV
  | v, [] => .ok v
  | v, p :: l => match stepP N F v p with | .ok u => walkP N F u l | .error k => .error k

/-- Parts that lie in a row. -/
def StrsIn (l2 : List Res) (v : Value) (l : List ByteArray) : Prop :=
  (v = .slice none 0 0 ∧ l = []) ∨ ∃ (pb c : Nat) (L : List ByteArray), v = .slice (some ⟨pb, 0, none⟩) l.length c ∧ l = L.take l.length ∧ Res.cell pb 9 (L.map Value.string) ∈ l2

theorem vOk_zero (F : Forest) : VOk F NV.zero := ⟨fun h => by simp [NV.zero] at h, wfI_of (by simp [NV.zero]) (by simp [NV.zero])⟩
theorem Fits.vok {N : List NV} {F : Forest} {next : Int} (h : Fits N F next) (i : Int) : VOk F (atN N i) := by
  unfold atN
  cases hf : findN N i with
  | none => exact vOk_zero F
  | some v =>
    have hv := (findN_some hf).1
    exact ⟨fun hk => h.tree v hv hk, wfI_of (by have := h.up v hv; show _ ≤ v.up; omega) (by have := h.up v hv; show v.up ≤ _; omega)⟩
theorem stepP_ok {N : List NV} {F : Forest} {next : Int} (h : Fits N F next) {v u : NV} (hv : VOk F v) {p : ByteArray} (he : stepP N F v p = .ok u) : VOk F u := by
  unfold stepP at he
  split at he
  · cases he
  split at he
  · cases he; exact hv
  split at he
  · cases he; exact h.vok _
  split at he
  · cases he
  · cases he; exact h.vok _
theorem walkP_ok {N : List NV} {F : Forest} {next : Int} (h : Fits N F next) : ∀ (l : List ByteArray) {v u : NV}, VOk F v → walkP N F v l = .ok u → VOk F u
  | [], v, u, hv, he => by cases he; exact hv
  | p :: l, v, u, hv, he => by
    unfold walkP at he
    split at he
    · rename_i x hx
      exact walkP_ok h l (stepP_ok h hv hx) he
    · cases he

variable (w0 w : World) (fb mb : Nat) (N : List NV) (F : Forest) (next : Int) (l2 : List Res)

def cells6 (u : NV) : List Value := [.int .i64 u.id, .int .i64 u.kind, .int .i64 u.up, .int .i64 u.links, .string u.text, .pointer u.ptr]
theorem nodeRet_ok (u : NV) : nodeRet (.ok u) = .tuple #[.agg #[.int .i64 u.id, .int .i64 u.kind, .int .i64 u.up, .int .i64 u.links, .string u.text, .pointer u.ptr], .nilIface] := rfl
theorem nodeRet_error (k : Int) : nodeRet (.error k) = .tuple #[.agg #[.int .i64 0, .int .i64 0, .int .i64 0, .int .i64 0, .string ⟨#[]⟩, .pointer none], .iface 86 (.int .i64 k)] := rfl

set_option maxHeartbeats 4000000 in
theorem walk_calls (hR : Ready w0) (h : FSIn w0 w fb mb N F next l2) (hF : Fits N F next) (pv : Option Addr) (n c : Nat) (l : List ByteArray) (hl : l.length = n) (hn : n ≤ 100) (hs : StrsIn l2 (.slice pv n c) l) (hp : ∀ p ∈ l, PartOk p) :
    Calls Tryz.prog 103 #[.pointer (some ⟨fb, 0, none⟩), .slice pv n c] w fun e w' => StepEnd w0 fb mb N F next l2 (walkP N F (atN N 1) l) e w' := by
  obtain ⟨B, hB⟩ : ∃ B, w.heap.size = B := ⟨_, rfl⟩
  have h1 := h.made 80 [.int .i64 0, .int .i64 0, .int .i64 0, .int .i64 0, .string ⟨#[]⟩, .pointer none]
  have hlk : ∀ o, (Instr.lookup 75 (.map (some mb)) (.int .i64 1) false).run Tryz.prog (w.alloc o) = .ok (atN N 1).val (w.alloc o) := fun o => (h.alloc o).look (i := 1) (wfI_of (by omega) (by omega)) _ rfl
  have q0 := h.map0
  have q1 : ∀ o, (w.alloc o).cell? ⟨fb, 0, none⟩ = some (.map (some mb)) := fun o => (h.alloc o).map0
  obtain ⟨u0, hu0⟩ : ∃ u0, atN N 1 = u0 := ⟨_, rfl⟩
  have hv0 : VOk F u0 := by rw [← hu0]; exact hF.vok 1
  rw [hu0] at hlk ⊢
  unfold NV.val at hlk
  have h2 := h1.made 80 [.int .i64 u0.id, .int .i64 u0.kind, .int .i64 u0.up, .int .i64 u0.links, .string u0.text, .pointer u0.ptr]
  have hz : (w.alloc (.cells [.int .i64 0, .int .i64 0, .int .i64 0, .int .i64 0, .string ⟨#[]⟩, .pointer none].toArray 80)).heap.size = B + 1 := by simp [hB]
  rw [hz, hB] at h2
  have H2 := hide h2
  have HF := hide hF
  have Hv0 := hide hv0
  have HS := hide hs
  have HP := hide hp
  have HR := hide hR
  have Hl := hide hl
  clear h1 h2 h hF hv0 hu0 hs hp hR hz hl
  go_enter Tryz.func103, Tryz.ntmps103
  go_wp2_with fail
  go_loopg [17] (n + 1) (fun k i wr => ∃ (j : Nat) (u : NV), j ≤ n ∧ k = n + 1 - j ∧ i = .int .i64 j ∧ Hid (VOk F u) ∧ Hid (walkP N F u0 l = walkP N F u (l.drop j)) ∧ Hid (FSIn w0 wr fb mb N F next (.cell (B + 1) 80 [.int .i64 u.id, .int .i64 u.kind, .int .i64 u.up, .int .i64 u.links, .string u.text, .pointer u.ptr] :: .cell B 80 [.int .i64 0, .int .i64 0, .int .i64 0, .int .i64 0, .string ⟨#[]⟩, .pointer none] :: l2)))
  case atStart => exact ⟨0, u0, by omega, rfl, rfl, Hv0, rfl, H2⟩
  case round =>
    obtain ⟨j, u, hj, hk, rfl, Hv, Hw, HH⟩ := hrel
    clear H2 Hv0 hlk q0 q1
    have h3 := unhide HH
    obtain ⟨k0, k1, k2, k3, k4, k5, f0, f1, f2, f3, f4, f5⟩ := h3.six (b := B + 1) (.head _)
    by_cases hjn : j < n
    · have hjz : (j : Int) < (n : Int) := by omega
      rcases unhide HS with ⟨e1, e2⟩ | ⟨pb, c', L, e1, e2, hm⟩
      · exact absurd (unhide Hl) (by rw [e2]; simp; omega)
      · have hpv : pv = some ⟨pb, 0, none⟩ := by have := unhide Hl; rw [this] at e1; cases e1; rfl
        subst hpv
        have hjl : j < l.length := by rw [unhide Hl]; exact hjn
        obtain ⟨p, hp⟩ : ∃ p, l[j]? = some p := ⟨l[j], by simp [hjl]⟩
        have hpL : L[j]? = some p := by
          have h8 : (L.take l.length)[j]? = some p := by rw [← e2]; exact hp
          rw [List.getElem?_take, if_pos hjl] at h8
          exact h8
        have c0 : wr.cell? ⟨pb, j, none⟩ = some (.string p) := h3.cellAt (t := 9) (.tail _ (.tail _ hm)) (by simp [hpL])
        have hdrop : l.drop j = p :: l.drop (j + 1) := by
          rw [List.drop_eq_getElem_cons hjl]
          have : l[j] = p := (List.getElem?_eq_some_iff.1 hp).2
          rw [this]
        have hC := step_calls w0 wr fb mb N F next _ u p (unhide HR) h3 (unhide HF) (unhide Hv) (unhide HP p (List.mem_of_getElem? hp))
        have Hw2 : Hid (walkP N F u0 l = match stepP N F u p with | .ok x => walkP N F x (l.drop (j + 1)) | .error k => .error k) := (unhide Hw).trans (by rw [hdrop]; rfl)
        have Hok : Hid (∀ x, stepP N F u p = .ok x → VOk F x) := fun x hx => stepP_ok (unhide HF) (unhide Hv) hx
        unfold NV.val at hC
        have HC := hide hC
        clear hC hdrop hp hpL h3 e1 e2 hm Hw
        cases hr : stepP N F u p with
        | ok x =>
          rw [hr] at HC Hw2 Hok
          have Hx : Hid (VOk F x) := unhide Hok x rfl
          clear hr Hok
          simp only [StepEnd, nodeRet_ok] at HC
          go_wp2_with fail
          refine (unhide HC).mono ?_
          rintro e w3 ⟨rfl, h4⟩
          obtain ⟨g0, g1, g2, g3, g4, g5, o0, o1, o2, o3, o4, o5⟩ := h4.six (b := B + 1) (.head _)
          have H4 := hide h4
          clear h4 k0 k1 k2 k3 k4 k5 f0 f1 f2 f3 f4 f5 c0
          go_wp2
          go_roundg (n - j)
          case measure => omega
          case rel => exact ⟨j + 1, x, by omega, by omega, by simp, Hx, Hw2, (unhide H4).putsix [] _ _ _ _ _ _⟩
        | error k =>
          rw [hr] at HC Hw2
          clear hr Hok
          simp only [StepEnd, nodeRet_error] at HC
          go_wp2_with fail
          refine (unhide HC).mono ?_
          rintro e w3 ⟨rfl, h4⟩
          obtain ⟨g0, g1, g2, g3, g4, g5, o0, o1, o2, o3, o4, o5⟩ := h4.six (b := B + 1) (.head _)
          obtain ⟨y0, y1, y2, y3, y4, y5, r0, r1, r2, r3, r4, r5⟩ := h4.six (b := B) (.tail _ (.head _))
          have H4 := hide h4
          clear h4 k0 k1 k2 k3 k4 k5 f0 f1 f2 f3 f4 f5 c0
          go_wp2
          have h5 := ((unhide H4).putsix [] (.int .i64 0) (.int .i64 0) (.int .i64 0) (.int .i64 0) (.string ⟨#[]⟩) (.pointer none)).putsix [.cell (B + 1) 80 [.int .i64 0, .int .i64 0, .int .i64 0, .int .i64 0, .string ⟨#[]⟩, .pointer none]] (.int .i64 0) (.int .i64 0) (.int .i64 0) (.int .i64 0) (.string ⟨#[]⟩) (.pointer none)
          refine bodyPost_ret (results_node (p := 4) (u := 5) rfl _ _ B _ _ _ _ _ _ rfl rfl (h5.heapAt (t := 80) (.tail _ (.head _)))) rfl ?_
          exact ⟨by rw [unhide Hw2]; rfl, (h5.forget []).forget []⟩
    · have hjz : ¬ (j : Int) < (n : Int) := by omega
      obtain ⟨y0, y1, y2, y3, y4, y5, r0, r1, r2, r3, r4, r5⟩ := h3.six (b := B) (.tail _ (.head _))
      clear h3
      go_wp2
      have h5 := (unhide HH).putsix [.cell (B + 1) 80 [.int .i64 u.id, .int .i64 u.kind, .int .i64 u.up, .int .i64 u.links, .string u.text, .pointer u.ptr]] (.int .i64 u.id) (.int .i64 u.kind) (.int .i64 u.up) (.int .i64 u.links) (.string u.text) (.pointer u.ptr)
      refine bodyPost_ret (results_node (p := 4) (u := 5) rfl _ _ B _ _ _ _ _ _ rfl rfl (h5.heapAt (t := 80) (.tail _ (.head _)))) rfl ?_
      have he : walkP N F u0 l = .ok u := (unhide Hw).trans (by rw [List.drop_eq_nil_of_le (by rw [unhide Hl]; omega)]; rfl)
      exact ⟨by rw [he]; rfl, (h5.forget []).forget []⟩

/-- What a path leads to. -/
noncomputable def findP (N : List NV) (F : Forest) (s : ByteArray) : Except Int NV :=
  match partsP s with | .error k => .error k | .ok l => walkP N F (atN N 1) l

theorem parts_ok {s : ByteArray} {l : List ByteArray} (h : partsP s = .ok l) : (∀ p ∈ l, PartOk p) ∧ l.length ≤ 6 := by
  unfold partsP at h
  split at h
  · cases h
  split at h
  · cases h
  split at h
  · cases h; exact ⟨by simp, by simp⟩
  split at h
  · cases h
  rename_i h6
  split at h
  · cases h
  rename_i hp
  cases h
  refine ⟨?_, by omega⟩
  have key : ∀ l : List ByteArray, partErr l = none → ∀ p ∈ l, PartOk p := by
    intro l
    induction l with
    | nil => intro _; simp
    | cons a l ih =>
      intro hn p hp
      unfold partErr at hn
      split at hn
      · rename_i hd
        rcases List.mem_cons.1 hp with rfl | hp
        · exact .inl hd
        · exact ih hn p hp
      · split at hn
        · rename_i hc
          rcases List.mem_cons.1 hp with rfl | hp
          · exact .inr hc
          · exact ih hn p hp
        · cases hn
  exact key _ hp

set_option maxHeartbeats 4000000 in
theorem ffind_calls (hR : Ready w0) (h : FSIn w0 w fb mb N F next l2) (hF : Fits N F next) (s : ByteArray) (hs : s.size ≤ 4000000000) :
    Calls Tryz.prog 57 #[.pointer (some ⟨fb, 0, none⟩), .string s] w fun e w' => StepEnd w0 fb mb N F next l2 (findP N F s) e w' := by
  obtain ⟨B, hB⟩ : ∃ B, w.heap.size = B := ⟨_, rfl⟩
  have h1 := h.made 80 [.int .i64 0, .int .i64 0, .int .i64 0, .int .i64 0, .string ⟨#[]⟩, .pointer none]
  rw [hB] at h1
  have hP := parts_calls s (w.alloc (.cells [.int .i64 0, .int .i64 0, .int .i64 0, .int .i64 0, .string ⟨#[]⟩, .pointer none].toArray 80)) (h1.ready hR) hs
  have Hfp : Hid (findP N F s = match partsP s with | .error k => .error k | .ok l => walkP N F (atN N 1) l) := rfl
  have Hpo : Hid (∀ l, partsP s = .ok l → (∀ p ∈ l, PartOk p) ∧ l.length ≤ 6) := fun l hl => parts_ok hl
  have H1 := hide h1
  have HF := hide hF
  have HR := hide hR
  clear h1 h hF hR
  unfold PartsEnd at hP
  cases hr : partsP s with
  | error k =>
    rw [hr] at hP Hfp
    have HP := hide hP
    clear hP hr Hpo
    go_enter Tryz.func57, Tryz.ntmps57
    go_wp2_with fail
    refine (unhide HP).mono ?_
    rintro e w2 ⟨hb2, rfl⟩
    have h2 := (unhide H1).step hb2
    obtain ⟨y0, y1, y2, y3, y4, y5, r0, r1, r2, r3, r4, r5⟩ := h2.six (b := B) (.head _)
    have H2 := hide h2
    clear h2 hb2 H1 HP hB
    go_wp2
    have h5 := (unhide H2).putsix [] (.int .i64 0) (.int .i64 0) (.int .i64 0) (.int .i64 0) (.string ⟨#[]⟩) (.pointer none)
    refine bodyPost_ret (results_node (p := 4) (u := 5) rfl _ _ B _ _ _ _ _ _ rfl rfl (h5.heapAt (t := 80) (.head _))) rfl ?_
    exact ⟨by rw [unhide Hfp]; rfl, h5.forget []⟩
  | ok l =>
    rw [hr] at hP Hfp
    obtain ⟨hpo, hle⟩ := unhide Hpo l hr
    have Hpo2 := hide hpo
    clear hpo Hpo hr
    cases l with
    | nil =>
      have HP := hide hP
      clear hP
      go_enter Tryz.func57, Tryz.ntmps57
      go_wp2_with fail
      refine (unhide HP).mono ?_
      rintro e w2 ⟨hb2, rfl⟩
      have h2 := (unhide H1).step hb2
      have hC := walk_calls w0 w2 fb mb N F next _ (unhide HR) h2 (unhide HF) none 0 0 [] rfl (by omega) (.inl ⟨rfl, rfl⟩) (by simp)
      have HC := hide hC
      clear h2 hb2 H1 HP hC hB
      generalize walkP N F (atN N 1) [] = r at HC Hfp
      cases r with
      | ok x =>
        simp only [StepEnd, nodeRet_ok] at HC
        go_wp2_with fail
        refine (unhide HC).mono ?_
        rintro e w3 ⟨rfl, h3⟩
        obtain ⟨y0, y1, y2, y3, y4, y5, r0, r1, r2, r3, r4, r5⟩ := h3.six (b := B) (.head _)
        have H3 := hide h3
        clear h3 HC
        go_wp2
        have h5 := (unhide H3).putsix [] (.int .i64 x.id) (.int .i64 x.kind) (.int .i64 x.up) (.int .i64 x.links) (.string x.text) (.pointer x.ptr)
        refine bodyPost_ret (results_node (p := 4) (u := 5) rfl _ _ B _ _ _ _ _ _ rfl rfl (h5.heapAt (t := 80) (.head _))) rfl ?_
        exact ⟨by rw [unhide Hfp]; rfl, h5.forget []⟩
      | error k =>
        simp only [StepEnd, nodeRet_error] at HC
        go_wp2_with fail
        refine (unhide HC).mono ?_
        rintro e w3 ⟨rfl, h3⟩
        obtain ⟨y0, y1, y2, y3, y4, y5, r0, r1, r2, r3, r4, r5⟩ := h3.six (b := B) (.head _)
        have H3 := hide h3
        clear h3 HC
        go_wp2
        have h5 := (unhide H3).putsix [] (.int .i64 0) (.int .i64 0) (.int .i64 0) (.int .i64 0) (.string ⟨#[]⟩) (.pointer none)
        refine bodyPost_ret (results_node (p := 4) (u := 5) rfl _ _ B _ _ _ _ _ _ rfl rfl (h5.heapAt (t := 80) (.head _))) rfl ?_
        exact ⟨by rw [unhide Hfp]; rfl, h5.forget []⟩
    | cons p l =>
      have HP := hide hP
      clear hP
      go_enter Tryz.func57, Tryz.ntmps57
      go_wp2_with fail
      refine (unhide HP).mono ?_
      rintro e w2 ⟨hb2, b, rfl, hb, hrow⟩
      have h2 := (unhide H1).found hb2 hb hrow
      have hC := walk_calls w0 w2 fb mb N F next _ (unhide HR) h2 (unhide HF) (some ⟨b, 0, none⟩) (l.length + 1) (l.length + 1) (p :: l) (by simp) (by simp at hle; omega) (.inr ⟨b, l.length + 1, p :: l, by simp, by simp, .head _⟩) (unhide Hpo2)
      have HC := hide hC
      obtain ⟨n, hn⟩ : ∃ n, l.length + 1 = n := ⟨_, rfl⟩
      rw [hn] at HC ⊢
      clear h2 hb2 H1 HP hC hB hb hrow hn hle
      generalize walkP N F (atN N 1) (p :: l) = r at HC Hfp
      cases r with
      | ok x =>
        simp only [StepEnd, nodeRet_ok] at HC
        go_wp2_with fail
        refine (unhide HC).mono ?_
        rintro e w3 ⟨rfl, h3⟩
        obtain ⟨y0, y1, y2, y3, y4, y5, r0, r1, r2, r3, r4, r5⟩ := h3.six (b := B) (.tail _ (.head _))
        have H3 := hide h3
        clear h3 HC
        go_wp2
        have h5 := (unhide H3).putsix [_] (.int .i64 x.id) (.int .i64 x.kind) (.int .i64 x.up) (.int .i64 x.links) (.string x.text) (.pointer x.ptr)
        refine bodyPost_ret (results_node (p := 4) (u := 5) rfl _ _ B _ _ _ _ _ _ rfl rfl (h5.heapAt (t := 80) (.tail _ (.head _)))) rfl ?_
        exact ⟨by rw [unhide Hfp]; rfl, (h5.forget []).forget []⟩
      | error k =>
        simp only [StepEnd, nodeRet_error] at HC
        go_wp2_with fail
        refine (unhide HC).mono ?_
        rintro e w3 ⟨rfl, h3⟩
        obtain ⟨y0, y1, y2, y3, y4, y5, r0, r1, r2, r3, r4, r5⟩ := h3.six (b := B) (.tail _ (.head _))
        have H3 := hide h3
        clear h3 HC
        go_wp2
        have h5 := (unhide H3).putsix [_] (.int .i64 0) (.int .i64 0) (.int .i64 0) (.int .i64 0) (.string ⟨#[]⟩) (.pointer none)
        refine bodyPost_ret (results_node (p := 4) (u := 5) rfl _ _ B _ _ _ _ _ _ rfl rfl (h5.heapAt (t := 80) (.tail _ (.head _)))) rfl ?_
        exact ⟨by rw [unhide Hfp]; rfl, (h5.forget []).forget []⟩
end Go.Proofs.YtjpmomklkkifjaaGreatDoor.T
namespace Go.Proofs.YtjpmomklkkifjaaGreatDoor
open Go.RowKit Go.Sort
set_option maxRecDepth 100000

/-- The row in its block: the signs, then what lies behind them; nothing else was touched since w0. -/
structure RowAt (w0 : World) (g : Nat) (tail : List Value) (zs : List Int) (w : World) : Prop where
  blk : w.heap[g]? = some (.cells (zs.map (Value.int .i32) ++ tail).toArray 21 (0, 0))
  grow : w0.grownBy w (some g)

theorem RowAt.cell {w0 w : World} {g : Nat} {tail : List Value} {zs : List Int} (h : RowAt w0 g tail zs w) {k : Nat} {z : Int} (hz : zs[k]? = some z) : w.cell? ⟨g, k, none⟩ = some (.int .i32 z) := by
  have hk : k < zs.length := (List.getElem?_eq_some_iff.1 hz).1
  rw [cell_of_row _ _ _ _ _ _ h.blk]
  simp only [List.getElem?_toArray]
  rw [List.getElem?_append_left (by simpa using hk), List.getElem?_map, hz]
  rfl
theorem RowAt.frozen {w0 w : World} {g : Nat} {tail : List Value} {zs : List Int} (h : RowAt w0 g tail zs w) (k : Nat) : w.frozen? ⟨g, k, none⟩ = false := frozen_of_row _ _ _ _ _ h.blk
theorem RowAt.set {w0 w : World} {g : Nat} {tail : List Value} {zs : List Int} (h : RowAt w0 g tail zs w) {k : Nat} (hk : k < zs.length) (z : Int) : RowAt w0 g tail (zs.set k z) (w.setCell ⟨g, k, none⟩ (.int .i32 z)) where
  blk := by
    rw [heap_setCell_same w g k _ 21 _ h.blk]
    simp only [List.setIfInBounds_toArray, Option.some.injEq, Obj.cells.injEq, and_true]
    rw [List.set_append_left _ _ (by simpa using hk), List.map_set]
  grow := by
    have h1 := h.grow
    refine ⟨h1.os, h1.tape, h1.output, by rw [World.size_setCell]; exact h1.size, fun j hj hne => ?_⟩
    rw [heap_setCell_other _ _ _ _ (by intro e; exact hne (by rw [e]))]
    exact h1.block j hj hne
theorem RowAt.drew {w0 w : World} {g : Nat} {tail : List Value} {zs : List Int} (h : RowAt w0 g tail zs w) (n : Nat) : RowAt w0 g tail zs (w.drewN n) := ⟨h.blk, ⟨h.grow.os, h.grow.tape, h.grow.output, h.grow.size, h.grow.block⟩⟩

set_option maxRecDepth 100000 in
theorem swapRange_calls (w0 : World) (g cap : Nat) (tail : List Value) (P X Q Y R : List Int) (w : World) (hXY : X.length = Y.length) (hlen : (P ++ X ++ Q ++ Y ++ R).length ≤ 1000) (h : RowAt w0 g tail (P ++ X ++ Q ++ Y ++ R) w) :
    Calls Tryz.prog 240 #[.slice (some ⟨g, 0, none⟩) (P ++ X ++ Q ++ Y ++ R).length cap, .int .i64 P.length, .int .i64 (P ++ X ++ Q).length, .int .i64 X.length, .func (.func 137) #[] #[]] w fun e w' =>
      e = .returned (.tuple #[]) ∧ RowAt w0 g tail (P ++ Y ++ Q ++ X ++ R) w' := by
  obtain ⟨N, hN⟩ : ∃ N, (P ++ X ++ Q ++ Y ++ R).length = N := ⟨_, rfl⟩
  obtain ⟨a, hA⟩ : ∃ a, P.length = a := ⟨_, rfl⟩
  obtain ⟨b, hB⟩ : ∃ b, (P ++ X ++ Q).length = b := ⟨_, rfl⟩
  obtain ⟨n, hX⟩ : ∃ n, X.length = n := ⟨_, rfl⟩
  have hY : Y.length = n := by omega
  rw [hN, hA, hB, hX]
  rw [hN] at hlen
  have hNb : b + n ≤ N := by
    simp only [List.length_append] at hN hB
    omega
  have hab : a + n ≤ b := by
    simp only [List.length_append] at hB
    omega
  have H := hide h
  have HA := hide hA
  have HB := hide hB
  have HN := hide hN
  have HX := hide hX
  have HY := hide hY
  clear h hXY hA hB hN hX hY
  go_enter Tryz.func240, Tryz.ntmps240
  go_wp2_with fail
  go_loopg [10] (n + 1) (fun k i wr => ∃ (j : Nat) (X1 X2 Y1 Y2 : List Int), k = n + 1 - j ∧ j ≤ n ∧ i = .int .i64 j ∧ Hid (X = X1 ++ X2 ∧ Y = Y1 ++ Y2 ∧ X1.length = j ∧ Y1.length = j) ∧ Hid (RowAt w0 g tail (P ++ (Y1 ++ X2) ++ Q ++ (X1 ++ Y2) ++ R) wr))
  case atStart => exact ⟨0, [], X, [], Y, rfl, by omega, rfl, ⟨rfl, rfl, rfl, rfl⟩, by have := unhide H; show RowAt _ _ _ _ _; simpa using this⟩
  case round =>
    obtain ⟨j, X1, X2, Y1, Y2, hk, hjn, rfl, HS, HR⟩ := hrel
    by_cases hj : j < n
    · have hjz : (j : Int) < (n : Int) := by omega
      obtain ⟨hX, hY, h1, h2⟩ := unhide HS
      have hxl := unhide HX
      have hyl := unhide HY
      have hal := unhide HA
      have hbl := unhide HB
      rw [hX, List.length_append] at hxl
      rw [hY, List.length_append] at hyl
      obtain ⟨x, X3, rfl⟩ : ∃ x X3, X2 = x :: X3 := by
        cases X2 with
        | nil => simp at hxl; omega
        | cons x X3 => exact ⟨x, X3, rfl⟩
      obtain ⟨y, Y3, rfl⟩ : ∃ y Y3, Y2 = y :: Y3 := by
        cases Y2 with
        | nil => simp at hyl; omega
        | cons y Y3 => exact ⟨y, Y3, rfl⟩
      have hQl : P.length + (Y1 ++ x :: X3).length + Q.length = b := by
        rw [← hbl, hX]
        simp only [List.length_append]
        omega
      have e1 : P ++ (Y1 ++ x :: X3) ++ Q ++ (X1 ++ y :: Y3) ++ R = (P ++ Y1) ++ x :: (X3 ++ Q ++ (X1 ++ y :: Y3) ++ R) := by simp
      have e2 : P ++ (Y1 ++ x :: X3) ++ Q ++ (X1 ++ y :: Y3) ++ R = (P ++ (Y1 ++ x :: X3) ++ Q ++ X1) ++ y :: (Y3 ++ R) := by simp
      obtain ⟨p1, hp1⟩ : ∃ p1, p1 = a + j := ⟨_, rfl⟩
      obtain ⟨p2, hp2⟩ : ∃ p2, p2 = b + j := ⟨_, rfl⟩
      have g1 : (P ++ (Y1 ++ x :: X3) ++ Q ++ (X1 ++ y :: Y3) ++ R)[p1]? = some x := by
        rw [e1, List.getElem?_append_right (by rw [List.length_append]; omega), List.length_append]
        have : p1 - (P.length + Y1.length) = 0 := by omega
        rw [this]
        rfl
      have l2 : (P ++ (Y1 ++ x :: X3) ++ Q ++ X1).length = p2 := by
        rw [List.length_append, List.length_append, List.length_append]
        omega
      have g2 : (P ++ (Y1 ++ x :: X3) ++ Q ++ (X1 ++ y :: Y3) ++ R)[p2]? = some y := by
        rw [e2, List.getElem?_append_right (by omega), l2, Nat.sub_self]
        rfl
      have c1 := (unhide HR).cell g1
      have c2 := (unhide HR).cell g2
      have f1 := (unhide HR).frozen p1
      have f2 := (unhide HR).frozen p2
      have Hset : Hid (((P ++ (Y1 ++ x :: X3) ++ Q ++ (X1 ++ y :: Y3) ++ R).set p1 y).set p2 x = P ++ ((Y1 ++ [y]) ++ X3) ++ Q ++ ((X1 ++ [x]) ++ Y3) ++ R) := by
        show _ = _
        have l1 : (P ++ Y1).length = p1 := by rw [List.length_append]; omega
        rw [e1, List.set_append_right _ _ (by omega), l1, Nat.sub_self, List.set_cons_zero]
        have e3 : (P ++ Y1) ++ y :: (X3 ++ Q ++ (X1 ++ y :: Y3) ++ R) = (P ++ (Y1 ++ y :: X3) ++ Q ++ X1) ++ y :: (Y3 ++ R) := by simp
        have l3 : (P ++ (Y1 ++ y :: X3) ++ Q ++ X1).length = p2 := by
          rw [← l2]
          simp
        rw [e3, List.set_append_right _ _ (by omega), l3, Nat.sub_self, List.set_cons_zero]
        simp
      have Hlt : Hid (p1 < (P ++ (Y1 ++ x :: X3) ++ Q ++ (X1 ++ y :: Y3) ++ R).length ∧ p2 < (P ++ (Y1 ++ x :: X3) ++ Q ++ (X1 ++ y :: Y3) ++ R).length) := ⟨(List.getElem?_eq_some_iff.1 g1).1, (List.getElem?_eq_some_iff.1 g2).1⟩
      have Hnew : Hid (X = (X1 ++ [x]) ++ X3 ∧ Y = (Y1 ++ [y]) ++ Y3 ∧ (X1 ++ [x]).length = j + 1 ∧ (Y1 ++ [y]).length = j + 1) := ⟨by rw [hX]; simp, by rw [hY]; simp, by simp [h1], by simp [h2]⟩
      have z1 : ((a : Int) + (j : Int)).toNat = p1 := by omega
      have z2 : ((b : Int) + (j : Int)).toNat = p2 := by omega
      have z3 : (a : Int) + (j : Int) < (N : Int) := by omega
      have z4 : (b : Int) + (j : Int) < (N : Int) := by omega
      have z5 : 0 ≤ (a : Int) + (j : Int) := by omega
      have z6 : 0 ≤ (b : Int) + (j : Int) := by omega
      have hne : p1 ≠ p2 := by omega
      have Hp : Hid (p1 = a + j ∧ p2 = b + j) := ⟨hp1, hp2⟩
      clear g1 g2 e1 e2 hQl hX hY h1 h2 hxl hyl hal hbl l2 hp1 hp2
      go_wp2_with fail
      go_big_region
      all_goals go_wp2
      go_roundg (n - j)
      case measure => omega
      case rel =>
        refine ⟨j + 1, X1 ++ [x], X3, Y1 ++ [y], Y3, by omega, by omega, by simp, unhide Hnew, ?_⟩
        have h1 := ((unhide HR).set (unhide Hlt).1 y).set (by rw [List.length_set]; exact (unhide Hlt).2) x
        rw [unhide Hset] at h1
        exact h1.drew 1
    · have hjz : ¬ (j : Int) < (n : Int) := by omega
      obtain ⟨hX, hY, h1, h2⟩ := unhide HS
      have hxl := unhide HX
      have hyl := unhide HY
      rw [hX, List.length_append] at hxl
      rw [hY, List.length_append] at hyl
      have e1 : X2 = [] := List.eq_nil_of_length_eq_zero (by omega)
      have e2 : Y2 = [] := List.eq_nil_of_length_eq_zero (by omega)
      subst e1 e2
      rw [List.append_nil] at hX hY
      have Hfin : Hid (RowAt w0 g tail (P ++ Y ++ Q ++ X ++ R) wr) := by
        show RowAt _ _ _ _ _
        rw [hX, hY]
        simpa using unhide HR
      clear hX hY h1 h2 hxl hyl
      go_wp2_with fail
      go_end0
      exact ⟨rfl, by have := unhide Hfin; simpa using this⟩

set_option maxRecDepth 100000 in
theorem rotate_calls (w0 : World) (g cap : Nat) (tail : List Value) (P X Y R : List Int) (w : World) (hX0 : X ≠ []) (hY0 : Y ≠ []) (hlen : (P ++ X ++ Y ++ R).length ≤ 1000) (h : RowAt w0 g tail (P ++ X ++ Y ++ R) w) :
    Calls Tryz.prog 226 #[.slice (some ⟨g, 0, none⟩) (P ++ X ++ Y ++ R).length cap, .int .i64 P.length, .int .i64 (P ++ X).length, .int .i64 (P ++ X ++ Y).length, .func (.func 137) #[] #[]] w fun e w' =>
      e = .returned (.tuple #[]) ∧ RowAt w0 g tail (P ++ Y ++ X ++ R) w' := by
  obtain ⟨N, hN⟩ : ∃ N, (P ++ X ++ Y ++ R).length = N := ⟨_, rfl⟩
  obtain ⟨a, hA⟩ : ∃ a, P.length = a := ⟨_, rfl⟩
  obtain ⟨m, hM⟩ : ∃ m, (P ++ X).length = m := ⟨_, rfl⟩
  obtain ⟨b, hB⟩ : ∃ b, (P ++ X ++ Y).length = b := ⟨_, rfl⟩
  obtain ⟨T, hT⟩ : ∃ T, P ++ Y ++ X ++ R = T := ⟨_, rfl⟩
  have hx0 := List.length_pos_iff.2 hX0
  have hy0 := List.length_pos_iff.2 hY0
  have hx : X.length = m - a ∧ a ≤ m := by rw [List.length_append] at hM; omega
  have hy : Y.length = b - m ∧ m ≤ b := by rw [List.length_append] at hB; omega
  have hNb : b ≤ N := by rw [List.length_append] at hN; omega
  rw [hN, hA, hM, hB, hT]
  rw [hN] at hlen
  have H0 : Hid (∃ (P' X' Y' R' : List Int), P' ++ X' ++ Y' ++ R' = P ++ X ++ Y ++ R ∧ P' ++ Y' ++ X' ++ R' = T ∧ X'.length = m - a ∧ Y'.length = b - m ∧ P'.length + X'.length = m) := ⟨P, X, Y, R, rfl, hT, hx.1, hy.1, by rw [← hM]; simp⟩
  have H := hide h
  have HN := hide hN
  have hm1 : (a : Int) < (m : Int) := by omega
  have hm2 : (m : Int) < (b : Int) := by omega
  clear h hX0 hY0 hA hM hB hT hx hy hx0 hy0 hN
  go_enter Tryz.func226, Tryz.ntmps226
  go_wp2_with fail
  go_loopg [10, 11] (b + 1) (fun k vi vj wr => ∃ (i j : Nat) (P' X' Y' R' : List Int), i + j ≤ k ∧ vi = .int .i64 i ∧ vj = .int .i64 j ∧ 0 < i ∧ 0 < j ∧ i ≤ m ∧ m + j ≤ N ∧ Hid (P' ++ Y' ++ X' ++ R' = T ∧ X'.length = i ∧ Y'.length = j ∧ P'.length + i = m ∧ (P' ++ X' ++ Y' ++ R').length = N) ∧ Hid (RowAt w0 g tail (P' ++ X' ++ Y' ++ R') wr))
  case atStart =>
    obtain ⟨P', X', Y', R', e1, e2, e3, e4, e5⟩ := unhide H0
    refine ⟨m - a, b - m, P', X', Y', R', by omega, ?_, ?_, by omega, by omega, by omega, by omega, ⟨e2, e3, e4, by omega, by rw [e1]; exact unhide HN⟩, ?_⟩
    · congr 1; omega
    · congr 1; omega
    · show RowAt _ _ _ _ _
      rw [e1]
      exact unhide H
  case round =>
    obtain ⟨i, j, P', X', Y', R', hk, rfl, rfl, hi0, hj0, him, hjN, HS, HR⟩ := hrel
    clear H0 H HN
    have hmi : (m : Int) - (i : Int) = ((m - i : Nat) : Int) := by omega
    obtain ⟨hT, h1, h2, h3, h4⟩ := unhide HS
    by_cases hij : i = j
    · have hij' : ((i : Int) == (j : Int)) = true := by simp [hij]
      have hc := swapRange_calls w0 g cap tail P' X' [] Y' R' wr (by omega) (by simp only [List.append_nil]; omega) (by simpa using unhide HR)
      rw [List.append_nil, h4, h1, show P'.length = m - i by omega, show (P' ++ X').length = m by rw [List.length_append]; omega] at hc
      have Hfin : Hid (P' ++ Y' ++ [] ++ X' ++ R' = T) := by
        show _ = _
        rw [List.append_nil]
        exact hT
      clear hT h1 h2 h3 h4
      generalize P' ++ Y' ++ [] ++ X' ++ R' = T2 at *
      subst hij
      go_wp2_with fail
      refine hc.mono ?_
      rintro e w1 ⟨rfl, hr1⟩
      go_wp2
      go_end0
      rw [← unhide Hfin]
      exact ⟨rfl, hr1⟩
    · have hij' : ((i : Int) == (j : Int)) = false := by simpa using (by omega : ¬ (i : Int) = (j : Int))
      by_cases hlt : j < i
      · have hltz : (j : Int) < (i : Int) := by omega
        obtain ⟨X1, X2, hX, hX1⟩ : ∃ X1 X2, X' = X1 ++ X2 ∧ X1.length = j := ⟨X'.take j, X'.drop j, by simp, by rw [List.length_take]; omega⟩
        subst hX
        rw [List.length_append] at h1
        have e : P' ++ (X1 ++ X2) ++ Y' ++ R' = P' ++ X1 ++ X2 ++ Y' ++ R' := by simp
        have hc := swapRange_calls w0 g cap tail P' X1 X2 Y' R' wr (by omega) (by rw [← e]; omega) (by rw [← e]; exact unhide HR)
        rw [← e, h4, hX1, show P'.length = m - i by omega, show (P' ++ X1 ++ X2).length = m by simp only [List.length_append]; omega] at hc
        have Hnew : Hid ((P' ++ Y') ++ X1 ++ X2 ++ R' = T ∧ X2.length = i - j ∧ X1.length = j ∧ (P' ++ Y').length + (i - j) = m ∧ ((P' ++ Y') ++ X2 ++ X1 ++ R').length = N) := by
          refine ⟨by rw [← hT]; simp, by omega, hX1, by rw [List.length_append]; omega, ?_⟩
          rw [← h4]
          simp only [List.length_append]
          omega
        clear hT h1 h2 h3 h4 e hX1
        obtain ⟨ys, hys⟩ : ∃ ys, P' ++ Y' ++ X2 ++ X1 ++ R' = ys := ⟨_, rfl⟩
        rw [hys] at hc
        have Hys := hide hys
        clear hys
        go_wp2_with fail
        refine hc.mono ?_
        rintro e w1 ⟨rfl, hr1⟩
        go_wp2
        go_roundg (i - j + j)
        case measure => omega
        case rel =>
          refine ⟨i - j, j, P' ++ Y', X2, X1, R', by omega, ?_, rfl, by omega, hj0, by omega, hjN, unhide Hnew, ?_⟩
          · congr 1; omega
          · show RowAt _ _ _ _ _
            rw [unhide Hys]
            exact hr1
      · have hltz : ¬ (j : Int) < (i : Int) := by omega
        obtain ⟨Y1, Y2, hY, hY2⟩ : ∃ Y1 Y2, Y' = Y1 ++ Y2 ∧ Y2.length = i := ⟨Y'.take (j - i), Y'.drop (j - i), by simp, by rw [List.length_drop]; omega⟩
        subst hY
        rw [List.length_append] at h2
        have e : P' ++ X' ++ (Y1 ++ Y2) ++ R' = P' ++ X' ++ Y1 ++ Y2 ++ R' := by simp
        have hc := swapRange_calls w0 g cap tail P' X' Y1 Y2 R' wr (by omega) (by rw [← e]; omega) (by rw [← e]; exact unhide HR)
        rw [← e, h4, h1, show P'.length = m - i by omega, show (P' ++ X' ++ Y1).length = m + j - i by simp only [List.length_append]; omega] at hc
        have Hnew : Hid (P' ++ Y1 ++ Y2 ++ (X' ++ R') = T ∧ Y2.length = i ∧ Y1.length = j - i ∧ P'.length + i = m ∧ (P' ++ Y2 ++ Y1 ++ (X' ++ R')).length = N) := by
          refine ⟨by rw [← hT]; simp, hY2, by omega, h3, ?_⟩
          rw [← h4]
          simp only [List.length_append]
          omega
        clear hT h1 h2 h3 h4 e hY2
        obtain ⟨ys, hys⟩ : ∃ ys, P' ++ Y2 ++ Y1 ++ X' ++ R' = ys := ⟨_, rfl⟩
        rw [hys] at hc
        have Hys := hide hys
        clear hys
        have hmj : (m : Int) + (j : Int) - (i : Int) = ((m + j - i : Nat) : Int) := by omega
        go_wp2_with fail
        refine hc.mono ?_
        rintro e w1 ⟨rfl, hr1⟩
        go_wp2
        go_roundg (i + (j - i))
        case measure => omega
        case rel =>
          refine ⟨i, j - i, P', Y2, Y1, X' ++ R', by omega, rfl, ?_, hi0, by omega, him, by omega, unhide Hnew, ?_⟩
          · congr 1; omega
          · show RowAt _ _ _ _ _
            have h5 := hr1
            rw [← unhide Hys] at h5
            simpa using h5
end Go.Proofs.YtjpmomklkkifjaaGreatDoor
