/-
  The contracts of a place's methods, of FS.file and FS.Find, over the seat's program.
-/
import Derived.Test.YtjpmomklkkifjaaGreatDoorCFWalk
import Derived.Test.YtjpmomklkkifjaaGreatDoorCBTreeDrop
namespace Go.Proofs.YtjpmomklkkifjaaGreatDoor.T
open Go.RowKit
set_option maxRecDepth 100000
set_option linter.unusedVariables false
set_option linter.unusedSimpArgs false

structure PL where
  v : NV
  key : ByteArray
  name : ByteArray
def PL.val (p : PL) : Value := .agg #[.int .i64 p.v.id, .int .i64 p.v.kind, .int .i64 p.v.up, .int .i64 p.v.links, .string p.v.text, .pointer p.v.ptr, .string p.key, .string p.name]
def PL.zero : PL := ⟨NV.zero, ⟨#[]⟩, ⟨#[]⟩⟩

variable (w0 w : World) (fb mb : Nat) (N : List NV) (F : Forest) (next : Int) (l2 : List Res)

theorem results_entry {fn : Func} {p u : Tmp} (h : fn.results = #[.cell p 38, .tmp u]) (tmps : Array Value) (w : World) (g : Nat) (a b : Value) {v : Value}
    (hp : tmps.getD p undef = .pointer (some ⟨g, 0, none⟩)) (hu2 : tmps.getD u undef = v) (hg : w.heap[g]? = some (.cells #[a, b] 38 (0, 0))) :
    (results fn tmps).run Tryz.prog w = .ok (.tuple #[.agg #[a, b], v]) w := results_two h tmps w g 38 a b hp hu2 hg

set_option maxHeartbeats 1000000 in
theorem pget_calls (h : FSIn w0 w fb mb N F next l2) (p : PL) (tb : Nat) (htb : p.v.tb = some tb) (ht : tb ∈ F.map (·.1)) :
    Calls Tryz.prog 62 #[p.val] w fun e w' => e = .returned (getV (getL (lookF F tb) p.key)) ∧ FSIn w0 w' fb mb N F next l2 := by
  have hvp : p.v.ptr = some ⟨tb, 0, none⟩ := by unfold NV.ptr; rw [htb]; rfl
  obtain ⟨B, hB⟩ : ∃ B, w.heap.size = B := ⟨_, rfl⟩
  have h1 := (h.made 96 [.int .i64 p.v.id, .int .i64 p.v.kind, .int .i64 p.v.up, .int .i64 p.v.links, .string p.v.text, .pointer (some ⟨tb, 0, none⟩), .string p.key, .string p.name]).made 38 [.string ⟨#[]⟩, .int .i64 0]
  have hz : (w.alloc (.cells [.int .i64 p.v.id, .int .i64 p.v.kind, .int .i64 p.v.up, .int .i64 p.v.links, .string p.v.text, .pointer (some ⟨tb, 0, none⟩), .string p.key, .string p.name].toArray 96)).heap.size = B + 1 := by simp [hB]
  rw [hz, hB] at h1
  obtain ⟨rest, hT, hback⟩ := h1.treeSame ht
  have hG := get_calls _ _ _ _ tb _ rest p.key hT
  simp only [GetEnd, getV_eq] at hG ⊢
  obtain ⟨nm, hnm⟩ : ∃ nm, getN (getL (lookF F tb) p.key) = nm := ⟨_, rfl⟩
  obtain ⟨nd, hni⟩ : ∃ nd, getI (getL (lookF F tb) p.key) = nd := ⟨_, rfl⟩
  obtain ⟨bb, hbb⟩ : ∃ bb, (getL (lookF F tb) p.key).isSome = bb := ⟨_, rfl⟩
  rw [hnm, hni, hbb] at hG ⊢
  have HG := hide hG
  have Hb := hide hback
  unfold PL.val
  rw [hvp]
  clear hnm hni hbb hG hback hvp htb h1 hT hz h
  go_enter Tryz.func62, Tryz.ntmps62
  go_wp2_with fail
  refine (unhide HG).mono ?_
  rintro e w2 ⟨rfl, hT2⟩
  have h2 := unhide Hb _ hT2
  obtain ⟨e0, e1, g0, g1⟩ := h2.two (b := B + 1) (.head _)
  have H2 := hide h2
  clear h2 hT2 HG Hb hB
  go_wp2
  have h5 := (unhide H2).puttwo [] (.string nm) (.int .i64 nd)
  refine bodyPost_ret (results_entry (p := 2) (u := 3) rfl _ _ (B + 1) _ _ rfl rfl (h5.heapAt (t := 38) (.head _))) rfl ?_
  exact ⟨rfl, (h5.forget []).forget []⟩

set_option maxHeartbeats 1000000 in
theorem pput_calls (h : FSIn w0 w fb mb N F next l2) (p : PL) (id : Int) (tb : Nat) (htb : p.v.tb = some tb) (ht : tb ∈ F.map (·.1)) (hk : p.key.toList.isEmpty = false) :
    Calls Tryz.prog 106 #[p.val, .int .i64 id] w fun e w' => e = .returned (.tuple #[]) ∧ FSIn w0 w' fb mb N (setF F tb (putL (lookF F tb) ⟨p.key, p.name, id⟩)) next l2 := by
  have hvp : p.v.ptr = some ⟨tb, 0, none⟩ := by unfold NV.ptr; rw [htb]; rfl
  obtain ⟨B, hB⟩ : ∃ B, w.heap.size = B := ⟨_, rfl⟩
  have h1 := h.made 96 [.int .i64 p.v.id, .int .i64 p.v.kind, .int .i64 p.v.up, .int .i64 p.v.links, .string p.v.text, .pointer (some ⟨tb, 0, none⟩), .string p.key, .string p.name]
  rw [hB] at h1
  obtain ⟨rest, hT, hback⟩ := h1.tree ht
  have hG := treePut_calls _ _ _ _ tb _ ⟨p.key, p.name, id⟩ rest hT hk
  simp only [TreePutEnd] at hG
  have HG := hide hG
  have Hb := hide hback
  unfold PL.val
  rw [hvp]
  clear hG hback hvp htb h1 hT h hk
  go_enter Tryz.func106, Tryz.ntmps106
  go_wp2_with fail
  refine (unhide HG).mono ?_
  rintro e w2 ⟨rfl, hT2⟩
  have h2 := unhide Hb _ _ hT2
  have H2 := hide h2
  clear h2 hT2 HG Hb hB
  go_wp2
  go_end0
  exact ⟨rfl, (unhide H2).forget []⟩

set_option maxHeartbeats 1000000 in
theorem pdrop_calls (h : FSIn w0 w fb mb N F next l2) (p : PL) (tb : Nat) (htb : p.v.tb = some tb) (ht : tb ∈ F.map (·.1)) :
    Calls Tryz.prog 108 #[p.val] w fun e w' => e = .returned (.tuple #[]) ∧ FSIn w0 w' fb mb N (setF F tb (dropL (lookF F tb) p.key)) next l2 := by
  have hvp : p.v.ptr = some ⟨tb, 0, none⟩ := by unfold NV.ptr; rw [htb]; rfl
  obtain ⟨B, hB⟩ : ∃ B, w.heap.size = B := ⟨_, rfl⟩
  have h1 := h.made 96 [.int .i64 p.v.id, .int .i64 p.v.kind, .int .i64 p.v.up, .int .i64 p.v.links, .string p.v.text, .pointer (some ⟨tb, 0, none⟩), .string p.key, .string p.name]
  rw [hB] at h1
  obtain ⟨rest, hT, hback⟩ := h1.tree ht
  have hG := treeDrop_calls _ _ _ _ tb _ rest p.key hT
  simp only [TreeDropEnd] at hG
  obtain ⟨bb, hbb⟩ : ∃ bb, (getL (lookF F tb) p.key).isSome = bb := ⟨_, rfl⟩
  rw [hbb] at hG
  have HG := hide hG
  have Hb := hide hback
  unfold PL.val
  rw [hvp]
  clear hG hback hvp htb h1 hT h hbb
  go_enter Tryz.func108, Tryz.ntmps108
  go_wp2_with fail
  refine (unhide HG).mono ?_
  rintro e w2 ⟨rfl, hT2⟩
  have h2 := unhide Hb _ _ hT2
  have H2 := hide h2
  clear h2 hT2 HG Hb hB
  go_wp2
  go_end0
  exact ⟨rfl, (unhide H2).forget []⟩

theorem psame_calls (p q : PL) :
    Calls Tryz.prog 63 #[p.val, q.val] w fun e w' => e = .returned (.bool (p.v.id == q.v.id && p.key.toList == q.key.toList)) ∧ Below w.heap.size w w' := by
  unfold PL.val
  generalize p.v.ptr = pp
  generalize q.v.ptr = qp
  cases hi : (p.v.id == q.v.id) with
  | false =>
    go_enter Tryz.func63, Tryz.ntmps63
    go_wp2
    go_ret
    exact ⟨rfl, ((Below.refl _ _).alloc (Nat.le_refl _) _).alloc (by simp) _⟩
  | true =>
    go_enter Tryz.func63, Tryz.ntmps63
    go_wp2
    go_ret
    exact ⟨by simp, ((Below.refl _ _).alloc (Nat.le_refl _) _).alloc (by simp) _⟩

noncomputable def fileP (N : List NV) (F : Forest) (s : ByteArray) : Except Int NV :=
  match findP N F s with | .error k => .error k | .ok v => if v.kind ≠ 2 then .error 7 else .ok v

set_option maxHeartbeats 1000000 in
theorem file_calls (hR : Ready w0) (h : FSIn w0 w fb mb N F next l2) (hF : Fits N F next) (s : ByteArray) (hs : s.size ≤ 4000000000) :
    Calls Tryz.prog 113 #[.pointer (some ⟨fb, 0, none⟩), .string s] w fun e w' => StepEnd w0 fb mb N F next l2 (fileP N F s) e w' := by
  obtain ⟨B, hB⟩ : ∃ B, w.heap.size = B := ⟨_, rfl⟩
  have h1 := h.made 80 [.int .i64 0, .int .i64 0, .int .i64 0, .int .i64 0, .string ⟨#[]⟩, .pointer none]
  rw [hB] at h1
  have hC := ffind_calls w0 _ fb mb N F next _ hR h1 hF s hs
  have Hfp : Hid (fileP N F s = match findP N F s with | .error k => .error k | .ok v => if v.kind ≠ 2 then .error 7 else .ok v) := rfl
  generalize findP N F s = r at hC Hfp
  cases r with
  | error k =>
    simp only [StepEnd, nodeRet_error] at hC
    have HC := hide hC
    clear hC h1 h hF hR
    go_enter Tryz.func113, Tryz.ntmps113
    go_wp2_with fail
    refine (unhide HC).mono ?_
    rintro e w2 ⟨rfl, h2⟩
    obtain ⟨y0, y1, y2, y3, y4, y5, r0, r1, r2, r3, r4, r5⟩ := h2.six (b := B) (.head _)
    have hlt : B < w2.heap.size := World.block_lt_of_cell? _ _ y0
    have H2 := hide h2
    clear h2 HC hB
    go_wp2
    have h5 := ((unhide H2).putsix [] (.int .i64 0) (.int .i64 0) (.int .i64 0) (.int .i64 0) (.string ⟨#[]⟩) (.pointer none)).made 80 [.int .i64 0, .int .i64 0, .int .i64 0, .int .i64 0, .string ⟨#[]⟩, .pointer none]
    refine bodyPost_ret (results_node (p := 4) (u := 5) rfl _ _ B _ _ _ _ _ _ rfl rfl (h5.heapAt (t := 80) (.tail _ (.head _)))) rfl ?_
    exact ⟨by rw [unhide Hfp]; rfl, (h5.forget []).forget []⟩
  | ok x =>
    simp only [StepEnd, nodeRet_ok] at hC
    have HC := hide hC
    clear hC h1 h hF hR
    by_cases hx : x.kind = 2
    · have hx1 : (x.kind == 2) = true := by simp [hx]
      have Hfp2 : Hid (fileP N F s = .ok x) := (unhide Hfp).trans (by show (if x.kind ≠ 2 then _ else _) = _; rw [if_neg (by rw [hx]; simp)])
      clear hx Hfp
      go_enter Tryz.func113, Tryz.ntmps113
      go_wp2_with fail
      refine (unhide HC).mono ?_
      rintro e w2 ⟨rfl, h2⟩
      obtain ⟨y0, y1, y2, y3, y4, y5, r0, r1, r2, r3, r4, r5⟩ := h2.six (b := B) (.head _)
      have hlt : B < w2.heap.size := World.block_lt_of_cell? _ _ y0
      have H2 := hide h2
      clear h2 HC hB
      go_wp2
      have h5 := ((unhide H2).putsix [] (.int .i64 x.id) (.int .i64 x.kind) (.int .i64 x.up) (.int .i64 x.links) (.string x.text) (.pointer x.ptr)).made 80 [.int .i64 x.id, .int .i64 x.kind, .int .i64 x.up, .int .i64 x.links, .string x.text, .pointer x.ptr]
      refine bodyPost_ret (results_node (p := 4) (u := 5) rfl _ _ B _ _ _ _ _ _ rfl rfl (h5.heapAt (t := 80) (.tail _ (.head _)))) rfl ?_
      exact ⟨by rw [unhide Hfp2]; rfl, (h5.forget []).forget []⟩
    · have hx1 : (x.kind == 2) = false := by simp [hx]
      have Hfp2 : Hid (fileP N F s = .error 7) := (unhide Hfp).trans (by show (if x.kind ≠ 2 then _ else _) = _; rw [if_pos hx])
      clear hx Hfp
      go_enter Tryz.func113, Tryz.ntmps113
      go_wp2_with fail
      refine (unhide HC).mono ?_
      rintro e w2 ⟨rfl, h2⟩
      obtain ⟨y0, y1, y2, y3, y4, y5, r0, r1, r2, r3, r4, r5⟩ := h2.six (b := B) (.head _)
      have hlt : B < w2.heap.size := World.block_lt_of_cell? _ _ y0
      have H2 := hide h2
      clear h2 HC hB
      go_wp2
      have h5 := ((unhide H2).putsix [] (.int .i64 0) (.int .i64 0) (.int .i64 0) (.int .i64 0) (.string ⟨#[]⟩) (.pointer none)).made 80 [.int .i64 x.id, .int .i64 x.kind, .int .i64 x.up, .int .i64 x.links, .string x.text, .pointer x.ptr]
      refine bodyPost_ret (results_node (p := 4) (u := 5) rfl _ _ B _ _ _ _ _ _ rfl rfl (h5.heapAt (t := 80) (.tail _ (.head _)))) rfl ?_
      exact ⟨by rw [unhide Hfp2]; rfl, (h5.forget []).forget []⟩

end Go.Proofs.YtjpmomklkkifjaaGreatDoor.T
