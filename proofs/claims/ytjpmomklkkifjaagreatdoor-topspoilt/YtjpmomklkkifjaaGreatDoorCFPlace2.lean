import Derived.Test.YtjpmomklkkifjaaGreatDoorCFWalk
import Derived.Test.YtjpmomklkkifjaaGreatDoorCBTreeDrop
set_option maxRecDepth 100000
set_option linter.unusedVariables false
set_option linter.unusedSimpArgs false
namespace Go.Proofs.YtjpmomklkkifjaaGreatDoor.T
open Go.RowKit
structure PL where
  v : NV
  key : ByteArray
  name : ByteArray
def PL.val (p : PL) : Value := .agg #[.int .i64 p.v.id, .int .i64 p.v.kind, .int .i64 p.v.up, .int .i64 p.v.links, .string p.v.text, .pointer p.v.ptr, .string p.key, .string p.name]
def PL.zero : PL := ⟨NV.zero, ⟨#[]⟩, ⟨#[]⟩⟩
variable (w0 w : World) (fb mb : Nat) (N : List NV) (F : Forest) (next : Int) (l2 : List Res)
theorem results_entry {fn : Func} {p u : Tmp} (h : fn.results = #[.cell p 38, .tmp u]) (tmps : Array Value) (w : World) (g : Nat) (a b : Value) {v : Value}
    (hp : tmps.getD p undef = .pointer (some ⟨g, 0, none⟩)) (hu2 : tmps.getD u undef = v) (hg : w.heap[g]? = some (.cells #[a, b] 38 (0, 0))) :
    (results fn tmps).run Tryz.prog w = .ok (.tuple #[.agg #[a, b], v]) w := results_two h tmps w g 38 a b hp hu2 hg
set_option maxHeartbeats 1000000 in
theorem pget_calls (h : FSIn w0 w fb mb N F next l2) (p : PL) (tb : Nat) (htb : p.v.tb = some tb) (ht : tb ∈ F.map (·.1)) :
    Calls Tryz.prog 62 #[p.val] w fun e w' => e = .returned (getV (getL (lookF F tb) p.key)) ∧ FSIn w0 w' fb mb N F next l2 := by
  have hvp : p.v.ptr = some ⟨tb, 0, none⟩ := by unfold NV.ptr; rw [htb]; rfl
  obtain ⟨B, hB⟩ : ∃ B, w.heap.size = B := ⟨_, rfl⟩
  have h1 := (h.made 96 [.int .i64 p.v.id, .int .i64 p.v.kind, .int .i64 p.v.up, .int .i64 p.v.links, .string p.v.text, .pointer (some ⟨tb, 0, none⟩), .string p.key, .string p.name]).made 38 [.string ⟨#[]⟩, .int .i64 0]
  have hz : (w.alloc (.cells [.int .i64 p.v.id, .int .i64 p.v.kind, .int .i64 p.v.up, .int .i64 p.v.links, .string p.v.text, .pointer (some ⟨tb, 0, none⟩), .string p.key, .string p.name].toArray 96)).heap.size = B + 1 := by simp [hB]
  rw [hz, hB] at h1
  obtain ⟨rest, hT, hback⟩ := h1.treeSame ht
  have hG := get_calls _ _ _ _ tb _ rest p.key hT
  simp only [GetEnd, getV_eq] at hG ⊢
  obtain ⟨nm, hnm⟩ : ∃ nm, getN (getL (lookF F tb) p.key) = nm := ⟨_, rfl⟩
  obtain ⟨nd, hni⟩ : ∃ nd, getI (getL (lookF F tb) p.key) = nd := ⟨_, rfl⟩
  obtain ⟨bb, hbb⟩ : ∃ bb, (getL (lookF F tb) p.key).isSome = bb := ⟨_, rfl⟩
  rw [hnm, hni, hbb] at hG ⊢
  have HG := hide hG
  have Hb := hide hback
  unfold PL.val
  rw [hvp]
  clear hnm hni hbb hG hback hvp htb h1 hT hz h
  go_enter Tryz.func62, Tryz.ntmps62
  go_wp2_with fail
  refine (unhide HG).mono ?_
  rintro e w2 ⟨rfl, hT2⟩
  have h2 := unhide Hb _ hT2
  obtain ⟨e0, e1, g0, g1⟩ := h2.two (b := B + 1) (.head _)
  have H2 := hide h2
  clear h2 hT2 HG Hb hB
  go_wp2
  have h5 := (unhide H2).puttwo [] (.string nm) (.int .i64 nd)
  refine bodyPost_ret (results_entry (p := 2) (u := 3) rfl _ _ (B + 1) _ _ rfl rfl (h5.heapAt (t := 38) (.head _))) rfl ?_
  exact ⟨rfl, (h5.forget []).forget []⟩
set_option maxHeartbeats 1000000 in
theorem pput_calls (h : FSIn w0 w fb mb N F next l2) (p : PL) (id : Int) (tb : Nat) (htb : p.v.tb = some tb) (ht : tb ∈ F.map (·.1)) (hk : p.key.toList.isEmpty = false) :
    Calls Tryz.prog 106 #[p.val, .int .i64 id] w fun e w' => e = .returned (.tuple #[]) ∧ FSIn w0 w' fb mb N (setF F tb (putL (lookF F tb) ⟨p.key, p.name, id⟩)) next l2 := by
  have hvp : p.v.ptr = some ⟨tb, 0, none⟩ := by unfold NV.ptr; rw [htb]; rfl
  obtain ⟨B, hB⟩ : ∃ B, w.heap.size = B := ⟨_, rfl⟩
  have h1 := h.made 96 [.int .i64 p.v.id, .int .i64 p.v.kind, .int .i64 p.v.up, .int .i64 p.v.links, .string p.v.text, .pointer (some ⟨tb, 0, none⟩), .string p.key, .string p.name]
  rw [hB] at h1
  obtain ⟨rest, hT, hback⟩ := h1.tree ht
  have hG := treePut_calls _ _ _ _ tb _ ⟨p.key, p.name, id⟩ rest hT hk
  simp only [TreePutEnd] at hG
  have HG := hide hG
  have Hb := hide hback
  unfold PL.val
  rw [hvp]
  clear hG hback hvp htb h1 hT h hk
  go_enter Tryz.func106, Tryz.ntmps106
  go_wp2_with fail
  refine (unhide HG).mono ?_
  rintro e w2 ⟨rfl, hT2⟩
  have h2 := unhide Hb _ _ hT2
  have H2 := hide h2
  clear h2 hT2 HG Hb hB
  go_wp2
  go_end0
  exact ⟨rfl, (unhide H2).forget []⟩
set_option maxHeartbeats 1000000 in
theorem pdrop_calls (h : FSIn w0 w fb mb N F next l2) (p : PL) (tb : Nat) (htb : p.v.tb = some tb) (ht : tb ∈ F.map (·.1)) :
    Calls Tryz.prog 108 #[p.val] w fun e w' => e = .returned (.tuple #[]) ∧ FSIn w0 w' fb mb N (setF F tb (dropL (lookF F tb) p.key)) next l2 := by
  have hvp : p.v.ptr = some ⟨tb, 0, none⟩ := by unfold NV.ptr; rw [htb]; rfl
  obtain ⟨B, hB⟩ : ∃ B, w.heap.size = B := ⟨_, rfl⟩
  have h1 := h.made 96 [.int .i64 p.v.id, .int .i64 p.v.kind, .int .i64 p.v.up, .int .i64 p.v.links, .string p.v.text, .pointer (some ⟨tb, 0, none⟩), .string p.key, .string p.name]
  rw [hB] at h1
  obtain ⟨rest, hT, hback⟩ := h1.tree ht
  have hG := treeDrop_calls _ _ _ _ tb _ rest p.key hT
  simp only [TreeDropEnd] at hG
  obtain ⟨bb, hbb⟩ : ∃ bb, (getL (lookF F tb) p.key).isSome = bb := ⟨_, rfl⟩
  rw [hbb] at hG
  have HG := hide hG
  have Hb := hide hback
  unfold PL.val
  rw [hvp]
  clear hG hback hvp htb h1 hT h hbb
  go_enter Tryz.func108, Tryz.ntmps108
  go_wp2_with fail
  refine (unhide HG).mono ?_
  rintro e w2 ⟨rfl, hT2⟩
  have h2 := unhide Hb _ _ hT2
  have H2 := hide h2
  clear h2 hT2 HG Hb hB
  go_wp2
  go_end0
  exact ⟨rfl, (unhide H2).forget []⟩
theorem psame_calls (p q : PL) :
    Calls Tryz.prog 63 #[p.val, q.val] w fun e w' => e = .returned (.bool (p.v.id == q.v.id && p.key.toList == q.key.toList)) ∧ Below w.heap.size w w' := by
  unfold PL.val
  generalize p.v.ptr = pp
  generalize q.v.ptr = qp
  cases hi : (p.v.id == q.v.id) with
  | false =>
    go_enter Tryz.func63, Tryz.ntmps63
    go_wp2
    go_ret
    exact ⟨rfl, ((Below.refl _ _).alloc (Nat.le_refl _) _).alloc (by simp) _⟩
  | true =>
    go_enter Tryz.func63, Tryz.ntmps63
    go_wp2
    go_ret
    exact ⟨by simp, ((Below.refl _ _).alloc (Nat.le_refl _) _).alloc (by simp) _⟩
noncomputable def fileP (N : List NV) (F : Forest) (s : ByteArray) : Except Int NV :=
  match findP N F s with | .error k => .error k | .ok v => if v.kind ≠ 2 then .error 7 else .ok v
set_option maxHeartbeats 1000000 in
theorem file_calls (hR : Ready w0) (h : FSIn w0 w fb mb N F next l2) (hF : Fits N F next) (s : ByteArray) (hs : s.size ≤ 4000000000) :
    Calls Tryz.prog 113 #[.pointer (some ⟨fb, 0, none⟩), .string s] w fun e w' => StepEnd w0 fb mb N F next l2 (fileP N F s) e w' := by
  obtain ⟨B, hB⟩ : ∃ B, w.heap.size = B := ⟨_, rfl⟩
  have h1 := h.made 80 [.int .i64 0, .int .i64 0, .int .i64 0, .int .i64 0, .string ⟨#[]⟩, .pointer none]
  rw [hB] at h1
  have hC := ffind_calls w0 _ fb mb N F next _ hR h1 hF s hs
  have Hfp : Hid (fileP N F s = match findP N F s with | .error k => .error k | .ok v => if v.kind ≠ 2 then .error 7 else .ok v) := rfl
  generalize findP N F s = r at hC Hfp
  cases r with
  | error k =>
    simp only [StepEnd, nodeRet_error] at hC
    have HC := hide hC
    clear hC h1 h hF hR
    go_enter Tryz.func113, Tryz.ntmps113
    go_wp2_with fail
    refine (unhide HC).mono ?_
    rintro e w2 ⟨rfl, h2⟩
    obtain ⟨y0, y1, y2, y3, y4, y5, r0, r1, r2, r3, r4, r5⟩ := h2.six (b := B) (.head _)
    have hlt : B < w2.heap.size := World.block_lt_of_cell? _ _ y0
    have H2 := hide h2
    clear h2 HC hB
    go_wp2
    have h5 := ((unhide H2).putsix [] (.int .i64 0) (.int .i64 0) (.int .i64 0) (.int .i64 0) (.string ⟨#[]⟩) (.pointer none)).made 80 [.int .i64 0, .int .i64 0, .int .i64 0, .int .i64 0, .string ⟨#[]⟩, .pointer none]
    refine bodyPost_ret (results_node (p := 4) (u := 5) rfl _ _ B _ _ _ _ _ _ rfl rfl (h5.heapAt (t := 80) (.tail _ (.head _)))) rfl ?_
    exact ⟨by rw [unhide Hfp]; rfl, (h5.forget []).forget []⟩
  | ok x =>
    simp only [StepEnd, nodeRet_ok] at hC
    have HC := hide hC
    clear hC h1 h hF hR
    by_cases hx : x.kind = 2
    · have hx1 : (x.kind == 2) = true := by simp [hx]
      have Hfp2 : Hid (fileP N F s = .ok x) := (unhide Hfp).trans (by show (if x.kind ≠ 2 then _ else _) = _; rw [if_neg (by rw [hx]; simp)])
      clear hx Hfp
      go_enter Tryz.func113, Tryz.ntmps113
      go_wp2_with fail
      refine (unhide HC).mono ?_
      rintro e w2 ⟨rfl, h2⟩
      obtain ⟨y0, y1, y2, y3, y4, y5, r0, r1, r2, r3, r4, r5⟩ := h2.six (b := B) (.head _)
      have hlt : B < w2.heap.size := World.block_lt_of_cell? _ _ y0
      have H2 := hide h2
      clear h2 HC hB
      go_wp2
      have h5 := ((unhide H2).putsix [] (.int .i64 x.id) (.int .i64 x.kind) (.int .i64 x.up) (.int .i64 x.links) (.string x.text) (.pointer x.ptr)).made 80 [.int .i64 x.id, .int .i64 x.kind, .int .i64 x.up, .int .i64 x.links, .string x.text, .pointer x.ptr]
      refine bodyPost_ret (results_node (p := 4) (u := 5) rfl _ _ B _ _ _ _ _ _ rfl rfl (h5.heapAt (t := 80) (.tail _ (.head _)))) rfl ?_
      exact ⟨by rw [unhide Hfp2]; rfl, (h5.forget []).forget []⟩
    · have hx1 : (x.kind == 2) = false := by simp [hx]
      have Hfp2 : Hid (fileP N F s = .error 7) := (unhide Hfp).trans (by show (if x.kind ≠ 2 then _ else _) = _; rw [if_pos hx])
      clear hx Hfp
      go_enter Tryz.func113, Tryz.ntmps113
      go_wp2_with fail
      refine (unhide HC).mono ?_
      rintro e w2 ⟨rfl, h2⟩
      obtain ⟨y0, y1, y2, y3, y4, y5, r0, r1, r2, r3, r4, r5⟩ := h2.six (b := B) (.head _)
      have hlt : B < w2.heap.size := World.block_lt_of_cell? _ _ y0
      have H2 := hide h2
      clear h2 HC hB
      go_wp2
      have h5 := ((unhide H2).putsix [] (.int .i64 0) (.int .i64 0) (.int .i64 0) (.int .i64 0) (.string ⟨#[]⟩) (.pointer none)).made 80 [.int .i64 x.id, .int .i64 x.kind, .int .i64 x.up, .int .i64 x.links, .string x.text, .pointer x.ptr]
      refine bodyPost_ret (results_node (p := 4) (u := 5) rfl _ _ B _ _ _ _ _ _ rfl rfl (h5.heapAt (t := 80) (.tail _ (.head _)))) rfl ?_
      exact ⟨by rw [unhide Hfp2]; rfl, (h5.forget []).forget []⟩
end Go.Proofs.YtjpmomklkkifjaaGreatDoor.T
namespace Go.Proofs.YtjpmomklkkifjaaGreatDoor.T
open Go.RowKit
noncomputable def placeP (N : List NV) (F : Forest) (s : ByteArray) : Except Int PL :=
  match partsP s with
  | .error k => .error k
  | .ok [] => .error 3
  | .ok (p :: l) =>
    if dotsB ((p :: l).getLast (by simp)) = true then .error 3
    else match walkP N F (atN N 1) ((p :: l).take l.length) with
      | .error k => .error k
      | .ok u => if u.kind ≠ 1 then .error 7 else .ok ⟨u, keyS ((p :: l).getLast (by simp)), (p :: l).getLast (by simp)⟩
def resP : Except Int PL → PL
  | .ok v => v
  | .error _ => PL.zero
def resPE : Except Int PL → Option Int
  | .ok _ => none
  | .error k => some k
def placeRet (r : Except Int PL) : Value := .tuple #[(resP r).val, errV (resPE r)]
theorem placeRet_ok (p : PL) : placeRet (.ok p) = .tuple #[.agg #[.int .i64 p.v.id, .int .i64 p.v.kind, .int .i64 p.v.up, .int .i64 p.v.links, .string p.v.text, .pointer p.v.ptr, .string p.key, .string p.name], .nilIface] := rfl
theorem placeRet_error (k : Int) : placeRet (.error k) = .tuple #[.agg #[.int .i64 0, .int .i64 0, .int .i64 0, .int .i64 0, .string ⟨#[]⟩, .pointer none, .string ⟨#[]⟩, .string ⟨#[]⟩], .iface 86 (.int .i64 k)] := rfl
variable (w0 w : World) (fb mb : Nat) (N : List NV) (F : Forest) (next : Int) (l2 : List Res)
def PlaceEnd (r : Except Int PL) (e : Ending) (w' : World) : Prop := e = .returned (placeRet r) ∧ FSIn w0 w' fb mb N F next l2
set_option maxHeartbeats 4000000 in
theorem place_calls (hR : Ready w0) (h : FSIn w0 w fb mb N F next l2) (hF : Fits N F next) (s : ByteArray) (hs : s.size ≤ 4000000000) :
    Calls Tryz.prog 60 #[.pointer (some ⟨fb, 0, none⟩), .string s] w fun e w' => PlaceEnd w0 fb mb N F next l2 (placeP N F s) e w' := by
  obtain ⟨B, hB⟩ : ∃ B, w.heap.size = B := ⟨_, rfl⟩
  have h1 := h.made 96 [.int .i64 0, .int .i64 0, .int .i64 0, .int .i64 0, .string ⟨#[]⟩, .pointer none, .string ⟨#[]⟩, .string ⟨#[]⟩]
  rw [hB] at h1
  have hP := parts_calls s _ (h1.ready hR) hs
  obtain ⟨q, hq⟩ : ∃ q, placeP N F s = q := ⟨_, rfl⟩
  have Hfp := hide hq
  have Hpo : Hid (∀ l, partsP s = .ok l → (∀ p ∈ l, PartOk p) ∧ l.length ≤ 6) := fun l hl => parts_ok hl
  rw [hq]
  have H1 := hide h1
  have HF := hide hF
  have HR := hide hR
  clear h1 h hF hR hq
  unfold PartsEnd at hP
  unfold placeP at Hfp
  cases hr : partsP s with
  | error k =>
    rw [hr] at hP Hfp
    have hq2 : q = .error k := (unhide Hfp).symm
    subst hq2
    have HP := hide hP
    clear hP hr Hpo Hfp
    go_enter Tryz.func60, Tryz.ntmps60
    go_wp2_with fail
    refine (unhide HP).mono ?_
    rintro e w2 ⟨hb2, rfl⟩
    have h2 := (unhide H1).step hb2
    obtain ⟨y0, y1, y2, y3, y4, y5, y6, y7, r0, r1, r2, r3, r4, r5, r6, r7⟩ := h2.eight (b := B) (.head _)
    have H2 := hide h2
    clear h2 hb2 H1 HP hB
    go_wp2
    have h5 := (unhide H2).puteight [] (.int .i64 0) (.int .i64 0) (.int .i64 0) (.int .i64 0) (.string ⟨#[]⟩) (.pointer none) (.string ⟨#[]⟩) (.string ⟨#[]⟩)
    refine bodyPost_ret (results_place (p := 4) (u := 5) rfl _ _ B _ _ _ _ _ _ _ _ rfl rfl (h5.heapAt (t := 96) (.head _))) rfl ?_
    exact ⟨rfl, h5.forget []⟩
  | ok l =>
    rw [hr] at hP Hfp
    obtain ⟨hpo, hle⟩ := unhide Hpo l hr
    have Hpo2 := hide hpo
    clear hpo Hpo hr
    cases l with
    | nil =>
      have hq2 : q = .error 3 := (unhide Hfp).symm
      subst hq2
      have HP := hide hP
      clear hP Hfp
      go_enter Tryz.func60, Tryz.ntmps60
      go_wp2_with fail
      refine (unhide HP).mono ?_
      rintro e w2 ⟨hb2, rfl⟩
      have h2 := (unhide H1).step hb2
      obtain ⟨y0, y1, y2, y3, y4, y5, y6, y7, r0, r1, r2, r3, r4, r5, r6, r7⟩ := h2.eight (b := B) (.head _)
      have H2 := hide h2
      clear h2 hb2 H1 HP hB
      go_wp2
      have h5 := (unhide H2).puteight [] (.int .i64 0) (.int .i64 0) (.int .i64 0) (.int .i64 0) (.string ⟨#[]⟩) (.pointer none) (.string ⟨#[]⟩) (.string ⟨#[]⟩)
      refine bodyPost_ret (results_place (p := 4) (u := 5) rfl _ _ B _ _ _ _ _ _ _ _ rfl rfl (h5.heapAt (t := 96) (.head _))) rfl ?_
      exact ⟨rfl, h5.forget []⟩
    | cons p l =>
      obtain ⟨last, hlast⟩ : ∃ last, (p :: l).getLast (by simp) = last := ⟨_, rfl⟩
      have Hfp2 : Hid ((if dotsB last = true then (.error 3 : Except Int PL) else match walkP N F (atN N 1) ((p :: l).take l.length) with
        | .error k => .error k
        | .ok u => if u.kind ≠ 1 then .error 7 else .ok ⟨u, keyS last, last⟩) = q) := by have := unhide Hfp; rw [← hlast]; exact this
      have hlok : PartOk last := unhide Hpo2 last (by rw [← hlast]; exact List.getLast_mem _)
      have hcell : (p :: l)[l.length]? = some last := by
        have h8 : (p :: l)[(p :: l).length - 1]'(by simp) = last := by rw [← hlast, List.getLast_eq_getElem]
        rw [← h8]
        simp
      have HP := hide hP
      have Hcell := hide hcell
      clear hP Hfp hcell
      obtain ⟨m, hm⟩ : ∃ m, l.length = m := ⟨_, rfl⟩
      have hm6 : m ≤ 5 := by simp at hle; omega
      have Hm := hide hm
      have hmz : ((m : Int) + 1 - 1) = (m : Int) := by omega
      clear hle hm hlast
      cases h46 : (last.toList == [46]) with
      | true =>
        have hq2 : q = .error 3 := (unhide Hfp2).symm.trans (by rw [if_pos (by unfold dotsB; rw [h46]; rfl)])
        subst hq2
        clear Hfp2
        go_enter Tryz.func60, Tryz.ntmps60
        go_wp2_with fail
        refine (unhide HP).mono ?_
        rintro e w2 ⟨hb2, b, rfl, hb, hrow⟩
        have h2 := (unhide H1).found hb2 hb hrow
        obtain ⟨y0, y1, y2, y3, y4, y5, y6, y7, r0, r1, r2, r3, r4, r5, r6, r7⟩ := h2.eight (b := B) (.tail _ (.head _))
        have c0 : w2.cell? ⟨b, m, none⟩ = some (.string last) := h2.cellAt (t := 9) (.head _) (by rw [← unhide Hm, List.getElem?_map, unhide Hcell]; rfl)
        rw [unhide Hm]
        clear hb2 hb hrow H1 HP hB
        have H2 := hide h2
        clear h2
        go_wp2
        have h5 := (unhide H2).puteight [_] (.int .i64 0) (.int .i64 0) (.int .i64 0) (.int .i64 0) (.string ⟨#[]⟩) (.pointer none) (.string ⟨#[]⟩) (.string ⟨#[]⟩)
        refine bodyPost_ret (results_place (p := 4) (u := 5) rfl _ _ B _ _ _ _ _ _ _ _ rfl rfl (h5.heapAt (t := 96) (.tail _ (.head _)))) rfl ?_
        exact ⟨rfl, (h5.forget []).forget []⟩
      | false =>
        cases h47 : (last.toList == [46, 46]) with
        | true =>
          have hq2 : q = .error 3 := (unhide Hfp2).symm.trans (by rw [if_pos (by unfold dotsB; rw [h46, h47]; rfl)])
          subst hq2
          clear Hfp2
          go_enter Tryz.func60, Tryz.ntmps60
          go_wp2_with fail
          refine (unhide HP).mono ?_
          rintro e w2 ⟨hb2, b, rfl, hb, hrow⟩
          have h2 := (unhide H1).found hb2 hb hrow
          obtain ⟨y0, y1, y2, y3, y4, y5, y6, y7, r0, r1, r2, r3, r4, r5, r6, r7⟩ := h2.eight (b := B) (.tail _ (.head _))
          have c0 : w2.cell? ⟨b, m, none⟩ = some (.string last) := h2.cellAt (t := 9) (.head _) (by rw [← unhide Hm, List.getElem?_map, unhide Hcell]; rfl)
          rw [unhide Hm]
          clear hb2 hb hrow H1 HP hB
          have H2 := hide h2
          clear h2
          go_wp2
          have h5 := (unhide H2).puteight [_] (.int .i64 0) (.int .i64 0) (.int .i64 0) (.int .i64 0) (.string ⟨#[]⟩) (.pointer none) (.string ⟨#[]⟩) (.string ⟨#[]⟩)
          refine bodyPost_ret (results_place (p := 4) (u := 5) rfl _ _ B _ _ _ _ _ _ _ _ rfl rfl (h5.heapAt (t := 96) (.tail _ (.head _)))) rfl ?_
          exact ⟨rfl, (h5.forget []).forget []⟩
        | false =>
          have hdd : dotsB last = false := by unfold dotsB; rw [h46, h47]; rfl
          have hck : checkP last = none := by
            rcases hlok with hh | hh
            · rw [hdd] at hh; cases hh
            · exact hh
          have Hck := hide hck
          have Hfp3 := hide ((unhide Hfp2).symm.trans (by rw [if_neg (by rw [hdd]; simp)]))
          clear Hfp2 hdd hck hlok
          go_enter Tryz.func60, Tryz.ntmps60
          go_wp2_with fail
          refine (unhide HP).mono ?_
          rintro e w2 ⟨hb2, b, rfl, hb, hrow⟩
          have h2 := (unhide H1).found hb2 hb hrow
          obtain ⟨y0, y1, y2, y3, y4, y5, y6, y7, r0, r1, r2, r3, r4, r5, r6, r7⟩ := h2.eight (b := B) (.tail _ (.head _))
          have c0 : w2.cell? ⟨b, m, none⟩ = some (.string last) := h2.cellAt (t := 9) (.head _) (by rw [← unhide Hm, List.getElem?_map, unhide Hcell]; rfl)
          rw [unhide Hm]
          clear hb2 hb hrow H1 HP hB
          have hC := walk_calls w0 w2 fb mb N F next _ (unhide HR) h2 (unhide HF) (some ⟨b, 0, none⟩) m (m + 1) ((p :: l).take m) (by rw [List.length_take, List.length_cons, unhide Hm]; omega) (by omega) (.inr ⟨b, m + 1, p :: l, by rw [List.length_take, List.length_cons, unhide Hm, Nat.min_eq_left (by omega)], by rw [List.length_take, List.length_cons, unhide Hm, Nat.min_eq_left (by omega)], .head _⟩) (fun x hx => unhide Hpo2 x (List.mem_of_mem_take hx))
          rw [unhide Hm] at Hfp3
          have HC := hide hC
          clear hC
          generalize walkP N F (atN N 1) ((p :: l).take m) = r at HC Hfp3
          cases r with
          | error k =>
            have hq2 : q = .error k := unhide Hfp3
            subst hq2
            simp only [StepEnd, nodeRet_error] at HC
            clear Hfp3 h2
            go_wp2_with fail
            refine (unhide HC).mono ?_
            rintro e w3 ⟨rfl, h3⟩
            clear y0 y1 y2 y3 y4 y5 y6 y7 r0 r1 r2 r3 r4 r5 r6 r7 c0
            obtain ⟨y0, y1, y2, y3, y4, y5, y6, y7, r0, r1, r2, r3, r4, r5, r6, r7⟩ := h3.eight (b := B) (.tail _ (.head _))
            have hlt : B < w3.heap.size := World.block_lt_of_cell? _ _ y0
            have H3 := hide h3
            clear h3 HC
            go_wp2
            have h5 := ((unhide H3).puteight [_] (.int .i64 0) (.int .i64 0) (.int .i64 0) (.int .i64 0) (.string ⟨#[]⟩) (.pointer none) (.string ⟨#[]⟩) (.string ⟨#[]⟩)).made 80 [.int .i64 0, .int .i64 0, .int .i64 0, .int .i64 0, .string ⟨#[]⟩, .pointer none]
            refine bodyPost_ret (results_place (p := 4) (u := 5) rfl _ _ B _ _ _ _ _ _ _ _ rfl rfl (h5.heapAt (t := 96) (.tail _ (.tail _ (.head _))))) rfl ?_
            exact ⟨rfl, ((h5.forget []).forget []).forget []⟩
          | ok u =>
            simp only [StepEnd, nodeRet_ok] at HC
            have hfo := fun wx => folder_calls u wx
            by_cases hk : u.kind = 1
            · have hq2 : q = .ok ⟨u, keyS last, last⟩ := (unhide Hfp3).trans (by show (if u.kind ≠ 1 then _ else _) = _; rw [if_neg (by rw [hk]; simp)])
              subst hq2
              rw [show (u.kind == 1) = true by simp [hk]] at hfo
              unfold NV.val at hfo
              have Hfo := hide hfo
              clear Hfp3 h2 hk hfo
              go_wp2_with fail
              refine (unhide HC).mono ?_
              rintro e w3 ⟨rfl, h3⟩
              have H4 := hide (h3.made 80 [.int .i64 u.id, .int .i64 u.kind, .int .i64 u.up, .int .i64 u.links, .string u.text, .pointer u.ptr])
              clear y0 y1 y2 y3 y4 y5 y6 y7 r0 r1 r2 r3 r4 r5 r6 r7 c0 HC h3
              go_wp2_with fail
              refine (unhide Hfo _).mono ?_
              rintro e w4 ⟨rfl, hb4⟩
              have h4 := (unhide H4).step hb4
              obtain ⟨G, hG⟩ : ∃ G, w3.heap.size = G := ⟨_, rfl⟩
              rw [hG] at h4 ⊢
              obtain ⟨y0, y1, y2, y3, y4, y5, y6, y7, r0, r1, r2, r3, r4, r5, r6, r7⟩ := h4.eight (b := B) (.tail _ (.tail _ (.head _)))
              obtain ⟨z0, z1, z2, z3, z4, z5, _⟩ := h4.six (b := G) (.head _)
              have c0 : w4.cell? ⟨b, m, none⟩ = some (.string last) := h4.cellAt (t := 9) (.tail _ (.head _)) (by rw [← unhide Hm, List.getElem?_map, unhide Hcell]; rfl)
              have hK := key_calls (unhide Hck) w4.drew (h4.drew.ready (unhide HR))
              have HK := hide hK
              have H5 := hide h4
              clear hK h4 hb4 H4 hG
              go_wp2_with fail
              go_region_with (go_at_call 54; refine (unhide HK).mono ?_; rintro e w5 ⟨rfl, hb5⟩; have h5 := (unhide H5).drew.step hb5; obtain ⟨a0, a1, a2, a3, a4, a5, a6, a7, d0, d1, d2, d3, d4, d5, d6, d7⟩ := h5.eight (b := B) (.tail _ (.tail _ (.head _))); obtain ⟨x0, x1, x2, x3, x4, x5, _⟩ := h5.six (b := G) (.head _); have c1 : w5.cell? ⟨b, m, none⟩ = some (.string last) := h5.cellAt (t := 9) (.tail _ (.head _)) (by rw [← unhide Hm, List.getElem?_map, unhide Hcell]; rfl); have H6 := hide h5; clear h5 hb5)
              all_goals go_wp2_with fail
              all_goals
                have h6 := (unhide H6).puteight [_, _] (.int .i64 u.id) (.int .i64 u.kind) (.int .i64 u.up) (.int .i64 u.links) (.string u.text) (.pointer u.ptr) (.string (keyS last)) (.string last)
                refine bodyPost_ret (results_place (p := 4) (u := 5) rfl _ _ B _ _ _ _ _ _ _ _ rfl rfl (h6.heapAt (t := 96) (.tail _ (.tail _ (.head _))))) rfl ?_
                exact ⟨rfl, ((h6.forget []).forget []).forget []⟩
            · have hq2 : q = .error 7 := (unhide Hfp3).trans (by show (if u.kind ≠ 1 then _ else _) = _; rw [if_pos hk])
              subst hq2
              rw [show (u.kind == 1) = false by simp [hk]] at hfo
              unfold NV.val at hfo
              have Hfo := hide hfo
              clear Hfp3 h2 hk hfo
              go_wp2_with fail
              refine (unhide HC).mono ?_
              rintro e w3 ⟨rfl, h3⟩
              have H4 := hide (h3.made 80 [.int .i64 u.id, .int .i64 u.kind, .int .i64 u.up, .int .i64 u.links, .string u.text, .pointer u.ptr])
              clear y0 y1 y2 y3 y4 y5 y6 y7 r0 r1 r2 r3 r4 r5 r6 r7 c0 HC h3
              go_wp2_with fail
              refine (unhide Hfo _).mono ?_
              rintro e w4 ⟨rfl, hb4⟩
              have h4 := (unhide H4).step hb4
              obtain ⟨y0, y1, y2, y3, y4, y5, y6, y7, r0, r1, r2, r3, r4, r5, r6, r7⟩ := h4.eight (b := B) (.tail _ (.tail _ (.head _)))
              have H5 := hide h4
              clear h4 hb4 H4
              go_wp2
              have h5 := (unhide H5).puteight [_, _] (.int .i64 0) (.int .i64 0) (.int .i64 0) (.int .i64 0) (.string ⟨#[]⟩) (.pointer none) (.string ⟨#[]⟩) (.string ⟨#[]⟩)
              refine bodyPost_ret (results_place (p := 4) (u := 5) rfl _ _ B _ _ _ _ _ _ _ _ rfl rfl (h5.heapAt (t := 96) (.tail _ (.tail _ (.head _))))) rfl ?_
              exact ⟨rfl, ((h5.forget []).forget []).forget []⟩
end Go.Proofs.YtjpmomklkkifjaaGreatDoor.T
