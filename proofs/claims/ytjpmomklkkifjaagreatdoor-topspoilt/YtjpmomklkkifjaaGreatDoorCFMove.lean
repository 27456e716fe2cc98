import Derived.Test.YtjpmomklkkifjaaGreatDoorCFUnlink
set_option maxRecDepth 100000
set_option linter.unusedVariables false
set_option linter.unusedSimpArgs false
namespace Go.Proofs.YtjpmomklkkifjaaGreatDoor.T
open Go.RowKit
noncomputable def removeP (N : List NV) (F : Forest) (s : ByteArray) (folder : Bool) : Option Int × List NV × Forest := match takenP N F s with
  | .error k => (some k, N, F)
  | .ok (p, it) => match mayGoP N F it.node (if folder then 1 else 2) with
    | some k => (some k, N, F)
    | none => (none, unlinkN N it.node, dropF F p.tb p.key)
theorem taken_node {N : List NV} {F : Forest} {next : Int} (hF : Fits N F next) {s : ByteArray} {p : PL} {it : Item} (h : takenP N F s = .ok (p, it)) : 0 ≤ it.node ∧ it.node ≤ 999 := by
  obtain ⟨h1, h2⟩ := takenP_ok hF h
  obtain ⟨h3, h4⟩ := h1.tbs
  unfold entsOf at h2
  rw [h3] at h2
  exact hF.ents _ (lookF_in h4) it (List.mem_of_find?_eq_some h2)
theorem links_at {N : List NV} (hL : ∀ v ∈ N, 0 ≤ v.links ∧ v.links ≤ 1000000) (i : Int) : 0 ≤ (atN N i).links ∧ (atN N i).links ≤ 1000000 := by
  unfold atN
  cases hf : findN N i with
  | none => exact ⟨by simp [NV.zero], by simp [NV.zero]⟩
  | some v => exact hL v (findN_some hf).1
variable (w0 w : World) (fb mb : Nat) (N : List NV) (F : Forest) (next : Int) (l2 : List Res)
set_option maxHeartbeats 4000000 in
theorem remove_calls (hR : Ready w0) (h : FSIn w0 w fb mb N F next l2) (hF : Fits N F next) (hL : ∀ v ∈ N, 0 ≤ v.links ∧ v.links ≤ 1000000) (s : ByteArray) (hs : s.size ≤ 4000000000) (folder : Bool) :
    Calls Tryz.prog 76 #[.pointer (some ⟨fb, 0, none⟩), .string s, .bool folder] w fun e w' => e = .returned (errV (removeP N F s folder).1) ∧ FSIn w0 w' fb mb (removeP N F s folder).2.1 (removeP N F s folder).2.2 next l2 := by
  have hg := taken_calls w0 w fb mb N F next l2 hR h hF s hs
  unfold removeP
  have HN : Hid (N.length ≤ 1000) := by have := hF.few; show _ ≤ _; omega
  have Hpl : Hid (∀ p it, takenP N F s = .ok (p, it) → PlaceOk N F p ∧ 0 ≤ it.node ∧ it.node ≤ 999) := fun p it hp => ⟨(takenP_ok hF hp).1, taken_node hF hp⟩
  have HLk : Hid (∀ i, 0 ≤ (atN N i).links ∧ (atN N i).links ≤ 1000000) := links_at hL
  generalize takenP N F s = r at hg Hpl ⊢
  have HF := hide hF
  clear h hF hR hL
  cases r with
  | error k =>
    unfold TakenEnd at hg
    rw [show takenRet (.error k) = .tuple #[.agg #[.int .i64 0, .int .i64 0, .int .i64 0, .int .i64 0, .string ⟨#[]⟩, .pointer none, .string ⟨#[]⟩, .string ⟨#[]⟩], .agg #[.string ⟨#[]⟩, .int .i64 0], .iface 86 (.int .i64 k)] from rfl] at hg
    have HG := hide hg
    clear hg Hpl
    go_enter Tryz.func76, Tryz.ntmps76
    go_wp2_with fail
    refine (unhide HG).mono ?_
    rintro e w2 ⟨rfl, h2⟩
    have H3 := hide ((h2.made 96 [.int .i64 0, .int .i64 0, .int .i64 0, .int .i64 0, .string ⟨#[]⟩, .pointer none, .string ⟨#[]⟩, .string ⟨#[]⟩]).made 38 [.string ⟨#[]⟩, .int .i64 0])
    clear h2 HG
    go_wp2_with fail
    go_ret
    exact ⟨rfl, ((unhide H3).forget []).forget []⟩
  | ok pi =>
    obtain ⟨p, it⟩ := pi
    obtain ⟨hpo, hn0, hn1⟩ := unhide Hpl p it rfl
    obtain ⟨htb, htf⟩ := hpo.tbs
    have Hwf : Hid (WfI it.node) := wfI_of (by omega) (by omega)
    have Hlk := hide (unhide HLk it.node)
    have Htb := hide htb
    have Htf := hide htf
    clear hpo htb htf Hpl HLk
    have Hun : Hid (∀ wx l, FSIn w0 wx fb mb N F next l → Calls Tryz.prog 65 #[.pointer (some ⟨fb, 0, none⟩), .agg #[.int .i64 p.v.id, .int .i64 p.v.kind, .int .i64 p.v.up, .int .i64 p.v.links, .string p.v.text, .pointer p.v.ptr, .string p.key, .string p.name], .agg #[.string it.name, .int .i64 it.node]] wx fun e w' => e = .returned (.tuple #[]) ∧ FSIn w0 w' fb mb (unlinkN N it.node) (dropF F p.tb p.key) next l) := fun wx l hx => by
      have := unlink_calls w0 wx fb mb N F next l hx (unhide HN) p p.tb (unhide Htb) (unhide Htf) it.name it.node (unhide Hwf) (unhide Hlk)
      unfold PL.val at this
      exact this
    simp only [TakenEnd, takenRet, PL.val] at hg
    have HG := hide hg
    clear hg
    cases folder with
    | true =>
      simp only [if_true]
      have hm := fun (wx : World) (l : List Res) (hx : FSIn w0 wx fb mb N F next l) => mayGo_calls w0 wx fb mb N F next l hx (unhide HF) it.name it.node 1 (unhide Hwf)
      generalize mayGoP N F it.node 1 = r2 at hm ⊢
      cases r2 with
      | some k =>
        simp only [errV] at hm
        have HM := hide hm
        clear hm Hun
        go_enter Tryz.func76, Tryz.ntmps76
        go_wp2_with fail
        refine (unhide HG).mono ?_
        rintro e w2 ⟨rfl, h2⟩
        obtain ⟨C, hC⟩ : ∃ C, w2.heap.size = C := ⟨_, rfl⟩
        have h3 := (h2.made 96 [.int .i64 p.v.id, .int .i64 p.v.kind, .int .i64 p.v.up, .int .i64 p.v.links, .string p.v.text, .pointer p.v.ptr, .string p.key, .string p.name]).made 38 [.string it.name, .int .i64 it.node]
        have hz : (w2.alloc (.cells [.int .i64 p.v.id, .int .i64 p.v.kind, .int .i64 p.v.up, .int .i64 p.v.links, .string p.v.text, .pointer p.v.ptr, .string p.key, .string p.name].toArray 96)).heap.size = C + 1 := by simp [hC]
        rw [hz, hC] at h3
        obtain ⟨w3, hw3⟩ : ∃ w3, (w2.alloc (.cells [.int .i64 p.v.id, .int .i64 p.v.kind, .int .i64 p.v.up, .int .i64 p.v.links, .string p.v.text, .pointer p.v.ptr, .string p.key, .string p.name].toArray 96)).alloc (.cells [.string it.name, .int .i64 it.node].toArray 38) = w3 := ⟨_, rfl⟩
        rw [hw3] at h3
        have hm3 := unhide HM w3 _ h3
        obtain ⟨d0, d1, _⟩ := h3.two (b := C + 1) (.head _)
        have HM3 := hide hm3
        clear h2 hz HG hm3 h3 HM
        go_wp2_with fail
        refine (unhide HM3).mono ?_
        rintro e w4 ⟨rfl, h4⟩
        have H4 := hide h4
        clear h4 HM3
        go_wp2_with fail
        go_ret
        exact ⟨rfl, ((unhide H4).forget []).forget []⟩
      | none =>
        simp only [errV] at hm
        have HM := hide hm
        clear hm
        go_enter Tryz.func76, Tryz.ntmps76
        go_wp2_with fail
        refine (unhide HG).mono ?_
        rintro e w2 ⟨rfl, h2⟩
        obtain ⟨C, hC⟩ : ∃ C, w2.heap.size = C := ⟨_, rfl⟩
        have h3 := (h2.made 96 [.int .i64 p.v.id, .int .i64 p.v.kind, .int .i64 p.v.up, .int .i64 p.v.links, .string p.v.text, .pointer p.v.ptr, .string p.key, .string p.name]).made 38 [.string it.name, .int .i64 it.node]
        have hz : (w2.alloc (.cells [.int .i64 p.v.id, .int .i64 p.v.kind, .int .i64 p.v.up, .int .i64 p.v.links, .string p.v.text, .pointer p.v.ptr, .string p.key, .string p.name].toArray 96)).heap.size = C + 1 := by simp [hC]
        rw [hz, hC] at h3
        obtain ⟨w3, hw3⟩ : ∃ w3, (w2.alloc (.cells [.int .i64 p.v.id, .int .i64 p.v.kind, .int .i64 p.v.up, .int .i64 p.v.links, .string p.v.text, .pointer p.v.ptr, .string p.key, .string p.name].toArray 96)).alloc (.cells [.string it.name, .int .i64 it.node].toArray 38) = w3 := ⟨_, rfl⟩
        rw [hw3] at h3
        have hm3 := unhide HM w3 _ h3
        obtain ⟨d0, d1, _⟩ := h3.two (b := C + 1) (.head _)
        have HM3 := hide hm3
        clear h2 hz HG hm3 h3 HM
        go_wp2_with fail
        refine (unhide HM3).mono ?_
        rintro e w4 ⟨rfl, h4⟩
        obtain ⟨e0, e1, e2, e3, e4, e5, e6, e7, _⟩ := h4.eight (b := C) (.tail _ (.head _))
        obtain ⟨d0, d1, _⟩ := h4.two (b := C + 1) (.head _)
        have hu := unhide Hun w4 _ h4
        have HU := hide hu
        clear h4 HM3 Hun hu
        go_wp2_with fail
        refine (unhide HU).mono ?_
        rintro e w5 ⟨rfl, h5⟩
        have H5 := hide h5
        clear h5 HU
        go_wp2_with fail
        go_ret
        exact ⟨rfl, ((unhide H5).forget []).forget []⟩
    | false =>
      simp only [Bool.false_eq_true, if_false]
      have hm := fun (wx : World) (l : List Res) (hx : FSIn w0 wx fb mb N F next l) => mayGo_calls w0 wx fb mb N F next l hx (unhide HF) it.name it.node 2 (unhide Hwf)
      generalize mayGoP N F it.node 2 = r2 at hm ⊢
      cases r2 with
      | some k =>
        simp only [errV] at hm
        have HM := hide hm
        clear hm Hun
        go_enter Tryz.func76, Tryz.ntmps76
        go_wp2_with fail
        refine (unhide HG).mono ?_
        rintro e w2 ⟨rfl, h2⟩
        obtain ⟨C, hC⟩ : ∃ C, w2.heap.size = C := ⟨_, rfl⟩
        have h3 := (h2.made 96 [.int .i64 p.v.id, .int .i64 p.v.kind, .int .i64 p.v.up, .int .i64 p.v.links, .string p.v.text, .pointer p.v.ptr, .string p.key, .string p.name]).made 38 [.string it.name, .int .i64 it.node]
        have hz : (w2.alloc (.cells [.int .i64 p.v.id, .int .i64 p.v.kind, .int .i64 p.v.up, .int .i64 p.v.links, .string p.v.text, .pointer p.v.ptr, .string p.key, .string p.name].toArray 96)).heap.size = C + 1 := by simp [hC]
        rw [hz, hC] at h3
        obtain ⟨w3, hw3⟩ : ∃ w3, (w2.alloc (.cells [.int .i64 p.v.id, .int .i64 p.v.kind, .int .i64 p.v.up, .int .i64 p.v.links, .string p.v.text, .pointer p.v.ptr, .string p.key, .string p.name].toArray 96)).alloc (.cells [.string it.name, .int .i64 it.node].toArray 38) = w3 := ⟨_, rfl⟩
        rw [hw3] at h3
        have hm3 := unhide HM w3 _ h3
        obtain ⟨d0, d1, _⟩ := h3.two (b := C + 1) (.head _)
        have HM3 := hide hm3
        clear h2 hz HG hm3 h3 HM
        go_wp2_with fail
        refine (unhide HM3).mono ?_
        rintro e w4 ⟨rfl, h4⟩
        have H4 := hide h4
        clear h4 HM3
        go_wp2_with fail
        go_ret
        exact ⟨rfl, ((unhide H4).forget []).forget []⟩
      | none =>
        simp only [errV] at hm
        have HM := hide hm
        clear hm
        go_enter Tryz.func76, Tryz.ntmps76
        go_wp2_with fail
        refine (unhide HG).mono ?_
        rintro e w2 ⟨rfl, h2⟩
        obtain ⟨C, hC⟩ : ∃ C, w2.heap.size = C := ⟨_, rfl⟩
        have h3 := (h2.made 96 [.int .i64 p.v.id, .int .i64 p.v.kind, .int .i64 p.v.up, .int .i64 p.v.links, .string p.v.text, .pointer p.v.ptr, .string p.key, .string p.name]).made 38 [.string it.name, .int .i64 it.node]
        have hz : (w2.alloc (.cells [.int .i64 p.v.id, .int .i64 p.v.kind, .int .i64 p.v.up, .int .i64 p.v.links, .string p.v.text, .pointer p.v.ptr, .string p.key, .string p.name].toArray 96)).heap.size = C + 1 := by simp [hC]
        rw [hz, hC] at h3
        obtain ⟨w3, hw3⟩ : ∃ w3, (w2.alloc (.cells [.int .i64 p.v.id, .int .i64 p.v.kind, .int .i64 p.v.up, .int .i64 p.v.links, .string p.v.text, .pointer p.v.ptr, .string p.key, .string p.name].toArray 96)).alloc (.cells [.string it.name, .int .i64 it.node].toArray 38) = w3 := ⟨_, rfl⟩
        rw [hw3] at h3
        have hm3 := unhide HM w3 _ h3
        obtain ⟨d0, d1, _⟩ := h3.two (b := C + 1) (.head _)
        have HM3 := hide hm3
        clear h2 hz HG hm3 h3 HM
        go_wp2_with fail
        refine (unhide HM3).mono ?_
        rintro e w4 ⟨rfl, h4⟩
        obtain ⟨e0, e1, e2, e3, e4, e5, e6, e7, _⟩ := h4.eight (b := C) (.tail _ (.head _))
        obtain ⟨d0, d1, _⟩ := h4.two (b := C + 1) (.head _)
        have hu := unhide Hun w4 _ h4
        have HU := hide hu
        clear h4 HM3 Hun hu
        go_wp2_with fail
        refine (unhide HU).mono ?_
        rintro e w5 ⟨rfl, h5⟩
        have H5 := hide h5
        clear h5 HU
        go_wp2_with fail
        go_ret
        exact ⟨rfl, ((unhide H5).forget []).forget []⟩
end Go.Proofs.YtjpmomklkkifjaaGreatDoor.T
namespace Go.Proofs.YtjpmomklkkifjaaGreatDoor.T
open Go.RowKit
variable (w0 w : World) (fb mb : Nat) (N : List NV) (F : Forest) (next : Int) (l2 : List Res)
set_option maxHeartbeats 4000000 in
theorem move_calls (h : FSIn w0 w fb mb N F next l2) (hN : N.length ≤ 1000) (p q : PL) (tp tq : Nat) (htp : p.v.tb = some tp) (hp : tp ∈ F.map (·.1)) (htq : q.v.tb = some tq) (hq : tq ∈ F.map (·.1)) (hk : q.key.toList.isEmpty = false) (id : Int) (hi : WfI id) :
    Calls Tryz.prog 66 #[.pointer (some ⟨fb, 0, none⟩), p.val, q.val, .int .i64 id] w fun e w' => e = .returned (.tuple #[]) ∧ FSIn w0 w' fb mb (moveN N id q.v.id) (putF (dropF F tp p.key) tq ⟨q.key, q.name, id⟩) next l2 := by
  have hvp : p.v.ptr = some ⟨tp, 0, none⟩ := by unfold NV.ptr; rw [htp]; rfl
  have hvq : q.v.ptr = some ⟨tq, 0, none⟩ := by unfold NV.ptr; rw [htq]; rfl
  obtain ⟨B, hB⟩ : ∃ B, w.heap.size = B := ⟨_, rfl⟩
  have h1 := (h.made 96 [.int .i64 p.v.id, .int .i64 p.v.kind, .int .i64 p.v.up, .int .i64 p.v.links, .string p.v.text, .pointer (some ⟨tp, 0, none⟩), .string p.key, .string p.name]).made 96 [.int .i64 q.v.id, .int .i64 q.v.kind, .int .i64 q.v.up, .int .i64 q.v.links, .string q.v.text, .pointer (some ⟨tq, 0, none⟩), .string q.key, .string q.name]
  have hz : (w.alloc (.cells [.int .i64 p.v.id, .int .i64 p.v.kind, .int .i64 p.v.up, .int .i64 p.v.links, .string p.v.text, .pointer (some ⟨tp, 0, none⟩), .string p.key, .string p.name].toArray 96)).heap.size = B + 1 := by simp [hB]
  rw [hz, hB] at h1
  have hd := pdrop_calls w0 _ fb mb N F next _ h1 p tp htp hp
  obtain ⟨F2, hF2⟩ : ∃ F2, setF F tp (dropL (lookF F tp) p.key) = F2 := ⟨_, rfl⟩
  rw [hF2] at hd
  have hq2 : tq ∈ F2.map (·.1) := by rw [← hF2, setF_keys]; exact hq
  have hpt := fun (wx : World) (l : List Res) (hx : FSIn w0 wx fb mb N F2 next l) => pput_calls w0 wx fb mb N F2 next l hx q id tq htq hq2 hk
  rw [show putF (dropF F tp p.key) tq ⟨q.key, q.name, id⟩ = setF F2 tq (putL (lookF F2 tq) ⟨q.key, q.name, id⟩) by unfold putF dropF; rw [hF2]]
  obtain ⟨F3, hF3⟩ : ∃ F3, setF F2 tq (putL (lookF F2 tq) ⟨q.key, q.name, id⟩) = F3 := ⟨_, rfl⟩
  rw [hF3] at hpt ⊢
  have Hmv : Hid (moveN N id q.v.id = if (atN N id).kind = 1 then putN N { atN N id with up := q.v.id } else N) := rfl
  have hid : (atN N id).kind = 1 → (atN N id).id = id := fun hf => (atN_mem (N := N) (i := id) rfl (by rw [hf]; decide)).2
  unfold PL.val at hd hpt ⊢
  rw [hvp] at hd ⊢
  rw [hvq] at hpt ⊢
  have HD := hide hd
  have HP := hide hpt
  have Hi := hide hi
  have HN := hide hN
  clear h h1 hd hz hi hN hF2 hvp htp hp hpt hF3 hq2 hvq htq hq hk
  go_enter Tryz.func66, Tryz.ntmps66
  go_wp2_with fail
  refine (unhide HD).mono ?_
  rintro e w2 ⟨rfl, h2⟩
  have hP2 := unhide HP w2 _ h2
  have HP2 := hide hP2
  have kq := h2.eight (b := B + 1) (.head _)
  obtain ⟨k0, k1, k2, k3, k4, k5, k6, k7, _⟩ := kq
  clear HD hB h2 hP2 HP
  go_wp2_with fail
  refine (unhide HP2).mono ?_
  rintro e w3 ⟨rfl, h3⟩
  clear HP2 k0 k1 k2 k3 k4 k5 k6 k7
  have q0 := h3.map0
  have hlk := h3.look (unhide Hi) w3 rfl
  generalize atN N id = u at hlk Hmv hid
  have H3 := hide h3
  have Hid' := hide hid
  unfold NV.val at hlk
  obtain ⟨C, hC⟩ : ∃ C, w3.heap.size = C := ⟨_, rfl⟩
  have h4 := h3.made 80 [.int .i64 u.id, .int .i64 u.kind, .int .i64 u.up, .int .i64 u.links, .string u.text, .pointer u.ptr]
  rw [hC] at h4
  obtain ⟨w4, hw4⟩ : ∃ w4, w3.alloc (.cells [.int .i64 u.id, .int .i64 u.kind, .int .i64 u.up, .int .i64 u.links, .string u.text, .pointer u.ptr].toArray 80) = w4 := ⟨_, rfl⟩
  rw [hw4] at h4
  have H4 := hide h4
  have hf := fun wx => folder_calls u wx
  unfold NV.val at hf
  obtain ⟨j0, j1, j2, j3, j4, j5, _⟩ := h4.six (b := C) (.head _)
  cases hk1 : (u.kind == 1) with
  | false =>
    rw [hk1] at hf
    have hk1' : ¬ u.kind = 1 := by simpa using hk1
    have Hf := hide hf
    have HF : Hid (moveN N id q.v.id = N) := by show _ = _; rw [unhide Hmv, if_neg hk1']
    clear h3 hid hf h4 hk1'
    go_wp2_with fail
    refine (unhide Hf _).mono ?_
    rintro e w5 ⟨rfl, hb5⟩
    have H5 := hide ((unhide H4).step hb5)
    clear hb5 Hf
    go_wp2_with fail
    go_end0
    exact ⟨rfl, by rw [unhide HF]; exact (((unhide H5).forget []).forget []).forget []⟩
  | true =>
    rw [hk1] at hf
    have hk1' : u.kind = 1 := by simpa using hk1
    have Hf := hide hf
    have Hidn := hide (hid hk1')
    have HF : Hid (moveN N id q.v.id = putN N { u with up := q.v.id }) := by show _ = _; rw [unhide Hmv, if_pos hk1']
    clear h3 hid hf h4 hk1'
    go_wp2_with fail
    refine (unhide Hf _).mono ?_
    rintro e w5 ⟨rfl, hb5⟩
    have h5 := (unhide H4).step hb5
    obtain ⟨k0, k1, k2, k3, k4, k5, k6, k7, _⟩ := h5.eight (b := B + 1) (.tail _ (.head _))
    have m2 := (h5.six (b := C) (.head _)).2.2.1
    have f2 := h5.frozenAt (b := C) (.head _) 2
    have h6 := FSIn.store [] h5 2 (.int .i64 q.v.id) _ rfl
    obtain ⟨w6, hw6⟩ : ∃ w6, w5.setCell ⟨C, 2, none⟩ (.int .i64 q.v.id) = w6 := ⟨_, rfl⟩
    rw [hw6] at h6
    have q0 := h6.map0
    obtain ⟨n0, n1, n2, n3, n4, n5, _⟩ := h6.six (b := C) (.head _)
    have hidn := unhide Hidn
    obtain ⟨w7, hput, h7⟩ := h6.drew.mapPut (unhide HN) { u with up := q.v.id } (by simp only; rw [hidn]; exact unhide Hi)
    unfold NV.val NV.ptr at hput
    simp only at hput
    rw [hidn] at hput n0
    have hput' : Sem.run Tryz.prog (Instr.mapUpdate 75 (.map (some mb)) (.int .i64 id) (.agg #[.int .i64 id, .int .i64 u.kind, .int .i64 q.v.id, .int .i64 u.links, .string u.text, .pointer u.ptr])) w6.drew = .ok () w7 := hput
    have H7 := hide h7
    clear hb5 Hf h5 h6 h7 hput hidn
    go_wp2_with fail
    go_region
    all_goals
      go_wp2_with fail
      go_end0
      exact ⟨rfl, by rw [unhide HF]; exact (((unhide H7).forget []).forget []).forget []⟩
end Go.Proofs.YtjpmomklkkifjaaGreatDoor.T
