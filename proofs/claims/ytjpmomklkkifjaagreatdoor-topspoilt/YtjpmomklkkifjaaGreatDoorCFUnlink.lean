import Derived.Test.YtjpmomklkkifjaaGreatDoorCFOps
import Derived.Test.YtjpmomklkkifjaaGreatDoorCBMany
set_option maxRecDepth 100000
set_option linter.unusedVariables false
set_option linter.unusedSimpArgs false
namespace Go.Proofs.YtjpmomklkkifjaaGreatDoor.T
open Go.RowKit
theorem FSIn.mapPut {w0 w : World} {fb mb : Nat} {N : List NV} {F : Forest} {next : Int} {l2 : List Res} (h : FSIn w0 w fb mb N F next l2) (hN : N.length ≤ 1000) (v : NV) (hi : WfI v.id) :
    ∃ w', (Instr.mapUpdate 75 (.map (some mb)) (.int .i64 v.id) v.val).run Tryz.prog w = .ok () w' ∧ FSIn w0 w' fb mb (putN N v) F next l2 := by
  obtain ⟨rs, hr, H⟩ := h
  obtain ⟨w', h1, h2⟩ := Hold.mapPut [.cell fb 77 [.map (some mb), .int .i64 next]] H hN v hi
  exact ⟨w', h1, rs, hr, h2⟩
theorem FSIn.mapDel {w0 w : World} {fb mb : Nat} {N : List NV} {F : Forest} {next : Int} {l2 : List Res} (h : FSIn w0 w fb mb N F next l2) (i : Int) (hi : WfI i) (ty : TypeId) :
    ∃ w', (Builtin.delete_ #[75, 3] ty #[.map (some mb), .int .i64 i]).run Tryz.prog w = .ok (.tuple #[]) w' ∧ FSIn w0 w' fb mb (delN N i) F next l2 := by
  obtain ⟨rs, hr, H⟩ := h
  obtain ⟨w', h1, h2⟩ := Hold.mapDel [.cell fb 77 [.map (some mb), .int .i64 next]] H i hi ty
  exact ⟨w', h1, rs, hr, h2⟩
variable (w0 w : World) (fb mb : Nat) (N : List NV) (F : Forest) (next : Int) (l2 : List Res)
set_option maxHeartbeats 4000000 in
theorem mayGo_calls (h : FSIn w0 w fb mb N F next l2) (hF : Fits N F next) (nm : ByteArray) (nd kind : Int) (hi : WfI nd) :
    Calls Tryz.prog 64 #[.pointer (some ⟨fb, 0, none⟩), .agg #[.string nm, .int .i64 nd], .int .i64 kind] w fun e w' => e = .returned (errV (mayGoP N F nd kind)) ∧ FSIn w0 w' fb mb N F next l2 := by
  obtain ⟨B, hB⟩ : ∃ B, w.heap.size = B := ⟨_, rfl⟩
  have h1 := h.made 38 [.string nm, .int .i64 nd]
  rw [hB] at h1
  obtain ⟨w1, hw1⟩ : ∃ w1, w.alloc (.cells [.string nm, .int .i64 nd].toArray 38) = w1 := ⟨_, rfl⟩
  rw [hw1] at h1
  obtain ⟨C, hC⟩ : ∃ C, w1.heap.size = C := ⟨_, rfl⟩
  have h2 := h1.made 80 [.int .i64 0, .int .i64 0, .int .i64 0, .int .i64 0, .string ⟨#[]⟩, .pointer none]
  rw [hC] at h2
  have q0 := h1.map0
  have q0a : ∀ o, (w1.alloc o).cell? ⟨fb, 0, none⟩ = some (.map (some mb)) := fun o => Lib.cell?_alloc_some o q0
  have e1 : w1.cell? ⟨B, 1, none⟩ = some (.int .i64 nd) := h1.cellAt (.head _) rfl
  have e1a : ∀ o, (w1.alloc o).cell? ⟨B, 1, none⟩ = some (.int .i64 nd) := fun o => Lib.cell?_alloc_some o e1
  have hlk := h1.look hi w1.drew rfl
  have hlka := h2.look hi (w1.alloc (.cells #[.int .i64 0, .int .i64 0, .int .i64 0, .int .i64 0, .string ⟨#[]⟩, .pointer none] 80)).drew rfl
  have hkk : (atN N nd).kind = 1 → ∃ tb, (atN N nd).tb = some tb ∧ tb ∈ F.map (·.1) := (hF.vok nd).1
  have Hm : Hid (mayGoP N F nd kind = if (atN N nd).kind ≠ kind then some 7 else if (atN N nd).kind = 1 ∧ 0 < (entsOf F (atN N nd)).length then some 6 else none) := rfl
  have Hkk := hide hkk
  have Hfw : Hid (∀ tb, (lookF F tb).length ≤ 900) := fun tb => by
    have := (show Few 900 F from hF.many).look tb
    exact this
  have Hfull : Hid (∀ tb, tb ∈ F.map (·.1) → Full (lookF F tb)) := fun tb ht => hF.full _ (lookF_in ht)
  generalize atN N nd = u at hlk hlka Hm Hkk
  have H1 := hide h1
  have HU : Hid (FSIn w0 (w1.alloc (.cells #[.int .i64 u.id, .int .i64 u.kind, .int .i64 u.up, .int .i64 u.links, .string u.text, .pointer u.ptr] 80)).drew fb mb N F next (.cell C 80 [.int .i64 u.id, .int .i64 u.kind, .int .i64 u.up, .int .i64 u.links, .string u.text, .pointer u.ptr] :: .cell B 38 [.string nm, .int .i64 nd] :: l2)) := by
    rw [← hC]; exact (h1.made 80 [.int .i64 u.id, .int .i64 u.kind, .int .i64 u.up, .int .i64 u.links, .string u.text, .pointer u.ptr]).drew
  unfold NV.val at hlk hlka
  clear h h1 h2 hkk hF hi
  go_enter Tryz.func64, Tryz.ntmps64
  go_wp2_with fail
  go_cut [7] from 8 to 14 (fun a7 wc => ∃ nb : Nat, a7 = .pointer (some ⟨nb, 0, none⟩) ∧ Hid (FSIn w0 wc fb mb N F next (.cell nb 80 [.int .i64 u.id, .int .i64 u.kind, .int .i64 u.up, .int .i64 u.links, .string u.text, .pointer u.ptr] :: .cell B 38 [.string nm, .int .i64 nd] :: l2)))
  case first =>
    go_region
    all_goals (go_wp2_with fail; go_meet; exact ⟨_, rfl, HU⟩)
  case rest =>
    obtain ⟨nb, rfl, H3⟩ := hcut
    have h3 := unhide H3
    obtain ⟨k0, k1, k2, k3, k4, k5, f0, f1, f2, f3, f4, f5⟩ := h3.six (b := nb) (.head _)
    clear hlk hlka q0 q0a e1 e1a H1 HU h3
    have hf := fun wx => folder_calls u wx
    unfold NV.val at hf
    by_cases hk : u.kind = kind
    · subst hk
      cases hk1 : (u.kind == 1) with
      | false =>
        rw [hk1] at hf
        have hk1' : ¬ u.kind = 1 := by simpa using hk1
        have hM : mayGoP N F nd u.kind = none := by rw [unhide Hm, if_neg (by simp), if_neg (by simp [hk1'])]
        have HM := hide hM
        have Hf := hide hf
        clear hf hM hk1' Hkk
        go_wp2_with fail
        refine (unhide Hf _).mono ?_
        rintro e w4 ⟨rfl, hb4⟩
        have H4 := hide ((unhide H3).step hb4)
        clear hb4 Hf
        go_wp2_with fail
        go_ret
        exact ⟨by rw [unhide HM]; rfl, ((unhide H4).forget []).forget []⟩
      | true =>
        rw [hk1] at hf
        have hk1' : u.kind = 1 := by simpa using hk1
        obtain ⟨tb, htb, ht⟩ := unhide Hkk hk1'
        have hup : u.ptr = some ⟨tb, 0, none⟩ := by unfold NV.ptr; rw [htb]; rfl
        have hee : entsOf F u = lookF F tb := by unfold entsOf; rw [htb]
        have hM : mayGoP N F nd u.kind = if 0 < (lookF F tb).length then some 6 else none := by rw [unhide Hm, if_neg (by simp), hee]; simp [hk1']
        have hG : ∀ wx l, FSIn w0 wx fb mb N F next l → Calls Tryz.prog 46 #[.pointer (some ⟨tb, 0, none⟩)] wx fun e w' => e = .returned (.int .i64 (lookF F tb).length) ∧ FSIn w0 w' fb mb N F next l := fun wx l hx => by
          obtain ⟨rest, hT, hback⟩ := hx.treeSame ht
          exact (many_calls _ _ _ wx tb _ rest hT (unhide Hfull tb ht) (by have := unhide Hfw tb; omega)).mono fun e w' ⟨he, hT'⟩ => ⟨he, hback w' hT'⟩
        rw [hup] at k5 hf H3
        have HM := hide hM
        have Hf := hide hf
        have HG := hide hG
        have hln := unhide Hfw tb
        obtain ⟨nl, hnl⟩ : ∃ nl, (lookF F tb).length = nl := ⟨_, rfl⟩
        rw [hnl] at HG HM hln
        clear hf hM hk1' Hkk hG htb ht hup hee
        go_wp2_with fail
        refine (unhide Hf _).mono ?_
        rintro e w4 ⟨rfl, hb4⟩
        have h4 := (unhide H3).step hb4
        have k5 := (h4.six (b := nb) (.head _)).2.2.2.2.2.1
        have hg := unhide HG w4 _ h4
        have HG4 := hide hg
        clear hb4 Hf h4 hg HG
        go_wp2_with fail
        refine (unhide HG4).mono ?_
        rintro e w5 ⟨rfl, h5⟩
        have H5 := hide h5
        clear h5 HG4
        by_cases hz : 0 < nl
        · have hz' : (0 : Int) < (nl : Int) := by omega
          have hM := unhide HM
          rw [if_pos hz] at hM
          have HM2 := hide hM
          clear hM HM hnl
          go_wp2_with fail
          go_ret
          exact ⟨by rw [unhide HM2]; rfl, ((unhide H5).forget []).forget []⟩
        · have hz' : ¬ (0 : Int) < (nl : Int) := by omega
          have hM := unhide HM
          rw [if_neg hz] at hM
          have HM2 := hide hM
          clear hM HM hnl
          go_wp2_with fail
          go_ret
          exact ⟨by rw [unhide HM2]; rfl, ((unhide H5).forget []).forget []⟩
    · have hM : mayGoP N F nd kind = some 7 := by rw [unhide Hm, if_pos hk]
      have HM := hide hM
      have hkz : (u.kind == kind) = false := by simpa using hk
      clear hM hf
      go_wp2_with fail
      go_ret
      exact ⟨by rw [unhide HM]; rfl, ((unhide H3).forget []).forget []⟩
end Go.Proofs.YtjpmomklkkifjaaGreatDoor.T
namespace Go.Proofs.YtjpmomklkkifjaaGreatDoor.T
open Go.RowKit
noncomputable def writeP (N : List NV) (F : Forest) (s t : ByteArray) : Option Int × List NV :=
  if 20 < t.size then (some 2, N) else match fileP N F s with
    | .error k => (some k, N)
    | .ok v => (none, putN N { v with text := t })
theorem fileP_in {N : List NV} {F : Forest} {s : ByteArray} {v : NV} (h : fileP N F s = .ok v) : v ∈ N ∧ v.kind = 2 := by
  unfold fileP at h
  split at h
  · cases h
  rename_i u hu
  split at h
  · cases h
  rename_i hk
  have hk2 : u.kind = 2 := by simpa using hk
  cases h
  obtain ⟨i, hi⟩ := findP_at hu
  exact ⟨(atN_mem hi (by rw [hk2]; decide)).1, hk2⟩
variable (w0 w : World) (fb mb : Nat) (N : List NV) (F : Forest) (next : Int) (l2 : List Res)
set_option maxHeartbeats 4000000 in
theorem write_calls (hR : Ready w0) (h : FSIn w0 w fb mb N F next l2) (hF : Fits N F next) (s t : ByteArray) (hs : s.size ≤ 4000000000) (ht : t.size ≤ 4000000000) :
    Calls Tryz.prog 74 #[.pointer (some ⟨fb, 0, none⟩), .string s, .string t] w fun e w' => e = .returned (errV (writeP N F s t).1) ∧ FSIn w0 w' fb mb (writeP N F s t).2 F next l2 := by
  by_cases h20 : 20 < t.size
  · have hW : writeP N F s t = (some 2, N) := by unfold writeP; rw [if_pos h20]
    rw [hW]
    have hz : (20 : Int) < (t.size : Int) := by omega
    have H := hide h
    clear h hF hR hW
    go_enter Tryz.func74, Tryz.ntmps74
    go_wp2_with fail
    go_ret
    exact ⟨rfl, unhide H⟩
  have hz : ¬ (20 : Int) < (t.size : Int) := by omega
  have hf := file_calls w0 w fb mb N F next l2 hR h hF s hs
  unfold writeP
  rw [if_neg h20]
  have Hin : Hid (∀ v, fileP N F s = .ok v → 0 ≤ v.id ∧ v.id ≤ 999) := fun v hv => hF.id v (fileP_in hv).1
  have HN : Hid (N.length ≤ 1000) := by have := hF.few; show _ ≤ _; omega
  generalize fileP N F s = r at hf Hin ⊢
  cases r with
  | error k =>
    simp only [StepEnd, nodeRet_error] at hf
    have HFl := hide hf
    clear hf h hF hR Hin
    go_enter Tryz.func74, Tryz.ntmps74
    go_wp2_with fail
    refine (unhide HFl).mono ?_
    rintro e w2 ⟨rfl, h2⟩
    have H3 := hide (h2.made 80 [.int .i64 0, .int .i64 0, .int .i64 0, .int .i64 0, .string ⟨#[]⟩, .pointer none])
    clear h2 HFl
    go_wp2_with fail
    go_ret
    exact ⟨rfl, (unhide H3).forget []⟩
  | ok v =>
    simp only [StepEnd, nodeRet_ok] at hf
    have HFl := hide hf
    obtain ⟨i0, i1⟩ := unhide Hin v rfl
    clear hf h hF hR Hin
    go_enter Tryz.func74, Tryz.ntmps74
    go_wp2_with fail
    refine (unhide HFl).mono ?_
    rintro e w2 ⟨rfl, h2⟩
    obtain ⟨C, hC⟩ : ∃ C, w2.heap.size = C := ⟨_, rfl⟩
    have h3 := h2.made 80 [.int .i64 v.id, .int .i64 v.kind, .int .i64 v.up, .int .i64 v.links, .string t, .pointer v.ptr]
    rw [hC] at h3
    obtain ⟨w3, hw3⟩ : ∃ w3, w2.alloc (.cells [.int .i64 v.id, .int .i64 v.kind, .int .i64 v.up, .int .i64 v.links, .string t, .pointer v.ptr].toArray 80) = w3 := ⟨_, rfl⟩
    rw [hw3] at h3
    have q0 := h3.map0
    obtain ⟨n0, n1, n2, n3, n4, n5, _⟩ := h3.six (b := C) (.head _)
    obtain ⟨w4, hput, h4⟩ := h3.drew.mapPut (unhide HN) { v with text := t } (wfI_of (by simp only; omega) (by simp only; omega))
    unfold NV.val NV.ptr at hput
    simp only at hput
    have hput' : Sem.run Tryz.prog (Instr.mapUpdate 75 (.map (some mb)) (.int .i64 v.id) (.agg #[.int .i64 v.id, .int .i64 v.kind, .int .i64 v.up, .int .i64 v.links, .string t, .pointer v.ptr])) w3.drew = .ok () w4 := hput
    have H4 := hide h4
    clear h2 HFl h3 h4 hput
    go_wp2_with fail
    go_region
    all_goals
      go_wp2_with fail
      go_ret
      exact ⟨rfl, (unhide H4).forget []⟩
end Go.Proofs.YtjpmomklkkifjaaGreatDoor.T
namespace Go.Proofs.YtjpmomklkkifjaaGreatDoor.T
open Go.RowKit
def PL.tb (p : PL) : Nat := p.v.tb.getD 0
theorem PlaceOk.tbs {N : List NV} {F : Forest} {p : PL} (h : PlaceOk N F p) : p.v.tb = some p.tb ∧ p.tb ∈ F.map (·.1) := by
  obtain ⟨tb, h1, h2⟩ := h.tree
  unfold PL.tb
  rw [h1]
  exact ⟨rfl, h2⟩
noncomputable def linkP (N : List NV) (F : Forest) (s t : ByteArray) : Option Int × List NV × Forest := match fileP N F s with
  | .error k => (some k, N, F)
  | .ok v => match freeP N F t with
    | .error k => (some k, N, F)
    | .ok p => (none, putN N { v with links := v.links + 1 }, putF F p.tb ⟨p.key, p.name, v.id⟩)
variable (w0 w : World) (fb mb : Nat) (N : List NV) (F : Forest) (next : Int) (l2 : List Res)
set_option maxHeartbeats 4000000 in
theorem link_calls (hR : Ready w0) (h : FSIn w0 w fb mb N F next l2) (hF : Fits N F next) (hL : ∀ v ∈ N, 0 ≤ v.links ∧ v.links ≤ 1000000) (s t : ByteArray) (hs : s.size ≤ 4000000000) (ht : t.size ≤ 4000000000) :
    Calls Tryz.prog 75 #[.pointer (some ⟨fb, 0, none⟩), .string s, .string t] w fun e w' => e = .returned (errV (linkP N F s t).1) ∧ FSIn w0 w' fb mb (linkP N F s t).2.1 (linkP N F s t).2.2 next l2 := by
  have hf := file_calls w0 w fb mb N F next l2 hR h hF s hs
  have hg := fun (wx : World) (l : List Res) (hx : FSIn w0 wx fb mb N F next l) => free_calls w0 wx fb mb N F next l hR hx hF t ht
  unfold linkP
  have Hin : Hid (∀ v, fileP N F s = .ok v → 0 ≤ v.id ∧ v.id ≤ 999 ∧ 0 ≤ v.links ∧ v.links ≤ 1000000) := fun v hv => by
    have h1 := (fileP_in hv).1
    have h2 := hF.id v h1
    have h3 := hL v h1
    exact ⟨h2.1, h2.2, h3.1, h3.2⟩
  have HN : Hid (N.length ≤ 1000) := by have := hF.few; show _ ≤ _; omega
  have Hpl : Hid (∀ p, freeP N F t = .ok p → PlaceOk N F p) := fun p hp => (freeP_ok hF hp).1
  generalize fileP N F s = r at hf Hin ⊢
  generalize freeP N F t = r2 at hg Hpl ⊢
  cases r with
  | error k =>
    simp only [StepEnd, nodeRet_error] at hf
    have HFl := hide hf
    clear hf h hF hR Hin hg Hpl hL
    go_enter Tryz.func75, Tryz.ntmps75
    go_wp2_with fail
    refine (unhide HFl).mono ?_
    rintro e w2 ⟨rfl, h2⟩
    have H3 := hide (h2.made 80 [.int .i64 0, .int .i64 0, .int .i64 0, .int .i64 0, .string ⟨#[]⟩, .pointer none])
    clear h2 HFl
    go_wp2_with fail
    go_ret
    exact ⟨rfl, (unhide H3).forget []⟩
  | ok v =>
    simp only [StepEnd, nodeRet_ok] at hf
    have HFl := hide hf
    obtain ⟨i0, i1, i2, i3⟩ := unhide Hin v rfl
    have HG := hide hg
    clear hf h hF hR Hin hg hL
    go_enter Tryz.func75, Tryz.ntmps75
    go_wp2_with fail
    refine (unhide HFl).mono ?_
    rintro e w2 ⟨rfl, h2⟩
    obtain ⟨C, hC⟩ : ∃ C, w2.heap.size = C := ⟨_, rfl⟩
    have h3 := h2.made 80 [.int .i64 v.id, .int .i64 v.kind, .int .i64 v.up, .int .i64 v.links, .string v.text, .pointer v.ptr]
    rw [hC] at h3
    obtain ⟨w3, hw3⟩ : ∃ w3, w2.alloc (.cells [.int .i64 v.id, .int .i64 v.kind, .int .i64 v.up, .int .i64 v.links, .string v.text, .pointer v.ptr].toArray 80) = w3 := ⟨_, rfl⟩
    rw [hw3] at h3
    have hg3 := unhide HG w3 _ h3
    cases r2 with
    | error k =>
      simp only [PlaceEnd, placeRet_error] at hg3
      have HG3 := hide hg3
      clear h2 h3 hg3 HG HFl Hpl
      go_wp2_with fail
      refine (unhide HG3).mono ?_
      rintro e w4 ⟨rfl, h4⟩
      have H5 := hide (h4.made 96 [.int .i64 0, .int .i64 0, .int .i64 0, .int .i64 0, .string ⟨#[]⟩, .pointer none, .string ⟨#[]⟩, .string ⟨#[]⟩])
      clear h4 HG3
      go_wp2_with fail
      go_ret
      exact ⟨rfl, ((unhide H5).forget []).forget []⟩
    | ok p =>
      simp only [PlaceEnd, placeRet_ok] at hg3
      have hpo := unhide Hpl p rfl
      obtain ⟨htb, htf⟩ := hpo.tbs
      have hkey : p.key.toList.isEmpty = false := by rw [hpo.key]; exact key_full hpo.name
      have HG3 := hide hg3
      have Htb := hide htb
      have Htf := hide htf
      have Hkey := hide hkey
      clear h2 h3 hg3 HG HFl Hpl hpo htb htf hkey
      go_wp2_with fail
      refine (unhide HG3).mono ?_
      rintro e w4 ⟨rfl, h4⟩
      obtain ⟨E, hE⟩ : ∃ E, w4.heap.size = E := ⟨_, rfl⟩
      have h5 := h4.made 96 [.int .i64 p.v.id, .int .i64 p.v.kind, .int .i64 p.v.up, .int .i64 p.v.links, .string p.v.text, .pointer p.v.ptr, .string p.key, .string p.name]
      rw [hE] at h5
      obtain ⟨w5, hw5⟩ : ∃ w5, w4.alloc (.cells [.int .i64 p.v.id, .int .i64 p.v.kind, .int .i64 p.v.up, .int .i64 p.v.links, .string p.v.text, .pointer p.v.ptr, .string p.key, .string p.name].toArray 96) = w5 := ⟨_, rfl⟩
      rw [hw5] at h5
      have c3 := (h5.six (b := C) (.tail _ (.head _))).2.2.2.1
      have f3 := h5.frozenAt (b := C) (.tail _ (.head _)) 3
      have h6 := FSIn.store [_] h5 3 (.int .i64 (v.links + 1)) _ rfl
      obtain ⟨w6, hw6⟩ : ∃ w6, w5.setCell ⟨C, 3, none⟩ (.int .i64 (v.links + 1)) = w6 := ⟨_, rfl⟩
      rw [hw6] at h6
      have q0 := h6.map0
      obtain ⟨n0, n1, n2, n3, n4, n5, _⟩ := h6.six (b := C) (.tail _ (.head _))
      obtain ⟨w7, hput, h7⟩ := h6.drew.mapPut (unhide HN) { v with links := v.links + 1 } (wfI_of (by simp only; omega) (by simp only; omega))
      unfold NV.val NV.ptr at hput
      simp only at hput
      have hput' : Sem.run Tryz.prog (Instr.mapUpdate 75 (.map (some mb)) (.int .i64 v.id) (.agg #[.int .i64 v.id, .int .i64 v.kind, .int .i64 v.up, .int .i64 (v.links + 1), .string v.text, .pointer v.ptr])) w6.drew = .ok () w7 := hput
      have hpp := pput_calls w0 w7 fb mb _ F next _ h7 p v.id p.tb (unhide Htb) (unhide Htf) (unhide Hkey)
      unfold PL.val at hpp
      have HPP := hide hpp
      obtain ⟨e0, e1, e2, e3, e4, e5, e6, e7, _⟩ := h7.eight (b := E) (.head _)
      obtain ⟨d0, d1, d2, d3, d4, d5, _⟩ := h7.six (b := C) (.tail _ (.head _))
      clear h4 HG3 h5 h6 h7 hput hpp
      go_wp2_with fail
      go_region
      all_goals
        go_wp2_with fail
        refine (unhide HPP).mono ?_
        rintro e w8 ⟨rfl, h8⟩
        have H8 := hide h8
        clear h8 HPP
        go_wp2_with fail
        go_ret
        exact ⟨rfl, ((unhide H8).forget []).forget []⟩
end Go.Proofs.YtjpmomklkkifjaaGreatDoor.T
namespace Go.Proofs.YtjpmomklkkifjaaGreatDoor.T
open Go.RowKit
variable (w0 w : World) (fb mb : Nat) (N : List NV) (F : Forest) (next : Int) (l2 : List Res)
set_option maxHeartbeats 4000000 in
theorem unlink_calls (h : FSIn w0 w fb mb N F next l2) (hN : N.length ≤ 1000) (p : PL) (tb : Nat) (htb : p.v.tb = some tb) (ht : tb ∈ F.map (·.1)) (nm : ByteArray) (nd : Int) (hi : WfI nd) (hl : 0 ≤ (atN N nd).links ∧ (atN N nd).links ≤ 1000000) :
    Calls Tryz.prog 65 #[.pointer (some ⟨fb, 0, none⟩), p.val, .agg #[.string nm, .int .i64 nd]] w fun e w' => e = .returned (.tuple #[]) ∧ FSIn w0 w' fb mb (unlinkN N nd) (dropF F tb p.key) next l2 := by
  have hvp : p.v.ptr = some ⟨tb, 0, none⟩ := by unfold NV.ptr; rw [htb]; rfl
  obtain ⟨B, hB⟩ : ∃ B, w.heap.size = B := ⟨_, rfl⟩
  have h1 := (h.made 96 [.int .i64 p.v.id, .int .i64 p.v.kind, .int .i64 p.v.up, .int .i64 p.v.links, .string p.v.text, .pointer (some ⟨tb, 0, none⟩), .string p.key, .string p.name]).made 38 [.string nm, .int .i64 nd]
  have hz : (w.alloc (.cells [.int .i64 p.v.id, .int .i64 p.v.kind, .int .i64 p.v.up, .int .i64 p.v.links, .string p.v.text, .pointer (some ⟨tb, 0, none⟩), .string p.key, .string p.name].toArray 96)).heap.size = B + 1 := by simp [hB]
  rw [hz, hB] at h1
  have hd := pdrop_calls w0 _ fb mb N F next _ h1 p tb htb ht
  have Hun : Hid (unlinkN N nd = if (atN N nd).links - 1 < 1 then delN N nd else putN N { atN N nd with links := (atN N nd).links - 1 }) := rfl
  have hid : (findN N nd).isSome = true → (atN N nd).id = nd := fun hf => (atN_in hf).2
  have hno : (findN N nd).isSome = false → (atN N nd).links = 0 := fun hf => by
    unfold atN
    cases hx : findN N nd with
    | none => rfl
    | some v => rw [hx] at hf; cases hf
  unfold PL.val at hd ⊢
  rw [hvp] at hd ⊢
  obtain ⟨F2, hF2⟩ : ∃ F2, setF F tb (dropL (lookF F tb) p.key) = F2 := ⟨_, rfl⟩
  rw [hF2] at hd
  rw [show dropF F tb p.key = F2 from hF2]
  have HD := hide hd
  have Hi := hide hi
  have HN := hide hN
  clear h h1 hd hz hi hN hF2 hvp htb ht
  go_enter Tryz.func65, Tryz.ntmps65
  go_wp2_with fail
  refine (unhide HD).mono ?_
  rintro e w2 ⟨rfl, h2⟩
  clear HD hB
  obtain ⟨C, hC⟩ : ∃ C, w2.heap.size = C := ⟨_, rfl⟩
  have hA := h2.made 80 [.int .i64 0, .int .i64 0, .int .i64 0, .int .i64 0, .string ⟨#[]⟩, .pointer none]
  have q0 := h2.map0
  have q0a : ∀ o, (w2.alloc o).cell? ⟨fb, 0, none⟩ = some (.map (some mb)) := fun o => Lib.cell?_alloc_some o q0
  have e1 : w2.cell? ⟨B + 1, 1, none⟩ = some (.int .i64 nd) := h2.cellAt (.head _) rfl
  have e1a : ∀ o, (w2.alloc o).cell? ⟨B + 1, 1, none⟩ = some (.int .i64 nd) := fun o => Lib.cell?_alloc_some o e1
  have hlk := h2.look (unhide Hi) w2.drew rfl
  have hlka := hA.look (unhide Hi) (w2.alloc (.cells #[.int .i64 0, .int .i64 0, .int .i64 0, .int .i64 0, .string ⟨#[]⟩, .pointer none] 80)).drew rfl
  generalize atN N nd = u at hlk hlka Hun hid hno hl
  have HU : Hid (FSIn w0 (w2.alloc (.cells #[.int .i64 u.id, .int .i64 u.kind, .int .i64 u.up, .int .i64 u.links, .string u.text, .pointer u.ptr] 80)).drew fb mb N F2 next (.cell C 80 [.int .i64 u.id, .int .i64 u.kind, .int .i64 u.up, .int .i64 u.links, .string u.text, .pointer u.ptr] :: .cell (B + 1) 38 [.string nm, .int .i64 nd] :: .cell B 96 [.int .i64 p.v.id, .int .i64 p.v.kind, .int .i64 p.v.up, .int .i64 p.v.links, .string p.v.text, .pointer (some ⟨tb, 0, none⟩), .string p.key, .string p.name] :: l2)) := by
    rw [← hC]; exact (h2.made 80 [.int .i64 u.id, .int .i64 u.kind, .int .i64 u.up, .int .i64 u.links, .string u.text, .pointer u.ptr]).drew
  have Hid' := hide hid
  have Hno := hide hno
  have Hl := hide hl
  unfold NV.val at hlk hlka
  clear h2 hA hid hno hl
  go_wp2_with fail
  go_cut [6] from 9 to 15 (fun a6 wc => ∃ nb : Nat, a6 = .pointer (some ⟨nb, 0, none⟩) ∧ Hid (FSIn w0 wc fb mb N F2 next (.cell nb 80 [.int .i64 u.id, .int .i64 u.kind, .int .i64 u.up, .int .i64 u.links, .string u.text, .pointer u.ptr] :: .cell (B + 1) 38 [.string nm, .int .i64 nd] :: .cell B 96 [.int .i64 p.v.id, .int .i64 p.v.kind, .int .i64 p.v.up, .int .i64 p.v.links, .string p.v.text, .pointer (some ⟨tb, 0, none⟩), .string p.key, .string p.name] :: l2)))
  case first =>
    go_region
    all_goals (go_wp2_with fail; go_meet; exact ⟨_, rfl, HU⟩)
  case rest =>
    obtain ⟨nb, rfl, H3⟩ := hcut
    clear hlk hlka q0 q0a e1 e1a HU
    obtain ⟨hl0, hl1⟩ := unhide Hl
    have k3 := ((unhide H3).six (b := nb) (.head _)).2.2.2.1
    have f3 := ((unhide H3).frozenAt (b := nb) (.head _) 3)
    have h4 := FSIn.store [] (unhide H3) 3 (.int .i64 (u.links - 1)) _ rfl
    obtain ⟨w4, hw4⟩ : ∃ w4, wc.setCell ⟨nb, 3, none⟩ (.int .i64 (u.links - 1)) = w4 := ⟨_, rfl⟩
    rw [hw4] at h4
    have q0 := h4.map0
    have e1 : w4.cell? ⟨B + 1, 1, none⟩ = some (.int .i64 nd) := h4.cellAt (.tail _ (.head _)) rfl
    obtain ⟨m0, m1, m2, m3, m4, m5, _⟩ := h4.six (b := nb) (.head _)
    have hlw : IntKind.i64.wrap (u.links - 1) = u.links - 1 := by rw [IntKind.wrap_i64]; omega
    by_cases hlt : u.links - 1 < 1
    · obtain ⟨w5, hdel, h5⟩ := h4.drew.mapDel nd (unhide Hi) 0
      have HF : Hid (unlinkN N nd = delN N nd) := by show _ = _; rw [unhide Hun, if_pos hlt]
      have H5 := hide h5
      clear h4 h5
      go_wp2_with fail
      go_region
      all_goals
        go_wp2_with fail
        refine bodyPost_ret (results_none rfl _ _ _) rfl ?_
        exact ⟨rfl, by rw [unhide HF]; exact (((unhide H5).forget []).forget []).forget []⟩
    · have hfs : (findN N nd).isSome = true := by
        cases hx : (findN N nd).isSome with
        | true => rfl
        | false => have := unhide Hno hx; omega
      have hidn := unhide Hid' hfs
      obtain ⟨w5, hput, h5⟩ := h4.drew.mapPut (unhide HN) { u with links := u.links - 1 } (by simp only; rw [hidn]; exact unhide Hi)
      have HF : Hid (unlinkN N nd = putN N { u with links := u.links - 1 }) := by show _ = _; rw [unhide Hun, if_neg hlt]
      unfold NV.val NV.ptr at hput
      simp only at hput
      have H5 := hide h5
      rw [hidn] at hput m0
      have hput' : Sem.run Tryz.prog (Instr.mapUpdate 75 (.map (some mb)) (.int .i64 nd) (.agg #[.int .i64 nd, .int .i64 u.kind, .int .i64 u.up, .int .i64 (u.links - 1), .string u.text, .pointer u.ptr])) w4.drew = .ok () w5 := hput
      clear h4 h5 hput hfs
      go_wp2_with fail
      go_region
      all_goals
        go_wp2_with fail
        go_end0
        exact ⟨rfl, by rw [unhide HF]; exact (((unhide H5).forget []).forget []).forget []⟩
end Go.Proofs.YtjpmomklkkifjaaGreatDoor.T
