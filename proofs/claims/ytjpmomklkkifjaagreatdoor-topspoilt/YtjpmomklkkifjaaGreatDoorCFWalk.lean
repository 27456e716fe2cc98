import Derived.Test.YtjpmomklkkifjaaGreatDoorCFFrame
import Derived.RegionTactic
set_option maxRecDepth 100000
set_option linter.unusedVariables false
set_option linter.unusedSimpArgs false
namespace Go.Proofs.YtjpmomklkkifjaaGreatDoor.T
open Go.RowKit
noncomputable def keyS (s : ByteArray) : ByteArray := keyOf (signsOf s)
def itself : ByteArray := ⟨#[46]⟩
def above : ByteArray := ⟨#[46, 46]⟩
def PartOk (p : ByteArray) : Prop := dotsB p = true ∨ checkP p = none
noncomputable def stepP (N : List NV) (F : Forest) (v : NV) (part : ByteArray) : Except Int NV :=
  if v.kind ≠ 1 then .error 7
  else if (part.toList == [46]) = true then .ok v
  else if (part.toList == [46, 46]) = true then .ok (atN N v.up)
  else match getL (entsOf F v) (keyS part) with | none => .error 5 | some it => .ok (atN N it.node)
def resN : Except Int NV → NV
  | .ok v => v
  | .error _ => NV.zero
def resE : Except Int NV → Option Int
  | .ok _ => none
  | .error k => some k
def nodeRet (r : Except Int NV) : Value := .tuple #[(resN r).val, errV (resE r)]
def VOk (F : Forest) (v : NV) : Prop := (v.kind = 1 → ∃ tb, v.tb = some tb ∧ tb ∈ F.map (·.1)) ∧ WfI v.up
variable (w0 w : World) (fb mb : Nat) (N : List NV) (F : Forest) (next : Int) (l2 : List Res) (v : NV) (part : ByteArray)
def StepEnd (r : Except Int NV) (e : Ending) (w' : World) : Prop := e = .returned (nodeRet r) ∧ FSIn w0 w' fb mb N F next l2
theorem step_kind (h : FSIn w0 w fb mb N F next l2) (hk : v.kind ≠ 1) :
    Calls Tryz.prog 148 #[.pointer (some ⟨fb, 0, none⟩), v.val, .string part] w fun e w' => StepEnd w0 fb mb N F next l2 (stepP N F v part) e w' := by
  have Hst : Hid (stepP N F v part = .error 7) := by show _ = _; unfold stepP; rw [if_pos hk]
  obtain ⟨B, hB⟩ : ∃ B, w.heap.size = B := ⟨_, rfl⟩
  have h1 := (h.made 80 [.int .i64 v.id, .int .i64 v.kind, .int .i64 v.up, .int .i64 v.links, .string v.text, .pointer v.ptr]).made 80 [.int .i64 0, .int .i64 0, .int .i64 0, .int .i64 0, .string ⟨#[]⟩, .pointer none]
  have hz : (w.alloc (.cells [.int .i64 v.id, .int .i64 v.kind, .int .i64 v.up, .int .i64 v.links, .string v.text, .pointer v.ptr].toArray 80)).heap.size = B + 1 := by simp [hB]
  rw [hz, hB] at h1
  clear hz
  have hf := fun wx => folder_calls v wx
  rw [show (v.kind == 1) = false by simpa using hk] at hf
  clear hk
  have H1 := hide h1
  have Hf := hide hf
  clear h1 hf h
  unfold NV.val at Hf ⊢
  go_enter Tryz.func148, Tryz.ntmps148
  go_wp2_with fail
  refine (unhide Hf _).mono ?_
  rintro e w2 ⟨rfl, hb2⟩
  have h2 := (unhide H1).step hb2
  clear hb2 H1 Hf hB
  obtain ⟨k0, k1, k2, k3, k4, k5, f0, f1, f2, f3, f4, f5⟩ := h2.six (b := B + 1) (.head _)
  have H2 := hide h2
  clear h2
  go_wp2
  have h3 := (unhide H2).putsix [] (.int .i64 0) (.int .i64 0) (.int .i64 0) (.int .i64 0) (.string ⟨#[]⟩) (.pointer none)
  refine bodyPost_ret (results_node (p := 6) (u := 7) rfl _ _ (B + 1) _ _ _ _ _ _ rfl rfl (h3.heapAt (t := 80) (.head _))) rfl ?_
  exact ⟨by rw [unhide Hst]; rfl, (h3.forget []).forget []⟩
theorem step_self (h : FSIn w0 w fb mb N F next l2) (hk : v.kind = 1) (hp : (part.toList == [46]) = true) :
    Calls Tryz.prog 148 #[.pointer (some ⟨fb, 0, none⟩), v.val, .string part] w fun e w' => StepEnd w0 fb mb N F next l2 (stepP N F v part) e w' := by
  have Hst : Hid (stepP N F v part = .ok v) := by show _ = _; unfold stepP; rw [if_neg (by rw [hk]; simp), if_pos hp]
  obtain ⟨B, hB⟩ : ∃ B, w.heap.size = B := ⟨_, rfl⟩
  have h1 := (h.made 80 [.int .i64 v.id, .int .i64 v.kind, .int .i64 v.up, .int .i64 v.links, .string v.text, .pointer v.ptr]).made 80 [.int .i64 0, .int .i64 0, .int .i64 0, .int .i64 0, .string ⟨#[]⟩, .pointer none]
  have hz : (w.alloc (.cells [.int .i64 v.id, .int .i64 v.kind, .int .i64 v.up, .int .i64 v.links, .string v.text, .pointer v.ptr].toArray 80)).heap.size = B + 1 := by simp [hB]
  rw [hz, hB] at h1
  clear hz
  have hf := fun wx => folder_calls v wx
  rw [show (v.kind == 1) = true by simp [hk]] at hf
  clear hk
  have H1 := hide h1
  have Hf := hide hf
  clear h1 hf h
  unfold NV.val at Hf ⊢
  go_enter Tryz.func148, Tryz.ntmps148
  go_wp2_with fail
  refine (unhide Hf _).mono ?_
  rintro e w2 ⟨rfl, hb2⟩
  have h2 := (unhide H1).step hb2
  clear hb2 H1 Hf hB
  obtain ⟨k0, k1, k2, k3, k4, k5, f0, f1, f2, f3, f4, f5⟩ := h2.six (b := B + 1) (.head _)
  obtain ⟨b0, b1, b2, b3, b4, b5, _⟩ := h2.six (b := B) (.tail _ (.head _))
  have H2 := hide h2
  clear h2
  go_wp2
  have h3 := (unhide H2).putsix [] (.int .i64 v.id) (.int .i64 v.kind) (.int .i64 v.up) (.int .i64 v.links) (.string v.text) (.pointer v.ptr)
  refine bodyPost_ret (results_node (p := 6) (u := 7) rfl _ _ (B + 1) _ _ _ _ _ _ rfl rfl (h3.heapAt (t := 80) (.head _))) rfl ?_
  exact ⟨by rw [unhide Hst]; rfl, (h3.forget []).forget []⟩
set_option maxHeartbeats 4000000 in
theorem step_up (h : FSIn w0 w fb mb N F next l2) (hk : v.kind = 1) (hp0 : (part.toList == [46]) = false) (hp : (part.toList == [46, 46]) = true) (hu : WfI v.up) :
    Calls Tryz.prog 148 #[.pointer (some ⟨fb, 0, none⟩), v.val, .string part] w fun e w' => StepEnd w0 fb mb N F next l2 (stepP N F v part) e w' := by
  have Hst : Hid (stepP N F v part = .ok (atN N v.up)) := by show _ = _; unfold stepP; rw [if_neg (by rw [hk]; simp), if_neg (by rw [hp0]; simp), if_pos hp]
  obtain ⟨B, hB⟩ : ∃ B, w.heap.size = B := ⟨_, rfl⟩
  have h1 := (h.made 80 [.int .i64 v.id, .int .i64 v.kind, .int .i64 v.up, .int .i64 v.links, .string v.text, .pointer v.ptr]).made 80 [.int .i64 0, .int .i64 0, .int .i64 0, .int .i64 0, .string ⟨#[]⟩, .pointer none]
  have hz : (w.alloc (.cells [.int .i64 v.id, .int .i64 v.kind, .int .i64 v.up, .int .i64 v.links, .string v.text, .pointer v.ptr].toArray 80)).heap.size = B + 1 := by simp [hB]
  rw [hz, hB] at h1
  clear hz
  have hf := fun wx => folder_calls v wx
  rw [show (v.kind == 1) = true by simp [hk]] at hf
  clear hk
  have H1 := hide h1
  have Hf := hide hf
  clear h1 hf h
  unfold NV.val at Hf ⊢
  go_enter Tryz.func148, Tryz.ntmps148
  go_wp2_with fail
  refine (unhide Hf _).mono ?_
  rintro e w2 ⟨rfl, hb2⟩
  have h2 := (unhide H1).step hb2
  clear hb2 H1 Hf hB
  obtain ⟨k0, k1, k2, k3, k4, k5, f0, f1, f2, f3, f4, f5⟩ := h2.six (b := B + 1) (.head _)
  obtain ⟨b0, b1, b2, b3, b4, b5, _⟩ := h2.six (b := B) (.tail _ (.head _))
  have q0 := h2.map0
  have hlk := h2.look hu w2.drew rfl
  generalize atN N v.up = u at hlk Hst
  unfold NV.val at hlk
  have H2 := hide h2
  clear h2 hu
  go_wp2_with fail
  go_region
  all_goals go_wp2_with fail
  have h3 := ((unhide H2).putsix [] (.int .i64 u.id) (.int .i64 u.kind) (.int .i64 u.up) (.int .i64 u.links) (.string u.text) (.pointer u.ptr)).drew
  refine bodyPost_ret (results_node (p := 6) (u := 7) rfl _ _ (B + 1) _ _ _ _ _ _ rfl rfl (h3.heapAt (t := 80) (.head _))) rfl ?_
  exact ⟨by rw [unhide Hst]; rfl, (h3.forget []).forget []⟩
def getN : Option Item → ByteArray
  | some x => x.name
  | none => ⟨#[]⟩
def getI : Option Item → Int
  | some x => x.node
  | none => 0
theorem getV_eq (g : Option Item) : getV g = .tuple #[.agg #[.string (getN g), .int .i64 (getI g)], .bool g.isSome] := by cases g <;> rfl
theorem key_calls {p : ByteArray} (hp : checkP p = none) (wx : World) (hR : Ready wx) : Calls Tryz.prog 54 #[.string p] wx fun e w' => e = .returned (.string (keyS p)) ∧ Below wx.heap.size wx w' := by
  obtain ⟨hn, he, _⟩ := name_of_check hp
  have := keyOf_calls (signsOf p) wx hR hn.keyed
  rw [← he] at this
  exact this
set_option maxHeartbeats 4000000 in
theorem step_in (hR : Ready w0) (h : FSIn w0 w fb mb N F next l2) (hF : Fits N F next) (hk : v.kind = 1) (tb : Nat) (htb : v.tb = some tb) (ht : tb ∈ F.map (·.1)) (hp0 : (part.toList == [46]) = false) (hp1 : (part.toList == [46, 46]) = false) (hp : checkP part = none) :
    Calls Tryz.prog 148 #[.pointer (some ⟨fb, 0, none⟩), v.val, .string part] w fun e w' => StepEnd w0 fb mb N F next l2 (stepP N F v part) e w' := by
  have hee : entsOf F v = lookF F tb := by unfold entsOf; rw [htb]
  have Hst : Hid (stepP N F v part = match getL (lookF F tb) (keyS part) with | none => .error 5 | some it => .ok (atN N it.node)) := by
    show _ = _
    unfold stepP
    rw [if_neg (by rw [hk]; simp), if_neg (by rw [hp0]; simp), if_neg (by rw [hp1]; simp), hee]
  have hvp : v.ptr = some ⟨tb, 0, none⟩ := by unfold NV.ptr; rw [htb]; rfl
  obtain ⟨B, hB⟩ : ∃ B, w.heap.size = B := ⟨_, rfl⟩
  have h1 := (h.made 80 [.int .i64 v.id, .int .i64 v.kind, .int .i64 v.up, .int .i64 v.links, .string v.text, .pointer v.ptr]).made 80 [.int .i64 0, .int .i64 0, .int .i64 0, .int .i64 0, .string ⟨#[]⟩, .pointer none]
  have hz : (w.alloc (.cells [.int .i64 v.id, .int .i64 v.kind, .int .i64 v.up, .int .i64 v.links, .string v.text, .pointer v.ptr].toArray 80)).heap.size = B + 1 := by simp [hB]
  rw [hz, hB] at h1
  clear hz
  have hf := fun wx => folder_calls v wx
  rw [show (v.kind == 1) = true by simp [hk]] at hf
  clear hk hee htb
  have hnd : ∀ it, getL (lookF F tb) (keyS part) = some it → WfI it.node := fun it hg => by
    have := hF.ents _ (lookF_in ht) it (List.mem_of_find?_eq_some hg)
    exact wfI_of (by omega) (by omega)
  have hK : ∀ wx l, FSIn w0 wx fb mb N F next l →
      Calls Tryz.prog 54 #[.string part] wx fun e w' => e = .returned (.string (keyS part)) ∧ FSIn w0 w' fb mb N F next l := fun wx l hx =>
    (key_calls hp wx (hx.ready hR)).mono fun e w' ⟨he, hb⟩ => ⟨he, hx.step hb⟩
  have hG : ∀ wx l, FSIn w0 wx fb mb N F next l →
      Calls Tryz.prog 107 #[.pointer (some ⟨tb, 0, none⟩), .string (keyS part)] wx fun e w' => e = .returned (getV (getL (lookF F tb) (keyS part))) ∧ FSIn w0 w' fb mb N F next l := fun wx l hx => by
    obtain ⟨rest, hT, hback⟩ := hx.treeSame ht
    exact (get_calls _ _ _ wx tb _ rest (keyS part) hT).mono fun e w' ⟨he, hT'⟩ => ⟨he, hback w' hT'⟩
  simp only [getV_eq] at hG
  generalize getL (lookF F tb) (keyS part) = g at hnd hG Hst
  obtain ⟨nm, hnm⟩ : ∃ nm, getN g = nm := ⟨_, rfl⟩
  obtain ⟨nd, hni⟩ : ∃ nd, getI g = nd := ⟨_, rfl⟩
  obtain ⟨bb, hbb⟩ : ∃ bb, g.isSome = bb := ⟨_, rfl⟩
  rw [hnm, hni, hbb] at hG
  have Hni := hide hni
  have Hbb := hide hbb
  clear hnm hni hbb
  generalize keyS part = key at hK hG
  unfold NV.val at hf ⊢
  rw [hvp] at h1 hf ⊢
  clear hvp
  have HK := hide hK
  have HG := hide hG
  have Hnd := hide hnd
  clear hK hG hnd hF ht hp hR
  have H1 := hide h1
  have Hf := hide hf
  clear h1 hf h
  go_enter Tryz.func148, Tryz.ntmps148
  go_wp2_with fail
  refine (unhide Hf _).mono ?_
  rintro e w2 ⟨rfl, hb2⟩
  have h2 := (unhide H1).step hb2
  clear hb2 H1 Hf hB
  obtain ⟨k0, k1, k2, k3, k4, k5, f0, f1, f2, f3, f4, f5⟩ := h2.six (b := B + 1) (.head _)
  obtain ⟨b0, b1, b2, b3, b4, b5, _⟩ := h2.six (b := B) (.tail _ (.head _))
  have b6 : ∀ o, (w2.alloc o).cell? ⟨B, 5, none⟩ = some (.pointer (some ⟨tb, 0, none⟩)) := fun o => Lib.cell?_alloc_some o b5
  have H2 := hide h2
  clear h2 b0 b1 b2 b3 b4 k0 k1 k2 k3 k4 k5 f0 f1 f2 f3 f4 f5
  go_wp2_with fail
  go_cut [8, 9] from 29 to 36 (fun a8 a9 wc => ∃ eb : Nat, a8 = .pointer (some ⟨eb, 0, none⟩) ∧ a9 = .bool bb ∧ Hid (FSIn w0 wc fb mb N F next (.cell eb 38 [.string nm, .int .i64 nd] :: .cell (B + 1) 80 [.int .i64 0, .int .i64 0, .int .i64 0, .int .i64 0, .string ⟨#[]⟩, .pointer none] :: .cell B 80 [.int .i64 v.id, .int .i64 v.kind, .int .i64 v.up, .int .i64 v.links, .string v.text, .pointer (some ⟨tb, 0, none⟩)] :: l2)))
  case first =>
    go_region_with (first | (go_at_call 54; (first | refine (unhide HK _ _ (unhide H2).drew).mono ?_ | refine (unhide HK _ _ ((unhide H2).madeD 38 [.string ⟨#[]⟩, .int .i64 0])).mono ?_); rintro e w3 ⟨rfl, h3⟩; (first | obtain ⟨_, _, _, _, _, d5, _⟩ := h3.six (b := B) (.tail _ (.head _)) | obtain ⟨_, _, _, _, _, d5, _⟩ := h3.six (b := B) (.tail _ (.tail _ (.head _)))); have d6 : ∀ o, (w3.alloc o).cell? ⟨B, 5, none⟩ = some (.pointer (some ⟨tb, 0, none⟩)) := fun o => Lib.cell?_alloc_some o d5; have H3 := hide h3; clear h3) | (go_at_call 107; (first | refine (unhide HG _ _ (unhide H3)).mono ?_ | refine (unhide HG _ _ ((unhide H3).made 38 [.string ⟨#[]⟩, .int .i64 0])).mono ?_); rintro e w4 ⟨rfl, h4⟩; (first | obtain ⟨e0, e1, g0, g1⟩ := h4.two (.head _) | skip); have H4 := hide h4; clear h4))
    all_goals (go_wp2_with fail; go_meet; first | exact ⟨_, rfl, rfl, (unhide H4).puttwo [] (.string nm) (.int .i64 nd)⟩ | exact ⟨_, rfl, rfl, (unhide H4).made 38 [.string nm, .int .i64 nd]⟩ | exact ⟨_, rfl, rfl, ((unhide H4).made 38 [.string ⟨#[]⟩, .int .i64 0]).puttwo [] (.string nm) (.int .i64 nd)⟩)
  case rest =>
    obtain ⟨eb, rfl, rfl, H5⟩ := hcut
    clear H2 b5 b6 HK HG
    have h5 := unhide H5
    obtain ⟨k0, k1, k2, k3, k4, k5, f0, f1, f2, f3, f4, f5⟩ := h5.six (b := B + 1) (.tail _ (.head _))
    cases g with
    | none =>
      have hb : bb = false := (unhide Hbb).symm
      subst hb
      clear h5
      go_wp2
      have h6 := (unhide H5).putsix [.cell eb 38 [.string nm, .int .i64 nd]] (.int .i64 0) (.int .i64 0) (.int .i64 0) (.int .i64 0) (.string ⟨#[]⟩) (.pointer none)
      refine bodyPost_ret (results_node (p := 6) (u := 7) rfl _ _ (B + 1) _ _ _ _ _ _ rfl rfl (h6.heapAt (t := 80) (.tail _ (.head _)))) rfl ?_
      exact ⟨by rw [unhide Hst]; rfl, ((h6.forget []).forget []).forget []⟩
    | some it =>
      have hb : bb = true := (unhide Hbb).symm
      subst hb
      have hi : it.node = nd := unhide Hni
      have hlk := h5.look (i := nd) (by rw [← hi]; exact unhide Hnd it rfl) wc.drew rfl
      have q0 := h5.map0
      obtain ⟨e0, e1, _⟩ := h5.two (b := eb) (.head _)
      have Hst2 : Hid (stepP N F v part = .ok (atN N nd)) := by rw [← hi]; exact unhide Hst
      generalize atN N nd = u at hlk Hst2
      unfold NV.val at hlk
      clear h5 hi Hst
      go_wp2_with fail
      go_region
      all_goals go_wp2_with fail
      have h6 := ((unhide H5).putsix [.cell eb 38 [.string nm, .int .i64 nd]] (.int .i64 u.id) (.int .i64 u.kind) (.int .i64 u.up) (.int .i64 u.links) (.string u.text) (.pointer u.ptr)).drew
      refine bodyPost_ret (results_node (p := 6) (u := 7) rfl _ _ (B + 1) _ _ _ _ _ _ rfl rfl (h6.heapAt (t := 80) (.tail _ (.head _)))) rfl ?_
      exact ⟨by rw [unhide Hst2]; rfl, ((h6.forget []).forget []).forget []⟩
theorem step_calls (hR : Ready w0) (h : FSIn w0 w fb mb N F next l2) (hF : Fits N F next) (hv : VOk F v) (hp : PartOk part) :
    Calls Tryz.prog 148 #[.pointer (some ⟨fb, 0, none⟩), v.val, .string part] w fun e w' => StepEnd w0 fb mb N F next l2 (stepP N F v part) e w' := by
  by_cases hk : v.kind = 1
  · cases h1 : (part.toList == [46])
    · cases h2 : (part.toList == [46, 46])
      · obtain ⟨tb, htb, ht⟩ := hv.1 hk
        have hc : checkP part = none := by
          rcases hp with hp | hp
          · unfold dotsB at hp
            rw [h1, h2] at hp
            cases hp
          · exact hp
        exact step_in w0 w fb mb N F next l2 v part hR h hF hk tb htb ht h1 h2 hc
      · exact step_up w0 w fb mb N F next l2 v part h hk h1 h2 hv.2
    · exact step_self w0 w fb mb N F next l2 v part h hk h1
  · exact step_kind w0 w fb mb N F next l2 v part h hk
end Go.Proofs.YtjpmomklkkifjaaGreatDoor.T
namespace Go.Proofs.YtjpmomklkkifjaaGreatDoor.T
open Go.RowKit
noncomputable def walkP (N : List NV) (F : Forest) : NV → List ByteArray → Except Int NV
  | v, [] => .ok v
  | v, p :: l => match stepP N F v p with | .ok u => walkP N F u l | .error k => .error k
def StrsIn (l2 : List Res) (v : Value) (l : List ByteArray) : Prop :=
  (v = .slice none 0 0 ∧ l = []) ∨ ∃ (pb c : Nat) (L : List ByteArray), v = .slice (some ⟨pb, 0, none⟩) l.length c ∧ l = L.take l.length ∧ Res.cell pb 9 (L.map Value.string) ∈ l2
theorem vOk_zero (F : Forest) : VOk F NV.zero := ⟨fun h => by simp [NV.zero] at h, wfI_of (by simp [NV.zero]) (by simp [NV.zero])⟩
theorem Fits.vok {N : List NV} {F : Forest} {next : Int} (h : Fits N F next) (i : Int) : VOk F (atN N i) := by
  unfold atN
  cases hf : findN N i with
  | none => exact vOk_zero F
  | some v =>
    have hv := (findN_some hf).1
    exact ⟨fun hk => h.tree v hv hk, wfI_of (by have := h.up v hv; show _ ≤ v.up; omega) (by have := h.up v hv; show v.up ≤ _; omega)⟩
theorem stepP_ok {N : List NV} {F : Forest} {next : Int} (h : Fits N F next) {v u : NV} (hv : VOk F v) {p : ByteArray} (he : stepP N F v p = .ok u) : VOk F u := by
  unfold stepP at he
  split at he
  · cases he
  split at he
  · cases he; exact hv
  split at he
  · cases he; exact h.vok _
  split at he
  · cases he
  · cases he; exact h.vok _
variable (w0 w : World) (fb mb : Nat) (N : List NV) (F : Forest) (next : Int) (l2 : List Res)
def cells6 (u : NV) : List Value := [.int .i64 u.id, .int .i64 u.kind, .int .i64 u.up, .int .i64 u.links, .string u.text, .pointer u.ptr]
theorem nodeRet_ok (u : NV) : nodeRet (.ok u) = .tuple #[.agg #[.int .i64 u.id, .int .i64 u.kind, .int .i64 u.up, .int .i64 u.links, .string u.text, .pointer u.ptr], .nilIface] := rfl
theorem nodeRet_error (k : Int) : nodeRet (.error k) = .tuple #[.agg #[.int .i64 0, .int .i64 0, .int .i64 0, .int .i64 0, .string ⟨#[]⟩, .pointer none], .iface 86 (.int .i64 k)] := rfl
set_option maxHeartbeats 4000000 in
theorem walk_calls (hR : Ready w0) (h : FSIn w0 w fb mb N F next l2) (hF : Fits N F next) (pv : Option Addr) (n c : Nat) (l : List ByteArray) (hl : l.length = n) (hn : n ≤ 100) (hs : StrsIn l2 (.slice pv n c) l) (hp : ∀ p ∈ l, PartOk p) :
    Calls Tryz.prog 103 #[.pointer (some ⟨fb, 0, none⟩), .slice pv n c] w fun e w' => StepEnd w0 fb mb N F next l2 (walkP N F (atN N 1) l) e w' := by
  obtain ⟨B, hB⟩ : ∃ B, w.heap.size = B := ⟨_, rfl⟩
  have h1 := h.made 80 [.int .i64 0, .int .i64 0, .int .i64 0, .int .i64 0, .string ⟨#[]⟩, .pointer none]
  have hlk : ∀ o, (Instr.lookup 75 (.map (some mb)) (.int .i64 1) false).run Tryz.prog (w.alloc o) = .ok (atN N 1).val (w.alloc o) := fun o => (h.alloc o).look (i := 1) (wfI_of (by omega) (by omega)) _ rfl
  have q0 := h.map0
  have q1 : ∀ o, (w.alloc o).cell? ⟨fb, 0, none⟩ = some (.map (some mb)) := fun o => (h.alloc o).map0
  obtain ⟨u0, hu0⟩ : ∃ u0, atN N 1 = u0 := ⟨_, rfl⟩
  have hv0 : VOk F u0 := by rw [← hu0]; exact hF.vok 1
  rw [hu0] at hlk ⊢
  unfold NV.val at hlk
  have h2 := h1.made 80 [.int .i64 u0.id, .int .i64 u0.kind, .int .i64 u0.up, .int .i64 u0.links, .string u0.text, .pointer u0.ptr]
  have hz : (w.alloc (.cells [.int .i64 0, .int .i64 0, .int .i64 0, .int .i64 0, .string ⟨#[]⟩, .pointer none].toArray 80)).heap.size = B + 1 := by simp [hB]
  rw [hz, hB] at h2
  have H2 := hide h2
  have HF := hide hF
  have Hv0 := hide hv0
  have HS := hide hs
  have HP := hide hp
  have HR := hide hR
  have Hl := hide hl
  clear h1 h2 h hF hv0 hu0 hs hp hR hz hl
  go_enter Tryz.func103, Tryz.ntmps103
  go_wp2_with fail
  go_loopg [17] (n + 1) (fun k i wr => ∃ (j : Nat) (u : NV), j ≤ n ∧ k = n + 1 - j ∧ i = .int .i64 j ∧ Hid (VOk F u) ∧ Hid (walkP N F u0 l = walkP N F u (l.drop j)) ∧ Hid (FSIn w0 wr fb mb N F next (.cell (B + 1) 80 [.int .i64 u.id, .int .i64 u.kind, .int .i64 u.up, .int .i64 u.links, .string u.text, .pointer u.ptr] :: .cell B 80 [.int .i64 0, .int .i64 0, .int .i64 0, .int .i64 0, .string ⟨#[]⟩, .pointer none] :: l2)))
  case atStart => exact ⟨0, u0, by omega, rfl, rfl, Hv0, rfl, H2⟩
  case round =>
    obtain ⟨j, u, hj, hk, rfl, Hv, Hw, HH⟩ := hrel
    clear H2 Hv0 hlk q0 q1
    have h3 := unhide HH
    obtain ⟨k0, k1, k2, k3, k4, k5, f0, f1, f2, f3, f4, f5⟩ := h3.six (b := B + 1) (.head _)
    by_cases hjn : j < n
    · have hjz : (j : Int) < (n : Int) := by omega
      rcases unhide HS with ⟨e1, e2⟩ | ⟨pb, c', L, e1, e2, hm⟩
      · exact absurd (unhide Hl) (by rw [e2]; simp; omega)
      · have hpv : pv = some ⟨pb, 0, none⟩ := by have := unhide Hl; rw [this] at e1; cases e1; rfl
        subst hpv
        have hjl : j < l.length := by rw [unhide Hl]; exact hjn
        obtain ⟨p, hp⟩ : ∃ p, l[j]? = some p := ⟨l[j], by simp [hjl]⟩
        have hpL : L[j]? = some p := by
          have h8 : (L.take l.length)[j]? = some p := by rw [← e2]; exact hp
          rw [List.getElem?_take, if_pos hjl] at h8
          exact h8
        have c0 : wr.cell? ⟨pb, j, none⟩ = some (.string p) := h3.cellAt (t := 9) (.tail _ (.tail _ hm)) (by simp [hpL])
        have hdrop : l.drop j = p :: l.drop (j + 1) := by
          rw [List.drop_eq_getElem_cons hjl]
          have : l[j] = p := (List.getElem?_eq_some_iff.1 hp).2
          rw [this]
        have hC := step_calls w0 wr fb mb N F next _ u p (unhide HR) h3 (unhide HF) (unhide Hv) (unhide HP p (List.mem_of_getElem? hp))
        have Hw2 : Hid (walkP N F u0 l = match stepP N F u p with | .ok x => walkP N F x (l.drop (j + 1)) | .error k => .error k) := (unhide Hw).trans (by rw [hdrop]; rfl)
        have Hok : Hid (∀ x, stepP N F u p = .ok x → VOk F x) := fun x hx => stepP_ok (unhide HF) (unhide Hv) hx
        unfold NV.val at hC
        have HC := hide hC
        clear hC hdrop hp hpL h3 e1 e2 hm Hw
        cases hr : stepP N F u p with
        | ok x =>
          rw [hr] at HC Hw2 Hok
          have Hx : Hid (VOk F x) := unhide Hok x rfl
          clear hr Hok
          simp only [StepEnd, nodeRet_ok] at HC
          go_wp2_with fail
          refine (unhide HC).mono ?_
          rintro e w3 ⟨rfl, h4⟩
          obtain ⟨g0, g1, g2, g3, g4, g5, o0, o1, o2, o3, o4, o5⟩ := h4.six (b := B + 1) (.head _)
          have H4 := hide h4
          clear h4 k0 k1 k2 k3 k4 k5 f0 f1 f2 f3 f4 f5 c0
          go_wp2
          go_roundg (n - j)
          case measure => omega
          case rel => exact ⟨j + 1, x, by omega, by omega, by simp, Hx, Hw2, (unhide H4).putsix [] _ _ _ _ _ _⟩
        | error k =>
          rw [hr] at HC Hw2
          clear hr Hok
          simp only [StepEnd, nodeRet_error] at HC
          go_wp2_with fail
          refine (unhide HC).mono ?_
          rintro e w3 ⟨rfl, h4⟩
          obtain ⟨g0, g1, g2, g3, g4, g5, o0, o1, o2, o3, o4, o5⟩ := h4.six (b := B + 1) (.head _)
          obtain ⟨y0, y1, y2, y3, y4, y5, r0, r1, r2, r3, r4, r5⟩ := h4.six (b := B) (.tail _ (.head _))
          have H4 := hide h4
          clear h4 k0 k1 k2 k3 k4 k5 f0 f1 f2 f3 f4 f5 c0
          go_wp2
          have h5 := ((unhide H4).putsix [] (.int .i64 0) (.int .i64 0) (.int .i64 0) (.int .i64 0) (.string ⟨#[]⟩) (.pointer none)).putsix [.cell (B + 1) 80 [.int .i64 0, .int .i64 0, .int .i64 0, .int .i64 0, .string ⟨#[]⟩, .pointer none]] (.int .i64 0) (.int .i64 0) (.int .i64 0) (.int .i64 0) (.string ⟨#[]⟩) (.pointer none)
          refine bodyPost_ret (results_node (p := 4) (u := 5) rfl _ _ B _ _ _ _ _ _ rfl rfl (h5.heapAt (t := 80) (.tail _ (.head _)))) rfl ?_
          exact ⟨by rw [unhide Hw2]; rfl, (h5.forget []).forget []⟩
    · have hjz : ¬ (j : Int) < (n : Int) := by omega
      obtain ⟨y0, y1, y2, y3, y4, y5, r0, r1, r2, r3, r4, r5⟩ := h3.six (b := B) (.tail _ (.head _))
      clear h3
      go_wp2
      have h5 := (unhide HH).putsix [.cell (B + 1) 80 [.int .i64 u.id, .int .i64 u.kind, .int .i64 u.up, .int .i64 u.links, .string u.text, .pointer u.ptr]] (.int .i64 u.id) (.int .i64 u.kind) (.int .i64 u.up) (.int .i64 u.links) (.string u.text) (.pointer u.ptr)
      refine bodyPost_ret (results_node (p := 4) (u := 5) rfl _ _ B _ _ _ _ _ _ rfl rfl (h5.heapAt (t := 80) (.tail _ (.head _)))) rfl ?_
      have he : walkP N F u0 l = .ok u := (unhide Hw).trans (by rw [List.drop_eq_nil_of_le (by rw [unhide Hl]; omega)]; rfl)
      exact ⟨by rw [he]; rfl, (h5.forget []).forget []⟩
noncomputable def findP (N : List NV) (F : Forest) (s : ByteArray) : Except Int NV :=
  match partsP s with | .error k => .error k | .ok l => walkP N F (atN N 1) l
theorem parts_ok {s : ByteArray} {l : List ByteArray} (h : partsP s = .ok l) : (∀ p ∈ l, PartOk p) ∧ l.length ≤ 6 := by
  unfold partsP at h
  split at h
  · cases h
  split at h
  · cases h
  split at h
  · cases h; exact ⟨by simp, by simp⟩
  split at h
  · cases h
  rename_i h6
  split at h
  · cases h
  rename_i hp
  cases h
  refine ⟨?_, by omega⟩
  have key : ∀ l : List ByteArray, partErr l = none → ∀ p ∈ l, PartOk p := by
    intro l
    induction l with
    | nil => intro _; simp
    | cons a l ih =>
      intro hn p hp
      unfold partErr at hn
      split at hn
      · rename_i hd
        rcases List.mem_cons.1 hp with rfl | hp
        · exact .inl hd
        · exact ih hn p hp
      · split at hn
        · rename_i hc
          rcases List.mem_cons.1 hp with rfl | hp
          · exact .inr hc
          · exact ih hn p hp
        · cases hn
  exact key _ hp
set_option maxHeartbeats 4000000 in
theorem ffind_calls (hR : Ready w0) (h : FSIn w0 w fb mb N F next l2) (hF : Fits N F next) (s : ByteArray) (hs : s.size ≤ 4000000000) :
    Calls Tryz.prog 57 #[.pointer (some ⟨fb, 0, none⟩), .string s] w fun e w' => StepEnd w0 fb mb N F next l2 (findP N F s) e w' := by
  obtain ⟨B, hB⟩ : ∃ B, w.heap.size = B := ⟨_, rfl⟩
  have h1 := h.made 80 [.int .i64 0, .int .i64 0, .int .i64 0, .int .i64 0, .string ⟨#[]⟩, .pointer none]
  rw [hB] at h1
  have hP := parts_calls s (w.alloc (.cells [.int .i64 0, .int .i64 0, .int .i64 0, .int .i64 0, .string ⟨#[]⟩, .pointer none].toArray 80)) (h1.ready hR) hs
  have Hfp : Hid (findP N F s = match partsP s with | .error k => .error k | .ok l => walkP N F (atN N 1) l) := rfl
  have Hpo : Hid (∀ l, partsP s = .ok l → (∀ p ∈ l, PartOk p) ∧ l.length ≤ 6) := fun l hl => parts_ok hl
  have H1 := hide h1
  have HF := hide hF
  have HR := hide hR
  clear h1 h hF hR
  unfold PartsEnd at hP
  cases hr : partsP s with
  | error k =>
    rw [hr] at hP Hfp
    have HP := hide hP
    clear hP hr Hpo
    go_enter Tryz.func57, Tryz.ntmps57
    go_wp2_with fail
    refine (unhide HP).mono ?_
    rintro e w2 ⟨hb2, rfl⟩
    have h2 := (unhide H1).step hb2
    obtain ⟨y0, y1, y2, y3, y4, y5, r0, r1, r2, r3, r4, r5⟩ := h2.six (b := B) (.head _)
    have H2 := hide h2
    clear h2 hb2 H1 HP hB
    go_wp2
    have h5 := (unhide H2).putsix [] (.int .i64 0) (.int .i64 0) (.int .i64 0) (.int .i64 0) (.string ⟨#[]⟩) (.pointer none)
    refine bodyPost_ret (results_node (p := 4) (u := 5) rfl _ _ B _ _ _ _ _ _ rfl rfl (h5.heapAt (t := 80) (.head _))) rfl ?_
    exact ⟨by rw [unhide Hfp]; rfl, h5.forget []⟩
  | ok l =>
    rw [hr] at hP Hfp
    obtain ⟨hpo, hle⟩ := unhide Hpo l hr
    have Hpo2 := hide hpo
    clear hpo Hpo hr
    cases l with
    | nil =>
      have HP := hide hP
      clear hP
      go_enter Tryz.func57, Tryz.ntmps57
      go_wp2_with fail
      refine (unhide HP).mono ?_
      rintro e w2 ⟨hb2, rfl⟩
      have h2 := (unhide H1).step hb2
      have hC := walk_calls w0 w2 fb mb N F next _ (unhide HR) h2 (unhide HF) none 0 0 [] rfl (by omega) (.inl ⟨rfl, rfl⟩) (by simp)
      have HC := hide hC
      clear h2 hb2 H1 HP hC hB
      generalize walkP N F (atN N 1) [] = r at HC Hfp
      cases r with
      | ok x =>
        simp only [StepEnd, nodeRet_ok] at HC
        go_wp2_with fail
        refine (unhide HC).mono ?_
        rintro e w3 ⟨rfl, h3⟩
        obtain ⟨y0, y1, y2, y3, y4, y5, r0, r1, r2, r3, r4, r5⟩ := h3.six (b := B) (.head _)
        have H3 := hide h3
        clear h3 HC
        go_wp2
        have h5 := (unhide H3).putsix [] (.int .i64 x.id) (.int .i64 x.kind) (.int .i64 x.up) (.int .i64 x.links) (.string x.text) (.pointer x.ptr)
        refine bodyPost_ret (results_node (p := 4) (u := 5) rfl _ _ B _ _ _ _ _ _ rfl rfl (h5.heapAt (t := 80) (.head _))) rfl ?_
        exact ⟨by rw [unhide Hfp]; rfl, h5.forget []⟩
      | error k =>
        simp only [StepEnd, nodeRet_error] at HC
        go_wp2_with fail
        refine (unhide HC).mono ?_
        rintro e w3 ⟨rfl, h3⟩
        obtain ⟨y0, y1, y2, y3, y4, y5, r0, r1, r2, r3, r4, r5⟩ := h3.six (b := B) (.head _)
        have H3 := hide h3
        clear h3 HC
        go_wp2
        have h5 := (unhide H3).putsix [] (.int .i64 0) (.int .i64 0) (.int .i64 0) (.int .i64 0) (.string ⟨#[]⟩) (.pointer none)
        refine bodyPost_ret (results_node (p := 4) (u := 5) rfl _ _ B _ _ _ _ _ _ rfl rfl (h5.heapAt (t := 80) (.head _))) rfl ?_
        exact ⟨by rw [unhide Hfp]; rfl, h5.forget []⟩
    | cons p l =>
      have HP := hide hP
      clear hP
      go_enter Tryz.func57, Tryz.ntmps57
      go_wp2_with fail
      refine (unhide HP).mono ?_
      rintro e w2 ⟨hb2, b, rfl, hb, hrow⟩
      have h2 := (unhide H1).found hb2 hb hrow
      have hC := walk_calls w0 w2 fb mb N F next _ (unhide HR) h2 (unhide HF) (some ⟨b, 0, none⟩) (l.length + 1) (l.length + 1) (p :: l) (by simp) (by simp at hle; omega) (.inr ⟨b, l.length + 1, p :: l, by simp, by simp, .head _⟩) (unhide Hpo2)
      have HC := hide hC
      obtain ⟨n, hn⟩ : ∃ n, l.length + 1 = n := ⟨_, rfl⟩
      rw [hn] at HC ⊢
      clear h2 hb2 H1 HP hC hB hb hrow hn hle
      generalize walkP N F (atN N 1) (p :: l) = r at HC Hfp
      cases r with
      | ok x =>
        simp only [StepEnd, nodeRet_ok] at HC
        go_wp2_with fail
        refine (unhide HC).mono ?_
        rintro e w3 ⟨rfl, h3⟩
        obtain ⟨y0, y1, y2, y3, y4, y5, r0, r1, r2, r3, r4, r5⟩ := h3.six (b := B) (.tail _ (.head _))
        have H3 := hide h3
        clear h3 HC
        go_wp2
        have h5 := (unhide H3).putsix [_] (.int .i64 x.id) (.int .i64 x.kind) (.int .i64 x.up) (.int .i64 x.links) (.string x.text) (.pointer x.ptr)
        refine bodyPost_ret (results_node (p := 4) (u := 5) rfl _ _ B _ _ _ _ _ _ rfl rfl (h5.heapAt (t := 80) (.tail _ (.head _)))) rfl ?_
        exact ⟨by rw [unhide Hfp]; rfl, (h5.forget []).forget []⟩
      | error k =>
        simp only [StepEnd, nodeRet_error] at HC
        go_wp2_with fail
        refine (unhide HC).mono ?_
        rintro e w3 ⟨rfl, h3⟩
        obtain ⟨y0, y1, y2, y3, y4, y5, r0, r1, r2, r3, r4, r5⟩ := h3.six (b := B) (.tail _ (.head _))
        have H3 := hide h3
        clear h3 HC
        go_wp2
        have h5 := (unhide H3).putsix [_] (.int .i64 0) (.int .i64 0) (.int .i64 0) (.int .i64 0) (.string ⟨#[]⟩) (.pointer none)
        refine bodyPost_ret (results_node (p := 4) (u := 5) rfl _ _ B _ _ _ _ _ _ rfl rfl (h5.heapAt (t := 80) (.tail _ (.head _)))) rfl ?_
        exact ⟨by rw [unhide Hfp]; rfl, (h5.forget []).forget []⟩
end Go.Proofs.YtjpmomklkkifjaaGreatDoor.T
