import Derived.Test.YtjpmomklkkifjaaGreatDoorCFMove
set_option maxRecDepth 100000
set_option linter.unusedVariables false
set_option linter.unusedSimpArgs false
namespace Go.Proofs.YtjpmomklkkifjaaGreatDoor.T
open Go.RowKit
noncomputable def movedP (N : List NV) (F : Forest) (p g : PL) (id : Int) : Option Int × List NV × Forest := (none, moveN N id g.v.id, putF (dropF F p.tb p.key) g.tb ⟨g.key, g.name, id⟩)
noncomputable def goesP (N : List NV) (F : Forest) (p g : PL) (it : Item) : Option Int × List NV × Forest :=
  if ((atN N it.node).kind == 1 && withinP N N.length g.v.id (atN N it.node).id) = true then (some 8, N, F) else match getL (lookF F g.tb) g.key with
    | none => movedP N F p g it.node
    | some o => if (g.v.id == p.v.id && g.key.toList == p.key.toList) = true then movedP N F p g it.node else if o.node = it.node then (none, N, F) else match mayGoP N F o.node (atN N it.node).kind with
      | some k => (some k, N, F)
      | none => movedP (unlinkN N o.node) (dropF F g.tb g.key) p g it.node
noncomputable def renameP (N : List NV) (F : Forest) (s t : ByteArray) : Option Int × List NV × Forest := match takenP N F s with
  | .error k => (some k, N, F)
  | .ok (p, it) => match placeP N F t with
    | .error k => (some k, N, F)
    | .ok g => goesP N F p g it
variable (w0 w : World) (fb mb : Nat) (N : List NV) (F : Forest) (next : Int) (l2 : List Res)
set_option maxHeartbeats 8000000 in
theorem rename_goes (hF : Fits N F next) (hL : ∀ v ∈ N, 0 ≤ v.links ∧ v.links ≤ 1000000) (s t : ByteArray) (p g : PL) (it : Item) (hpo : PlaceOk N F p) (hgo : PlaceOk N F g) (hn0 : 0 ≤ it.node ∧ it.node ≤ 999)
    (ht : Calls Tryz.prog 59 #[.pointer (some ⟨fb, 0, none⟩), .string s] w fun e w' => TakenEnd w0 fb mb N F next l2 (.ok (p, it)) e w')
    (hp : ∀ wx l, FSIn w0 wx fb mb N F next l → Calls Tryz.prog 60 #[.pointer (some ⟨fb, 0, none⟩), .string t] wx fun e w' => PlaceEnd w0 fb mb N F next l (.ok g) e w') :
    Calls Tryz.prog 26 #[.pointer (some ⟨fb, 0, none⟩), .string s, .string t] w fun e w' => e = .returned (errV (goesP N F p g it).1) ∧ FSIn w0 w' fb mb (goesP N F p g it).2.1 (goesP N F p g it).2.2 next l2 := by
  obtain ⟨hpb, hpt⟩ := hpo.tbs
  obtain ⟨hgb, hgt'⟩ := hgo.tbs
  have hkey : g.key.toList.isEmpty = false := by rw [hgo.key]; exact key_full hgo.name
  have hwf : WfI it.node := wfI_of (by omega) (by omega)
  have hgid := hF.id g.v hgo.inN
  have HN : Hid (N.length ≤ 1000) := by have := hF.few; show _ ≤ _; omega
  have HLk : Hid (∀ i, 0 ≤ (atN N i).links ∧ (atN N i).links ≤ 1000000) := links_at hL
  have Hgo : Hid (∀ o, getL (lookF F g.tb) g.key = some o → WfI o.node) := fun o ho => by
    have := hF.ents _ (lookF_in hgt') o (List.mem_of_find?_eq_some ho)
    exact wfI_of (by omega) (by omega)
  have hw := fun (wx : World) (l : List Res) (hx : FSIn w0 wx fb mb N F next l) => within_calls w0 wx fb mb N F next l hx hF g.v.id (atN N it.node).id (wfI_of (by omega) (by omega))
  have hgt := fun (wx : World) (l : List Res) (hx : FSIn w0 wx fb mb N F next l) => pget_calls w0 wx fb mb N F next l hx g g.tb hgb hgt'
  have hsm := fun (wx : World) => psame_calls wx g p
  have hmv : ∀ (N1 : List NV) (F1 : Forest), N1.length ≤ 1000 → p.tb ∈ F1.map (·.1) → g.tb ∈ F1.map (·.1) → ∀ wx l, FSIn w0 wx fb mb N1 F1 next l → Calls Tryz.prog 66 #[.pointer (some ⟨fb, 0, none⟩), .agg #[.int .i64 p.v.id, .int .i64 p.v.kind, .int .i64 p.v.up, .int .i64 p.v.links, .string p.v.text, .pointer p.v.ptr, .string p.key, .string p.name], .agg #[.int .i64 g.v.id, .int .i64 g.v.kind, .int .i64 g.v.up, .int .i64 g.v.links, .string g.v.text, .pointer g.v.ptr, .string g.key, .string g.name], .int .i64 it.node] wx fun e w' => e = .returned (.tuple #[]) ∧ FSIn w0 w' fb mb (movedP N1 F1 p g it.node).2.1 (movedP N1 F1 p g it.node).2.2 next l := fun N1 F1 h1 h2 h3 wx l hx => by
    have := move_calls w0 wx fb mb N1 F1 next l hx h1 p g p.tb g.tb hpb h2 hgb h3 hkey it.node hwf
    unfold PL.val at this
    exact this
  have hf := fun wx => folder_calls (atN N it.node) wx
  unfold goesP
  obtain ⟨u, hu⟩ : ∃ u, atN N it.node = u := ⟨_, rfl⟩
  rw [hu] at hw hf
  simp only [hu]
  generalize getL (lookF F g.tb) g.key = g0 at hgt Hgo ⊢
  generalize (g.v.id == p.v.id && g.key.toList == p.key.toList) = b2 at hsm ⊢
  generalize withinP N N.length g.v.id u.id = b1 at hw ⊢
  unfold PL.val at hgt hsm
  unfold NV.val at hf
  simp only [TakenEnd, takenRet, PL.val] at ht
  simp only [PlaceEnd, placeRet_ok] at hp
  have HT := hide ht
  have HP := hide hp
  have HF := hide hF
  have HL := hide hL
  have Hwf := hide hwf
  have Hu := hide hu
  have HSm := hide hsm
  have Hgb := hide hgb
  have Hgt' := hide hgt'
  have Hpt := hide hpt
  clear ht hp hF hL hwf hu hsm hgb hgt' hpt hpo hgo hpb hkey hgid hn0
  cases hk1 : (u.kind == 1) with
  | false =>
    rw [hk1] at hf
    have Hf := hide hf
    clear hf hw
    simp only [Bool.false_and, Bool.false_eq_true, if_false]
    cases g0 with
    | none =>
      rw [show getV none = .tuple #[.agg #[.string ⟨#[]⟩, .int .i64 0], .bool false] from rfl] at hgt
      have HGt := hide hgt
      have HMv := hide (hmv N F (unhide HN) (unhide Hpt) (unhide Hgt'))
      clear hgt hmv
      simp only
      go_enter Tryz.func26, Tryz.ntmps26
      go_wp2_with fail
      refine (unhide HT).mono ?_
      rintro e w2 ⟨rfl, h2⟩
      obtain ⟨C, hC⟩ : ∃ C, w2.heap.size = C := ⟨_, rfl⟩
      have h3 := (h2.made 96 [.int .i64 p.v.id, .int .i64 p.v.kind, .int .i64 p.v.up, .int .i64 p.v.links, .string p.v.text, .pointer p.v.ptr, .string p.key, .string p.name]).made 38 [.string it.name, .int .i64 it.node]
      have hz : (w2.alloc (.cells [.int .i64 p.v.id, .int .i64 p.v.kind, .int .i64 p.v.up, .int .i64 p.v.links, .string p.v.text, .pointer p.v.ptr, .string p.key, .string p.name].toArray 96)).heap.size = C + 1 := by simp [hC]
      rw [hz, hC] at h3
      obtain ⟨w3, hw3⟩ : ∃ w3, (w2.alloc (.cells [.int .i64 p.v.id, .int .i64 p.v.kind, .int .i64 p.v.up, .int .i64 p.v.links, .string p.v.text, .pointer p.v.ptr, .string p.key, .string p.name].toArray 96)).alloc (.cells [.string it.name, .int .i64 it.node].toArray 38) = w3 := ⟨_, rfl⟩
      rw [hw3] at h3
      have hp3 := unhide HP w3 _ h3
      have HP3 := hide hp3
      clear h2 hz HT hp3 h3 HP
      go_wp2_with fail
      refine (unhide HP3).mono ?_
      rintro e w4 ⟨rfl, h4⟩
      obtain ⟨D, hD⟩ : ∃ D, w4.heap.size = D := ⟨_, rfl⟩
      have h5 := h4.made 96 [.int .i64 g.v.id, .int .i64 g.v.kind, .int .i64 g.v.up, .int .i64 g.v.links, .string g.v.text, .pointer g.v.ptr, .string g.key, .string g.name]
      rw [hD] at h5
      obtain ⟨w5, hw5⟩ : ∃ w5, w4.alloc (.cells [.int .i64 g.v.id, .int .i64 g.v.kind, .int .i64 g.v.up, .int .i64 g.v.links, .string g.v.text, .pointer g.v.ptr, .string g.key, .string g.name].toArray 96) = w5 := ⟨_, rfl⟩
      rw [hw5] at h5
      obtain ⟨E, hE⟩ : ∃ E, w5.heap.size = E := ⟨_, rfl⟩
      have hA := h5.made 80 [.int .i64 0, .int .i64 0, .int .i64 0, .int .i64 0, .string ⟨#[]⟩, .pointer none]
      have q0 := h5.map0
      have q0a : ∀ o, (w5.alloc o).cell? ⟨fb, 0, none⟩ = some (.map (some mb)) := fun o => Lib.cell?_alloc_some o q0
      have e1 : w5.cell? ⟨C + 1, 1, none⟩ = some (.int .i64 it.node) := h5.cellAt (.tail _ (.head _)) rfl
      have e1a : ∀ o, (w5.alloc o).cell? ⟨C + 1, 1, none⟩ = some (.int .i64 it.node) := fun o => Lib.cell?_alloc_some o e1
      have hlk := h5.look (unhide Hwf) w5.drew rfl
      have hlka := hA.look (unhide Hwf) (w5.alloc (.cells #[.int .i64 0, .int .i64 0, .int .i64 0, .int .i64 0, .string ⟨#[]⟩, .pointer none] 80)).drew rfl
      rw [unhide Hu] at hlk hlka
      unfold NV.val at hlk hlka
      have HU : Hid (FSIn w0 (w5.alloc (.cells #[.int .i64 u.id, .int .i64 u.kind, .int .i64 u.up, .int .i64 u.links, .string u.text, .pointer u.ptr] 80)).drew fb mb N F next (.cell E 80 [.int .i64 u.id, .int .i64 u.kind, .int .i64 u.up, .int .i64 u.links, .string u.text, .pointer u.ptr] :: .cell D 96 [.int .i64 g.v.id, .int .i64 g.v.kind, .int .i64 g.v.up, .int .i64 g.v.links, .string g.v.text, .pointer g.v.ptr, .string g.key, .string g.name] :: .cell (C + 1) 38 [.string it.name, .int .i64 it.node] :: .cell C 96 [.int .i64 p.v.id, .int .i64 p.v.kind, .int .i64 p.v.up, .int .i64 p.v.links, .string p.v.text, .pointer p.v.ptr, .string p.key, .string p.name] :: l2)) := by
        rw [← hE]; exact (h5.made 80 [.int .i64 u.id, .int .i64 u.kind, .int .i64 u.up, .int .i64 u.links, .string u.text, .pointer u.ptr]).drew
      clear h4 h5 hA HP3
      go_wp2_with fail
      go_cut [11] from 34 to 40 (fun a11 wc => ∃ nb : Nat, a11 = .pointer (some ⟨nb, 0, none⟩) ∧ Hid (FSIn w0 wc fb mb N F next (.cell nb 80 [.int .i64 u.id, .int .i64 u.kind, .int .i64 u.up, .int .i64 u.links, .string u.text, .pointer u.ptr] :: .cell D 96 [.int .i64 g.v.id, .int .i64 g.v.kind, .int .i64 g.v.up, .int .i64 g.v.links, .string g.v.text, .pointer g.v.ptr, .string g.key, .string g.name] :: .cell (C + 1) 38 [.string it.name, .int .i64 it.node] :: .cell C 96 [.int .i64 p.v.id, .int .i64 p.v.kind, .int .i64 p.v.up, .int .i64 p.v.links, .string p.v.text, .pointer p.v.ptr, .string p.key, .string p.name] :: l2)))
      case first =>
        go_region
        all_goals (go_wp2_with fail; go_meet; exact ⟨_, rfl, HU⟩)
      case rest =>
        obtain ⟨nb, rfl, H7⟩ := hcut
        clear hlk hlka q0 q0a e1 e1a HU
        obtain ⟨x4_0, x4_1, x4_2, x4_3, x4_4, x4_5, _⟩ := (unhide H7).six (b := nb) (.head _)
        go_wp2_with fail
        refine (unhide Hf _).mono ?_
        rintro e w8 ⟨rfl, hb8⟩
        have h8 := (unhide H7).step hb8
        clear hb8 Hf H7
        obtain ⟨x5_0, x5_1, x5_2, x5_3, x5_4, x5_5, x5_6, x5_7, _⟩ := h8.eight (b := D) (.tail _ (.head _))
        have H8 := hide h8
        clear h8
        have hg8 := unhide HGt _ _ (unhide H8)
        have HG8 := hide hg8
        clear hg8 HGt
        go_wp2_with fail
        refine (unhide HG8).mono ?_
        rintro e w9 ⟨rfl, h9⟩
        obtain ⟨G, hG⟩ : ∃ G, w9.heap.size = G := ⟨_, rfl⟩
        have h10 := h9.made 38 [.string ⟨#[]⟩, .int .i64 0]
        rw [hG] at h10
        clear h9 HG8 H8
        obtain ⟨x1_0, x1_1, x1_2, x1_3, x1_4, x1_5, x1_6, x1_7, _⟩ := h10.eight (b := C) (.tail _ (.tail _ (.tail _ (.tail _ (.head _)))))
        obtain ⟨x2_0, x2_1, x2_2, x2_3, x2_4, x2_5, x2_6, x2_7, _⟩ := h10.eight (b := D) (.tail _ (.tail _ (.head _)))
        obtain ⟨x3_0, x3_1, _⟩ := h10.two (b := (C + 1)) (.tail _ (.tail _ (.tail _ (.head _))))
        have hmv := unhide HMv _ _ h10
        have HMV := hide hmv
        clear h10 hmv HMv
        go_wp2_with fail
        refine (unhide HMV).mono ?_
        rintro e w14 ⟨rfl, h14⟩
        have H14 := hide h14
        clear h14 HMV
        go_wp2_with fail
        go_ret
        exact ⟨rfl, (((((unhide H14).forget []).forget []).forget []).forget []).forget []⟩
    | some o =>
      rw [show getV (some o) = .tuple #[.agg #[.string o.name, .int .i64 o.node], .bool true] from rfl] at hgt
      have HGt := hide hgt
      clear hgt
      simp only
      cases b2 with
      | true =>
        have HMv := hide (hmv N F (unhide HN) (unhide Hpt) (unhide Hgt'))
        clear hmv
        simp only [if_true]
        go_enter Tryz.func26, Tryz.ntmps26
        go_wp2_with fail
        refine (unhide HT).mono ?_
        rintro e w2 ⟨rfl, h2⟩
        obtain ⟨C, hC⟩ : ∃ C, w2.heap.size = C := ⟨_, rfl⟩
        have h3 := (h2.made 96 [.int .i64 p.v.id, .int .i64 p.v.kind, .int .i64 p.v.up, .int .i64 p.v.links, .string p.v.text, .pointer p.v.ptr, .string p.key, .string p.name]).made 38 [.string it.name, .int .i64 it.node]
        have hz : (w2.alloc (.cells [.int .i64 p.v.id, .int .i64 p.v.kind, .int .i64 p.v.up, .int .i64 p.v.links, .string p.v.text, .pointer p.v.ptr, .string p.key, .string p.name].toArray 96)).heap.size = C + 1 := by simp [hC]
        rw [hz, hC] at h3
        obtain ⟨w3, hw3⟩ : ∃ w3, (w2.alloc (.cells [.int .i64 p.v.id, .int .i64 p.v.kind, .int .i64 p.v.up, .int .i64 p.v.links, .string p.v.text, .pointer p.v.ptr, .string p.key, .string p.name].toArray 96)).alloc (.cells [.string it.name, .int .i64 it.node].toArray 38) = w3 := ⟨_, rfl⟩
        rw [hw3] at h3
        have hp3 := unhide HP w3 _ h3
        have HP3 := hide hp3
        clear h2 hz HT hp3 h3 HP
        go_wp2_with fail
        refine (unhide HP3).mono ?_
        rintro e w4 ⟨rfl, h4⟩
        obtain ⟨D, hD⟩ : ∃ D, w4.heap.size = D := ⟨_, rfl⟩
        have h5 := h4.made 96 [.int .i64 g.v.id, .int .i64 g.v.kind, .int .i64 g.v.up, .int .i64 g.v.links, .string g.v.text, .pointer g.v.ptr, .string g.key, .string g.name]
        rw [hD] at h5
        obtain ⟨w5, hw5⟩ : ∃ w5, w4.alloc (.cells [.int .i64 g.v.id, .int .i64 g.v.kind, .int .i64 g.v.up, .int .i64 g.v.links, .string g.v.text, .pointer g.v.ptr, .string g.key, .string g.name].toArray 96) = w5 := ⟨_, rfl⟩
        rw [hw5] at h5
        obtain ⟨E, hE⟩ : ∃ E, w5.heap.size = E := ⟨_, rfl⟩
        have hA := h5.made 80 [.int .i64 0, .int .i64 0, .int .i64 0, .int .i64 0, .string ⟨#[]⟩, .pointer none]
        have q0 := h5.map0
        have q0a : ∀ o, (w5.alloc o).cell? ⟨fb, 0, none⟩ = some (.map (some mb)) := fun o => Lib.cell?_alloc_some o q0
        have e1 : w5.cell? ⟨C + 1, 1, none⟩ = some (.int .i64 it.node) := h5.cellAt (.tail _ (.head _)) rfl
        have e1a : ∀ o, (w5.alloc o).cell? ⟨C + 1, 1, none⟩ = some (.int .i64 it.node) := fun o => Lib.cell?_alloc_some o e1
        have hlk := h5.look (unhide Hwf) w5.drew rfl
        have hlka := hA.look (unhide Hwf) (w5.alloc (.cells #[.int .i64 0, .int .i64 0, .int .i64 0, .int .i64 0, .string ⟨#[]⟩, .pointer none] 80)).drew rfl
        rw [unhide Hu] at hlk hlka
        unfold NV.val at hlk hlka
        have HU : Hid (FSIn w0 (w5.alloc (.cells #[.int .i64 u.id, .int .i64 u.kind, .int .i64 u.up, .int .i64 u.links, .string u.text, .pointer u.ptr] 80)).drew fb mb N F next (.cell E 80 [.int .i64 u.id, .int .i64 u.kind, .int .i64 u.up, .int .i64 u.links, .string u.text, .pointer u.ptr] :: .cell D 96 [.int .i64 g.v.id, .int .i64 g.v.kind, .int .i64 g.v.up, .int .i64 g.v.links, .string g.v.text, .pointer g.v.ptr, .string g.key, .string g.name] :: .cell (C + 1) 38 [.string it.name, .int .i64 it.node] :: .cell C 96 [.int .i64 p.v.id, .int .i64 p.v.kind, .int .i64 p.v.up, .int .i64 p.v.links, .string p.v.text, .pointer p.v.ptr, .string p.key, .string p.name] :: l2)) := by
          rw [← hE]; exact (h5.made 80 [.int .i64 u.id, .int .i64 u.kind, .int .i64 u.up, .int .i64 u.links, .string u.text, .pointer u.ptr]).drew
        clear h4 h5 hA HP3
        go_wp2_with fail
        go_cut [11] from 34 to 40 (fun a11 wc => ∃ nb : Nat, a11 = .pointer (some ⟨nb, 0, none⟩) ∧ Hid (FSIn w0 wc fb mb N F next (.cell nb 80 [.int .i64 u.id, .int .i64 u.kind, .int .i64 u.up, .int .i64 u.links, .string u.text, .pointer u.ptr] :: .cell D 96 [.int .i64 g.v.id, .int .i64 g.v.kind, .int .i64 g.v.up, .int .i64 g.v.links, .string g.v.text, .pointer g.v.ptr, .string g.key, .string g.name] :: .cell (C + 1) 38 [.string it.name, .int .i64 it.node] :: .cell C 96 [.int .i64 p.v.id, .int .i64 p.v.kind, .int .i64 p.v.up, .int .i64 p.v.links, .string p.v.text, .pointer p.v.ptr, .string p.key, .string p.name] :: l2)))
        case first =>
          go_region
          all_goals (go_wp2_with fail; go_meet; exact ⟨_, rfl, HU⟩)
        case rest =>
          obtain ⟨nb, rfl, H7⟩ := hcut
          clear hlk hlka q0 q0a e1 e1a HU
          obtain ⟨x11_0, x11_1, x11_2, x11_3, x11_4, x11_5, _⟩ := (unhide H7).six (b := nb) (.head _)
          go_wp2_with fail
          refine (unhide Hf _).mono ?_
          rintro e w8 ⟨rfl, hb8⟩
          have h8 := (unhide H7).step hb8
          clear hb8 Hf H7
          obtain ⟨x12_0, x12_1, x12_2, x12_3, x12_4, x12_5, x12_6, x12_7, _⟩ := h8.eight (b := D) (.tail _ (.head _))
          have H8 := hide h8
          clear h8
          have hg8 := unhide HGt _ _ (unhide H8)
          have HG8 := hide hg8
          clear hg8 HGt
          go_wp2_with fail
          refine (unhide HG8).mono ?_
          rintro e w9 ⟨rfl, h9⟩
          obtain ⟨G, hG⟩ : ∃ G, w9.heap.size = G := ⟨_, rfl⟩
          have h10 := h9.made 38 [.string o.name, .int .i64 o.node]
          rw [hG] at h10
          obtain ⟨w10, hw10⟩ : ∃ w10, w9.alloc (.cells [.string o.name, .int .i64 o.node].toArray 38) = w10 := ⟨_, rfl⟩
          rw [hw10] at h10
          clear h9 HG8 H8
          obtain ⟨x6_0, x6_1, x6_2, x6_3, x6_4, x6_5, x6_6, x6_7, _⟩ := h10.eight (b := D) (.tail _ (.tail _ (.head _)))
          obtain ⟨x7_0, x7_1, x7_2, x7_3, x7_4, x7_5, x7_6, x7_7, _⟩ := h10.eight (b := C) (.tail _ (.tail _ (.tail _ (.tail _ (.head _)))))
          have H10 := hide h10
          clear h10
          go_wp2_with fail
          refine (unhide HSm _).mono ?_
          rintro e w11 ⟨rfl, hb11⟩
          have h11 := (unhide H10).step hb11
          clear hb11 HSm H10
          obtain ⟨x8_0, x8_1, x8_2, x8_3, x8_4, x8_5, x8_6, x8_7, _⟩ := h11.eight (b := C) (.tail _ (.tail _ (.tail _ (.tail _ (.head _)))))
          obtain ⟨x9_0, x9_1, x9_2, x9_3, x9_4, x9_5, x9_6, x9_7, _⟩ := h11.eight (b := D) (.tail _ (.tail _ (.head _)))
          obtain ⟨x10_0, x10_1, _⟩ := h11.two (b := (C + 1)) (.tail _ (.tail _ (.tail _ (.head _))))
          have hmv := unhide HMv _ _ h11
          have HMV := hide hmv
          clear h11 hmv HMv
          go_wp2_with fail
          refine (unhide HMV).mono ?_
          rintro e w14 ⟨rfl, h14⟩
          have H14 := hide h14
          clear h14 HMV
          go_wp2_with fail
          go_ret
          exact ⟨rfl, (((((unhide H14).forget []).forget []).forget []).forget []).forget []⟩
      | false =>
        simp only [Bool.false_eq_true, if_false]
        by_cases hnn : o.node = it.node
        · have hnz : (o.node == it.node) = true := by simpa using hnn
          simp only [if_pos hnn]
          clear hmv hnn
          go_enter Tryz.func26, Tryz.ntmps26
          go_wp2_with fail
          refine (unhide HT).mono ?_
          rintro e w2 ⟨rfl, h2⟩
          obtain ⟨C, hC⟩ : ∃ C, w2.heap.size = C := ⟨_, rfl⟩
          have h3 := (h2.made 96 [.int .i64 p.v.id, .int .i64 p.v.kind, .int .i64 p.v.up, .int .i64 p.v.links, .string p.v.text, .pointer p.v.ptr, .string p.key, .string p.name]).made 38 [.string it.name, .int .i64 it.node]
          have hz : (w2.alloc (.cells [.int .i64 p.v.id, .int .i64 p.v.kind, .int .i64 p.v.up, .int .i64 p.v.links, .string p.v.text, .pointer p.v.ptr, .string p.key, .string p.name].toArray 96)).heap.size = C + 1 := by simp [hC]
          rw [hz, hC] at h3
          obtain ⟨w3, hw3⟩ : ∃ w3, (w2.alloc (.cells [.int .i64 p.v.id, .int .i64 p.v.kind, .int .i64 p.v.up, .int .i64 p.v.links, .string p.v.text, .pointer p.v.ptr, .string p.key, .string p.name].toArray 96)).alloc (.cells [.string it.name, .int .i64 it.node].toArray 38) = w3 := ⟨_, rfl⟩
          rw [hw3] at h3
          have hp3 := unhide HP w3 _ h3
          have HP3 := hide hp3
          clear h2 hz HT hp3 h3 HP
          go_wp2_with fail
          refine (unhide HP3).mono ?_
          rintro e w4 ⟨rfl, h4⟩
          obtain ⟨D, hD⟩ : ∃ D, w4.heap.size = D := ⟨_, rfl⟩
          have h5 := h4.made 96 [.int .i64 g.v.id, .int .i64 g.v.kind, .int .i64 g.v.up, .int .i64 g.v.links, .string g.v.text, .pointer g.v.ptr, .string g.key, .string g.name]
          rw [hD] at h5
          obtain ⟨w5, hw5⟩ : ∃ w5, w4.alloc (.cells [.int .i64 g.v.id, .int .i64 g.v.kind, .int .i64 g.v.up, .int .i64 g.v.links, .string g.v.text, .pointer g.v.ptr, .string g.key, .string g.name].toArray 96) = w5 := ⟨_, rfl⟩
          rw [hw5] at h5
          obtain ⟨E, hE⟩ : ∃ E, w5.heap.size = E := ⟨_, rfl⟩
          have hA := h5.made 80 [.int .i64 0, .int .i64 0, .int .i64 0, .int .i64 0, .string ⟨#[]⟩, .pointer none]
          have q0 := h5.map0
          have q0a : ∀ o, (w5.alloc o).cell? ⟨fb, 0, none⟩ = some (.map (some mb)) := fun o => Lib.cell?_alloc_some o q0
          have e1 : w5.cell? ⟨C + 1, 1, none⟩ = some (.int .i64 it.node) := h5.cellAt (.tail _ (.head _)) rfl
          have e1a : ∀ o, (w5.alloc o).cell? ⟨C + 1, 1, none⟩ = some (.int .i64 it.node) := fun o => Lib.cell?_alloc_some o e1
          have hlk := h5.look (unhide Hwf) w5.drew rfl
          have hlka := hA.look (unhide Hwf) (w5.alloc (.cells #[.int .i64 0, .int .i64 0, .int .i64 0, .int .i64 0, .string ⟨#[]⟩, .pointer none] 80)).drew rfl
          rw [unhide Hu] at hlk hlka
          unfold NV.val at hlk hlka
          have HU : Hid (FSIn w0 (w5.alloc (.cells #[.int .i64 u.id, .int .i64 u.kind, .int .i64 u.up, .int .i64 u.links, .string u.text, .pointer u.ptr] 80)).drew fb mb N F next (.cell E 80 [.int .i64 u.id, .int .i64 u.kind, .int .i64 u.up, .int .i64 u.links, .string u.text, .pointer u.ptr] :: .cell D 96 [.int .i64 g.v.id, .int .i64 g.v.kind, .int .i64 g.v.up, .int .i64 g.v.links, .string g.v.text, .pointer g.v.ptr, .string g.key, .string g.name] :: .cell (C + 1) 38 [.string it.name, .int .i64 it.node] :: .cell C 96 [.int .i64 p.v.id, .int .i64 p.v.kind, .int .i64 p.v.up, .int .i64 p.v.links, .string p.v.text, .pointer p.v.ptr, .string p.key, .string p.name] :: l2)) := by
            rw [← hE]; exact (h5.made 80 [.int .i64 u.id, .int .i64 u.kind, .int .i64 u.up, .int .i64 u.links, .string u.text, .pointer u.ptr]).drew
          clear h4 h5 hA HP3
          go_wp2_with fail
          go_cut [11] from 34 to 40 (fun a11 wc => ∃ nb : Nat, a11 = .pointer (some ⟨nb, 0, none⟩) ∧ Hid (FSIn w0 wc fb mb N F next (.cell nb 80 [.int .i64 u.id, .int .i64 u.kind, .int .i64 u.up, .int .i64 u.links, .string u.text, .pointer u.ptr] :: .cell D 96 [.int .i64 g.v.id, .int .i64 g.v.kind, .int .i64 g.v.up, .int .i64 g.v.links, .string g.v.text, .pointer g.v.ptr, .string g.key, .string g.name] :: .cell (C + 1) 38 [.string it.name, .int .i64 it.node] :: .cell C 96 [.int .i64 p.v.id, .int .i64 p.v.kind, .int .i64 p.v.up, .int .i64 p.v.links, .string p.v.text, .pointer p.v.ptr, .string p.key, .string p.name] :: l2)))
          case first =>
            go_region
            all_goals (go_wp2_with fail; go_meet; exact ⟨_, rfl, HU⟩)
          case rest =>
            obtain ⟨nb, rfl, H7⟩ := hcut
            clear hlk hlka q0 q0a e1 e1a HU
            obtain ⟨x17_0, x17_1, x17_2, x17_3, x17_4, x17_5, _⟩ := (unhide H7).six (b := nb) (.head _)
            go_wp2_with fail
            refine (unhide Hf _).mono ?_
            rintro e w8 ⟨rfl, hb8⟩
            have h8 := (unhide H7).step hb8
            clear hb8 Hf H7
            obtain ⟨x18_0, x18_1, x18_2, x18_3, x18_4, x18_5, x18_6, x18_7, _⟩ := h8.eight (b := D) (.tail _ (.head _))
            have H8 := hide h8
            clear h8
            have hg8 := unhide HGt _ _ (unhide H8)
            have HG8 := hide hg8
            clear hg8 HGt
            go_wp2_with fail
            refine (unhide HG8).mono ?_
            rintro e w9 ⟨rfl, h9⟩
            obtain ⟨G, hG⟩ : ∃ G, w9.heap.size = G := ⟨_, rfl⟩
            have h10 := h9.made 38 [.string o.name, .int .i64 o.node]
            rw [hG] at h10
            obtain ⟨w10, hw10⟩ : ∃ w10, w9.alloc (.cells [.string o.name, .int .i64 o.node].toArray 38) = w10 := ⟨_, rfl⟩
            rw [hw10] at h10
            clear h9 HG8 H8
            obtain ⟨x13_0, x13_1, x13_2, x13_3, x13_4, x13_5, x13_6, x13_7, _⟩ := h10.eight (b := D) (.tail _ (.tail _ (.head _)))
            obtain ⟨x14_0, x14_1, x14_2, x14_3, x14_4, x14_5, x14_6, x14_7, _⟩ := h10.eight (b := C) (.tail _ (.tail _ (.tail _ (.tail _ (.head _)))))
            have H10 := hide h10
            clear h10
            go_wp2_with fail
            refine (unhide HSm _).mono ?_
            rintro e w11 ⟨rfl, hb11⟩
            have h11 := (unhide H10).step hb11
            clear hb11 HSm H10
            obtain ⟨x15_0, x15_1, _⟩ := h11.two (b := G) (.head _)
            obtain ⟨x16_0, x16_1, _⟩ := h11.two (b := (C + 1)) (.tail _ (.tail _ (.tail _ (.head _))))
            have H11 := hide h11
            clear h11
            go_wp2_with fail
            go_ret
            exact ⟨rfl, (((((unhide H11).forget []).forget []).forget []).forget []).forget []⟩
        · have hnz : (o.node == it.node) = false := by simpa using hnn
          simp only [if_neg hnn]
          have hwo := unhide Hgo o rfl
          have hmg := fun (wx : World) (l : List Res) (hx : FSIn w0 wx fb mb N F next l) => mayGo_calls w0 wx fb mb N F next l hx (unhide HF) o.name o.node u.kind hwo
          have HUn : Hid (∀ wx l, FSIn w0 wx fb mb N F next l → Calls Tryz.prog 65 #[.pointer (some ⟨fb, 0, none⟩), .agg #[.int .i64 g.v.id, .int .i64 g.v.kind, .int .i64 g.v.up, .int .i64 g.v.links, .string g.v.text, .pointer g.v.ptr, .string g.key, .string g.name], .agg #[.string o.name, .int .i64 o.node]] wx fun e w' => e = .returned (.tuple #[]) ∧ FSIn w0 w' fb mb (unlinkN N o.node) (dropF F g.tb g.key) next l) := fun wx l hx => by
            have := unlink_calls w0 wx fb mb N F next l hx (unhide HN) g g.tb (unhide Hgb) (unhide Hgt') o.name o.node hwo (unhide HLk o.node)
            unfold PL.val at this
            exact this
          generalize mayGoP N F o.node u.kind = r3 at hmg ⊢
          clear hnn
          cases r3 with
          | some k =>
            simp only [errV] at hmg ⊢
            have HMg := hide hmg
            clear hmg hmv HUn
            go_enter Tryz.func26, Tryz.ntmps26
            go_wp2_with fail
            refine (unhide HT).mono ?_
            rintro e w2 ⟨rfl, h2⟩
            obtain ⟨C, hC⟩ : ∃ C, w2.heap.size = C := ⟨_, rfl⟩
            have h3 := (h2.made 96 [.int .i64 p.v.id, .int .i64 p.v.kind, .int .i64 p.v.up, .int .i64 p.v.links, .string p.v.text, .pointer p.v.ptr, .string p.key, .string p.name]).made 38 [.string it.name, .int .i64 it.node]
            have hz : (w2.alloc (.cells [.int .i64 p.v.id, .int .i64 p.v.kind, .int .i64 p.v.up, .int .i64 p.v.links, .string p.v.text, .pointer p.v.ptr, .string p.key, .string p.name].toArray 96)).heap.size = C + 1 := by simp [hC]
            rw [hz, hC] at h3
            obtain ⟨w3, hw3⟩ : ∃ w3, (w2.alloc (.cells [.int .i64 p.v.id, .int .i64 p.v.kind, .int .i64 p.v.up, .int .i64 p.v.links, .string p.v.text, .pointer p.v.ptr, .string p.key, .string p.name].toArray 96)).alloc (.cells [.string it.name, .int .i64 it.node].toArray 38) = w3 := ⟨_, rfl⟩
            rw [hw3] at h3
            have hp3 := unhide HP w3 _ h3
            have HP3 := hide hp3
            clear h2 hz HT hp3 h3 HP
            go_wp2_with fail
            refine (unhide HP3).mono ?_
            rintro e w4 ⟨rfl, h4⟩
            obtain ⟨D, hD⟩ : ∃ D, w4.heap.size = D := ⟨_, rfl⟩
            have h5 := h4.made 96 [.int .i64 g.v.id, .int .i64 g.v.kind, .int .i64 g.v.up, .int .i64 g.v.links, .string g.v.text, .pointer g.v.ptr, .string g.key, .string g.name]
            rw [hD] at h5
            obtain ⟨w5, hw5⟩ : ∃ w5, w4.alloc (.cells [.int .i64 g.v.id, .int .i64 g.v.kind, .int .i64 g.v.up, .int .i64 g.v.links, .string g.v.text, .pointer g.v.ptr, .string g.key, .string g.name].toArray 96) = w5 := ⟨_, rfl⟩
            rw [hw5] at h5
            obtain ⟨E, hE⟩ : ∃ E, w5.heap.size = E := ⟨_, rfl⟩
            have hA := h5.made 80 [.int .i64 0, .int .i64 0, .int .i64 0, .int .i64 0, .string ⟨#[]⟩, .pointer none]
            have q0 := h5.map0
            have q0a : ∀ o, (w5.alloc o).cell? ⟨fb, 0, none⟩ = some (.map (some mb)) := fun o => Lib.cell?_alloc_some o q0
            have e1 : w5.cell? ⟨C + 1, 1, none⟩ = some (.int .i64 it.node) := h5.cellAt (.tail _ (.head _)) rfl
            have e1a : ∀ o, (w5.alloc o).cell? ⟨C + 1, 1, none⟩ = some (.int .i64 it.node) := fun o => Lib.cell?_alloc_some o e1
            have hlk := h5.look (unhide Hwf) w5.drew rfl
            have hlka := hA.look (unhide Hwf) (w5.alloc (.cells #[.int .i64 0, .int .i64 0, .int .i64 0, .int .i64 0, .string ⟨#[]⟩, .pointer none] 80)).drew rfl
            rw [unhide Hu] at hlk hlka
            unfold NV.val at hlk hlka
            have HU : Hid (FSIn w0 (w5.alloc (.cells #[.int .i64 u.id, .int .i64 u.kind, .int .i64 u.up, .int .i64 u.links, .string u.text, .pointer u.ptr] 80)).drew fb mb N F next (.cell E 80 [.int .i64 u.id, .int .i64 u.kind, .int .i64 u.up, .int .i64 u.links, .string u.text, .pointer u.ptr] :: .cell D 96 [.int .i64 g.v.id, .int .i64 g.v.kind, .int .i64 g.v.up, .int .i64 g.v.links, .string g.v.text, .pointer g.v.ptr, .string g.key, .string g.name] :: .cell (C + 1) 38 [.string it.name, .int .i64 it.node] :: .cell C 96 [.int .i64 p.v.id, .int .i64 p.v.kind, .int .i64 p.v.up, .int .i64 p.v.links, .string p.v.text, .pointer p.v.ptr, .string p.key, .string p.name] :: l2)) := by
              rw [← hE]; exact (h5.made 80 [.int .i64 u.id, .int .i64 u.kind, .int .i64 u.up, .int .i64 u.links, .string u.text, .pointer u.ptr]).drew
            clear h4 h5 hA HP3
            go_wp2_with fail
            go_cut [11] from 34 to 40 (fun a11 wc => ∃ nb : Nat, a11 = .pointer (some ⟨nb, 0, none⟩) ∧ Hid (FSIn w0 wc fb mb N F next (.cell nb 80 [.int .i64 u.id, .int .i64 u.kind, .int .i64 u.up, .int .i64 u.links, .string u.text, .pointer u.ptr] :: .cell D 96 [.int .i64 g.v.id, .int .i64 g.v.kind, .int .i64 g.v.up, .int .i64 g.v.links, .string g.v.text, .pointer g.v.ptr, .string g.key, .string g.name] :: .cell (C + 1) 38 [.string it.name, .int .i64 it.node] :: .cell C 96 [.int .i64 p.v.id, .int .i64 p.v.kind, .int .i64 p.v.up, .int .i64 p.v.links, .string p.v.text, .pointer p.v.ptr, .string p.key, .string p.name] :: l2)))
            case first =>
              go_region
              all_goals (go_wp2_with fail; go_meet; exact ⟨_, rfl, HU⟩)
            case rest =>
              obtain ⟨nb, rfl, H7⟩ := hcut
              clear hlk hlka q0 q0a e1 e1a HU
              obtain ⟨x24_0, x24_1, x24_2, x24_3, x24_4, x24_5, _⟩ := (unhide H7).six (b := nb) (.head _)
              go_wp2_with fail
              refine (unhide Hf _).mono ?_
              rintro e w8 ⟨rfl, hb8⟩
              have h8 := (unhide H7).step hb8
              clear hb8 Hf H7
              obtain ⟨x25_0, x25_1, x25_2, x25_3, x25_4, x25_5, x25_6, x25_7, _⟩ := h8.eight (b := D) (.tail _ (.head _))
              have H8 := hide h8
              clear h8
              have hg8 := unhide HGt _ _ (unhide H8)
              have HG8 := hide hg8
              clear hg8 HGt
              go_wp2_with fail
              refine (unhide HG8).mono ?_
              rintro e w9 ⟨rfl, h9⟩
              obtain ⟨G, hG⟩ : ∃ G, w9.heap.size = G := ⟨_, rfl⟩
              have h10 := h9.made 38 [.string o.name, .int .i64 o.node]
              rw [hG] at h10
              obtain ⟨w10, hw10⟩ : ∃ w10, w9.alloc (.cells [.string o.name, .int .i64 o.node].toArray 38) = w10 := ⟨_, rfl⟩
              rw [hw10] at h10
              clear h9 HG8 H8
              obtain ⟨x19_0, x19_1, x19_2, x19_3, x19_4, x19_5, x19_6, x19_7, _⟩ := h10.eight (b := D) (.tail _ (.tail _ (.head _)))
              obtain ⟨x20_0, x20_1, x20_2, x20_3, x20_4, x20_5, x20_6, x20_7, _⟩ := h10.eight (b := C) (.tail _ (.tail _ (.tail _ (.tail _ (.head _)))))
              have H10 := hide h10
              clear h10
              go_wp2_with fail
              refine (unhide HSm _).mono ?_
              rintro e w11 ⟨rfl, hb11⟩
              have h11 := (unhide H10).step hb11
              clear hb11 HSm H10
              obtain ⟨x21_0, x21_1, _⟩ := h11.two (b := G) (.head _)
              obtain ⟨x22_0, x22_1, _⟩ := h11.two (b := (C + 1)) (.tail _ (.tail _ (.tail _ (.head _))))
              obtain ⟨x23_0, x23_1, x23_2, x23_3, x23_4, x23_5, _⟩ := h11.six (b := nb) (.tail _ (.head _))
              have hmg := unhide HMg _ _ h11
              have HMG := hide hmg
              clear h11 hmg HMg
              go_wp2_with fail
              refine (unhide HMG).mono ?_
              rintro e w12 ⟨rfl, h12⟩
              clear HMG
              have H12 := hide h12
              clear h12
              go_wp2_with fail
              go_ret
              exact ⟨rfl, (((((unhide H12).forget []).forget []).forget []).forget []).forget []⟩
          | none =>
            simp only [errV] at hmg ⊢
            have HMg := hide hmg
            have HMv := hide (hmv (unlinkN N o.node) (dropF F g.tb g.key) (Nat.le_trans ((unhide HF).unlink o.node (fun v hv => (unhide HL v hv).1)).few (by decide)) (by rw [show (dropF F g.tb g.key).map (·.1) = F.map (·.1) from setF_keys _ _ _]; exact unhide Hpt) (by rw [show (dropF F g.tb g.key).map (·.1) = F.map (·.1) from setF_keys _ _ _]; exact unhide Hgt'))
            clear hmg hmv
            go_enter Tryz.func26, Tryz.ntmps26
            go_wp2_with fail
            refine (unhide HT).mono ?_
            rintro e w2 ⟨rfl, h2⟩
            obtain ⟨C, hC⟩ : ∃ C, w2.heap.size = C := ⟨_, rfl⟩
            have h3 := (h2.made 96 [.int .i64 p.v.id, .int .i64 p.v.kind, .int .i64 p.v.up, .int .i64 p.v.links, .string p.v.text, .pointer p.v.ptr, .string p.key, .string p.name]).made 38 [.string it.name, .int .i64 it.node]
            have hz : (w2.alloc (.cells [.int .i64 p.v.id, .int .i64 p.v.kind, .int .i64 p.v.up, .int .i64 p.v.links, .string p.v.text, .pointer p.v.ptr, .string p.key, .string p.name].toArray 96)).heap.size = C + 1 := by simp [hC]
            rw [hz, hC] at h3
            obtain ⟨w3, hw3⟩ : ∃ w3, (w2.alloc (.cells [.int .i64 p.v.id, .int .i64 p.v.kind, .int .i64 p.v.up, .int .i64 p.v.links, .string p.v.text, .pointer p.v.ptr, .string p.key, .string p.name].toArray 96)).alloc (.cells [.string it.name, .int .i64 it.node].toArray 38) = w3 := ⟨_, rfl⟩
            rw [hw3] at h3
            have hp3 := unhide HP w3 _ h3
            have HP3 := hide hp3
            clear h2 hz HT hp3 h3 HP
            go_wp2_with fail
            refine (unhide HP3).mono ?_
            rintro e w4 ⟨rfl, h4⟩
            obtain ⟨D, hD⟩ : ∃ D, w4.heap.size = D := ⟨_, rfl⟩
            have h5 := h4.made 96 [.int .i64 g.v.id, .int .i64 g.v.kind, .int .i64 g.v.up, .int .i64 g.v.links, .string g.v.text, .pointer g.v.ptr, .string g.key, .string g.name]
            rw [hD] at h5
            obtain ⟨w5, hw5⟩ : ∃ w5, w4.alloc (.cells [.int .i64 g.v.id, .int .i64 g.v.kind, .int .i64 g.v.up, .int .i64 g.v.links, .string g.v.text, .pointer g.v.ptr, .string g.key, .string g.name].toArray 96) = w5 := ⟨_, rfl⟩
            rw [hw5] at h5
            obtain ⟨E, hE⟩ : ∃ E, w5.heap.size = E := ⟨_, rfl⟩
            have hA := h5.made 80 [.int .i64 0, .int .i64 0, .int .i64 0, .int .i64 0, .string ⟨#[]⟩, .pointer none]
            have q0 := h5.map0
            have q0a : ∀ o, (w5.alloc o).cell? ⟨fb, 0, none⟩ = some (.map (some mb)) := fun o => Lib.cell?_alloc_some o q0
            have e1 : w5.cell? ⟨C + 1, 1, none⟩ = some (.int .i64 it.node) := h5.cellAt (.tail _ (.head _)) rfl
            have e1a : ∀ o, (w5.alloc o).cell? ⟨C + 1, 1, none⟩ = some (.int .i64 it.node) := fun o => Lib.cell?_alloc_some o e1
            have hlk := h5.look (unhide Hwf) w5.drew rfl
            have hlka := hA.look (unhide Hwf) (w5.alloc (.cells #[.int .i64 0, .int .i64 0, .int .i64 0, .int .i64 0, .string ⟨#[]⟩, .pointer none] 80)).drew rfl
            rw [unhide Hu] at hlk hlka
            unfold NV.val at hlk hlka
            have HU : Hid (FSIn w0 (w5.alloc (.cells #[.int .i64 u.id, .int .i64 u.kind, .int .i64 u.up, .int .i64 u.links, .string u.text, .pointer u.ptr] 80)).drew fb mb N F next (.cell E 80 [.int .i64 u.id, .int .i64 u.kind, .int .i64 u.up, .int .i64 u.links, .string u.text, .pointer u.ptr] :: .cell D 96 [.int .i64 g.v.id, .int .i64 g.v.kind, .int .i64 g.v.up, .int .i64 g.v.links, .string g.v.text, .pointer g.v.ptr, .string g.key, .string g.name] :: .cell (C + 1) 38 [.string it.name, .int .i64 it.node] :: .cell C 96 [.int .i64 p.v.id, .int .i64 p.v.kind, .int .i64 p.v.up, .int .i64 p.v.links, .string p.v.text, .pointer p.v.ptr, .string p.key, .string p.name] :: l2)) := by
              rw [← hE]; exact (h5.made 80 [.int .i64 u.id, .int .i64 u.kind, .int .i64 u.up, .int .i64 u.links, .string u.text, .pointer u.ptr]).drew
            clear h4 h5 hA HP3
            go_wp2_with fail
            go_cut [11] from 34 to 40 (fun a11 wc => ∃ nb : Nat, a11 = .pointer (some ⟨nb, 0, none⟩) ∧ Hid (FSIn w0 wc fb mb N F next (.cell nb 80 [.int .i64 u.id, .int .i64 u.kind, .int .i64 u.up, .int .i64 u.links, .string u.text, .pointer u.ptr] :: .cell D 96 [.int .i64 g.v.id, .int .i64 g.v.kind, .int .i64 g.v.up, .int .i64 g.v.links, .string g.v.text, .pointer g.v.ptr, .string g.key, .string g.name] :: .cell (C + 1) 38 [.string it.name, .int .i64 it.node] :: .cell C 96 [.int .i64 p.v.id, .int .i64 p.v.kind, .int .i64 p.v.up, .int .i64 p.v.links, .string p.v.text, .pointer p.v.ptr, .string p.key, .string p.name] :: l2)))
            case first =>
              go_region
              all_goals (go_wp2_with fail; go_meet; exact ⟨_, rfl, HU⟩)
            case rest =>
              obtain ⟨nb, rfl, H7⟩ := hcut
              clear hlk hlka q0 q0a e1 e1a HU
              obtain ⟨x36_0, x36_1, x36_2, x36_3, x36_4, x36_5, _⟩ := (unhide H7).six (b := nb) (.head _)
              go_wp2_with fail
              refine (unhide Hf _).mono ?_
              rintro e w8 ⟨rfl, hb8⟩
              have h8 := (unhide H7).step hb8
              clear hb8 Hf H7
              obtain ⟨x37_0, x37_1, x37_2, x37_3, x37_4, x37_5, x37_6, x37_7, _⟩ := h8.eight (b := D) (.tail _ (.head _))
              have H8 := hide h8
              clear h8
              have hg8 := unhide HGt _ _ (unhide H8)
              have HG8 := hide hg8
              clear hg8 HGt
              go_wp2_with fail
              refine (unhide HG8).mono ?_
              rintro e w9 ⟨rfl, h9⟩
              obtain ⟨G, hG⟩ : ∃ G, w9.heap.size = G := ⟨_, rfl⟩
              have h10 := h9.made 38 [.string o.name, .int .i64 o.node]
              rw [hG] at h10
              obtain ⟨w10, hw10⟩ : ∃ w10, w9.alloc (.cells [.string o.name, .int .i64 o.node].toArray 38) = w10 := ⟨_, rfl⟩
              rw [hw10] at h10
              clear h9 HG8 H8
              obtain ⟨x26_0, x26_1, x26_2, x26_3, x26_4, x26_5, x26_6, x26_7, _⟩ := h10.eight (b := D) (.tail _ (.tail _ (.head _)))
              obtain ⟨x27_0, x27_1, x27_2, x27_3, x27_4, x27_5, x27_6, x27_7, _⟩ := h10.eight (b := C) (.tail _ (.tail _ (.tail _ (.tail _ (.head _)))))
              have H10 := hide h10
              clear h10
              go_wp2_with fail
              refine (unhide HSm _).mono ?_
              rintro e w11 ⟨rfl, hb11⟩
              have h11 := (unhide H10).step hb11
              clear hb11 HSm H10
              obtain ⟨x28_0, x28_1, _⟩ := h11.two (b := G) (.head _)
              obtain ⟨x29_0, x29_1, _⟩ := h11.two (b := (C + 1)) (.tail _ (.tail _ (.tail _ (.head _))))
              obtain ⟨x30_0, x30_1, x30_2, x30_3, x30_4, x30_5, _⟩ := h11.six (b := nb) (.tail _ (.head _))
              have hmg := unhide HMg _ _ h11
              have HMG := hide hmg
              clear h11 hmg HMg
              go_wp2_with fail
              refine (unhide HMG).mono ?_
              rintro e w12 ⟨rfl, h12⟩
              clear HMG
              obtain ⟨x31_0, x31_1, x31_2, x31_3, x31_4, x31_5, x31_6, x31_7, _⟩ := h12.eight (b := D) (.tail _ (.tail _ (.head _)))
              obtain ⟨x32_0, x32_1, _⟩ := h12.two (b := G) (.head _)
              have hun := unhide HUn _ _ h12
              have HUN := hide hun
              clear h12 hun HUn
              go_wp2_with fail
              refine (unhide HUN).mono ?_
              rintro e w13 ⟨rfl, h13⟩
              clear HUN
              obtain ⟨x33_0, x33_1, x33_2, x33_3, x33_4, x33_5, x33_6, x33_7, _⟩ := h13.eight (b := C) (.tail _ (.tail _ (.tail _ (.tail _ (.head _)))))
              obtain ⟨x34_0, x34_1, x34_2, x34_3, x34_4, x34_5, x34_6, x34_7, _⟩ := h13.eight (b := D) (.tail _ (.tail _ (.head _)))
              obtain ⟨x35_0, x35_1, _⟩ := h13.two (b := (C + 1)) (.tail _ (.tail _ (.tail _ (.head _))))
              have hmv := unhide HMv _ _ h13
              have HMV := hide hmv
              clear h13 hmv HMv
              go_wp2_with fail
              refine (unhide HMV).mono ?_
              rintro e w14 ⟨rfl, h14⟩
              have H14 := hide h14
              clear h14 HMV
              go_wp2_with fail
              go_ret
              exact ⟨rfl, (((((unhide H14).forget []).forget []).forget []).forget []).forget []⟩
  | true =>
    rw [hk1] at hf
    have Hf := hide hf
    clear hf
    cases b1 with
    | true =>
      have HW := hide hw
      clear hw hgt hmv HSm
      simp only [Bool.and_true, if_true]
      go_enter Tryz.func26, Tryz.ntmps26
      go_wp2_with fail
      refine (unhide HT).mono ?_
      rintro e w2 ⟨rfl, h2⟩
      obtain ⟨C, hC⟩ : ∃ C, w2.heap.size = C := ⟨_, rfl⟩
      have h3 := (h2.made 96 [.int .i64 p.v.id, .int .i64 p.v.kind, .int .i64 p.v.up, .int .i64 p.v.links, .string p.v.text, .pointer p.v.ptr, .string p.key, .string p.name]).made 38 [.string it.name, .int .i64 it.node]
      have hz : (w2.alloc (.cells [.int .i64 p.v.id, .int .i64 p.v.kind, .int .i64 p.v.up, .int .i64 p.v.links, .string p.v.text, .pointer p.v.ptr, .string p.key, .string p.name].toArray 96)).heap.size = C + 1 := by simp [hC]
      rw [hz, hC] at h3
      obtain ⟨w3, hw3⟩ : ∃ w3, (w2.alloc (.cells [.int .i64 p.v.id, .int .i64 p.v.kind, .int .i64 p.v.up, .int .i64 p.v.links, .string p.v.text, .pointer p.v.ptr, .string p.key, .string p.name].toArray 96)).alloc (.cells [.string it.name, .int .i64 it.node].toArray 38) = w3 := ⟨_, rfl⟩
      rw [hw3] at h3
      have hp3 := unhide HP w3 _ h3
      have HP3 := hide hp3
      clear h2 hz HT hp3 h3 HP
      go_wp2_with fail
      refine (unhide HP3).mono ?_
      rintro e w4 ⟨rfl, h4⟩
      obtain ⟨D, hD⟩ : ∃ D, w4.heap.size = D := ⟨_, rfl⟩
      have h5 := h4.made 96 [.int .i64 g.v.id, .int .i64 g.v.kind, .int .i64 g.v.up, .int .i64 g.v.links, .string g.v.text, .pointer g.v.ptr, .string g.key, .string g.name]
      rw [hD] at h5
      obtain ⟨w5, hw5⟩ : ∃ w5, w4.alloc (.cells [.int .i64 g.v.id, .int .i64 g.v.kind, .int .i64 g.v.up, .int .i64 g.v.links, .string g.v.text, .pointer g.v.ptr, .string g.key, .string g.name].toArray 96) = w5 := ⟨_, rfl⟩
      rw [hw5] at h5
      obtain ⟨E, hE⟩ : ∃ E, w5.heap.size = E := ⟨_, rfl⟩
      have hA := h5.made 80 [.int .i64 0, .int .i64 0, .int .i64 0, .int .i64 0, .string ⟨#[]⟩, .pointer none]
      have q0 := h5.map0
      have q0a : ∀ o, (w5.alloc o).cell? ⟨fb, 0, none⟩ = some (.map (some mb)) := fun o => Lib.cell?_alloc_some o q0
      have e1 : w5.cell? ⟨C + 1, 1, none⟩ = some (.int .i64 it.node) := h5.cellAt (.tail _ (.head _)) rfl
      have e1a : ∀ o, (w5.alloc o).cell? ⟨C + 1, 1, none⟩ = some (.int .i64 it.node) := fun o => Lib.cell?_alloc_some o e1
      have hlk := h5.look (unhide Hwf) w5.drew rfl
      have hlka := hA.look (unhide Hwf) (w5.alloc (.cells #[.int .i64 0, .int .i64 0, .int .i64 0, .int .i64 0, .string ⟨#[]⟩, .pointer none] 80)).drew rfl
      rw [unhide Hu] at hlk hlka
      unfold NV.val at hlk hlka
      have HU : Hid (FSIn w0 (w5.alloc (.cells #[.int .i64 u.id, .int .i64 u.kind, .int .i64 u.up, .int .i64 u.links, .string u.text, .pointer u.ptr] 80)).drew fb mb N F next (.cell E 80 [.int .i64 u.id, .int .i64 u.kind, .int .i64 u.up, .int .i64 u.links, .string u.text, .pointer u.ptr] :: .cell D 96 [.int .i64 g.v.id, .int .i64 g.v.kind, .int .i64 g.v.up, .int .i64 g.v.links, .string g.v.text, .pointer g.v.ptr, .string g.key, .string g.name] :: .cell (C + 1) 38 [.string it.name, .int .i64 it.node] :: .cell C 96 [.int .i64 p.v.id, .int .i64 p.v.kind, .int .i64 p.v.up, .int .i64 p.v.links, .string p.v.text, .pointer p.v.ptr, .string p.key, .string p.name] :: l2)) := by
        rw [← hE]; exact (h5.made 80 [.int .i64 u.id, .int .i64 u.kind, .int .i64 u.up, .int .i64 u.links, .string u.text, .pointer u.ptr]).drew
      clear h4 h5 hA HP3
      go_wp2_with fail
      go_cut [11] from 34 to 40 (fun a11 wc => ∃ nb : Nat, a11 = .pointer (some ⟨nb, 0, none⟩) ∧ Hid (FSIn w0 wc fb mb N F next (.cell nb 80 [.int .i64 u.id, .int .i64 u.kind, .int .i64 u.up, .int .i64 u.links, .string u.text, .pointer u.ptr] :: .cell D 96 [.int .i64 g.v.id, .int .i64 g.v.kind, .int .i64 g.v.up, .int .i64 g.v.links, .string g.v.text, .pointer g.v.ptr, .string g.key, .string g.name] :: .cell (C + 1) 38 [.string it.name, .int .i64 it.node] :: .cell C 96 [.int .i64 p.v.id, .int .i64 p.v.kind, .int .i64 p.v.up, .int .i64 p.v.links, .string p.v.text, .pointer p.v.ptr, .string p.key, .string p.name] :: l2)))
      case first =>
        go_region
        all_goals (go_wp2_with fail; go_meet; exact ⟨_, rfl, HU⟩)
      case rest =>
        obtain ⟨nb, rfl, H7⟩ := hcut
        clear hlk hlka q0 q0a e1 e1a HU
        obtain ⟨x38_0, x38_1, x38_2, x38_3, x38_4, x38_5, _⟩ := (unhide H7).six (b := nb) (.head _)
        go_wp2_with fail
        refine (unhide Hf _).mono ?_
        rintro e w8 ⟨rfl, hb8⟩
        have h8 := (unhide H7).step hb8
        clear hb8 Hf H7
        obtain ⟨x39_0, x39_1, x39_2, x39_3, x39_4, x39_5, x39_6, x39_7, _⟩ := h8.eight (b := D) (.tail _ (.head _))
        obtain ⟨x40_0, x40_1, x40_2, x40_3, x40_4, x40_5, _⟩ := h8.six (b := nb) (.head _)
        have hw8 := unhide HW w8 _ h8
        have HW8 := hide hw8
        have H8 := hide h8
        clear h8 hw8 HW
        go_wp2_with fail
        refine (unhide HW8).mono ?_
        rintro e w8b ⟨rfl, rfl⟩
        clear HW8
        go_wp2_with fail
        go_ret
        exact ⟨rfl, ((((unhide H8).forget []).forget []).forget []).forget []⟩
    | false =>
      have HW := hide hw
      clear hw
      simp only [Bool.and_false, Bool.false_eq_true, if_false]
      cases g0 with
      | none =>
        rw [show getV none = .tuple #[.agg #[.string ⟨#[]⟩, .int .i64 0], .bool false] from rfl] at hgt
        have HGt := hide hgt
        have HMv := hide (hmv N F (unhide HN) (unhide Hpt) (unhide Hgt'))
        clear hgt hmv
        simp only
        go_enter Tryz.func26, Tryz.ntmps26
        go_wp2_with fail
        refine (unhide HT).mono ?_
        rintro e w2 ⟨rfl, h2⟩
        obtain ⟨C, hC⟩ : ∃ C, w2.heap.size = C := ⟨_, rfl⟩
        have h3 := (h2.made 96 [.int .i64 p.v.id, .int .i64 p.v.kind, .int .i64 p.v.up, .int .i64 p.v.links, .string p.v.text, .pointer p.v.ptr, .string p.key, .string p.name]).made 38 [.string it.name, .int .i64 it.node]
        have hz : (w2.alloc (.cells [.int .i64 p.v.id, .int .i64 p.v.kind, .int .i64 p.v.up, .int .i64 p.v.links, .string p.v.text, .pointer p.v.ptr, .string p.key, .string p.name].toArray 96)).heap.size = C + 1 := by simp [hC]
        rw [hz, hC] at h3
        obtain ⟨w3, hw3⟩ : ∃ w3, (w2.alloc (.cells [.int .i64 p.v.id, .int .i64 p.v.kind, .int .i64 p.v.up, .int .i64 p.v.links, .string p.v.text, .pointer p.v.ptr, .string p.key, .string p.name].toArray 96)).alloc (.cells [.string it.name, .int .i64 it.node].toArray 38) = w3 := ⟨_, rfl⟩
        rw [hw3] at h3
        have hp3 := unhide HP w3 _ h3
        have HP3 := hide hp3
        clear h2 hz HT hp3 h3 HP
        go_wp2_with fail
        refine (unhide HP3).mono ?_
        rintro e w4 ⟨rfl, h4⟩
        obtain ⟨D, hD⟩ : ∃ D, w4.heap.size = D := ⟨_, rfl⟩
        have h5 := h4.made 96 [.int .i64 g.v.id, .int .i64 g.v.kind, .int .i64 g.v.up, .int .i64 g.v.links, .string g.v.text, .pointer g.v.ptr, .string g.key, .string g.name]
        rw [hD] at h5
        obtain ⟨w5, hw5⟩ : ∃ w5, w4.alloc (.cells [.int .i64 g.v.id, .int .i64 g.v.kind, .int .i64 g.v.up, .int .i64 g.v.links, .string g.v.text, .pointer g.v.ptr, .string g.key, .string g.name].toArray 96) = w5 := ⟨_, rfl⟩
        rw [hw5] at h5
        obtain ⟨E, hE⟩ : ∃ E, w5.heap.size = E := ⟨_, rfl⟩
        have hA := h5.made 80 [.int .i64 0, .int .i64 0, .int .i64 0, .int .i64 0, .string ⟨#[]⟩, .pointer none]
        have q0 := h5.map0
        have q0a : ∀ o, (w5.alloc o).cell? ⟨fb, 0, none⟩ = some (.map (some mb)) := fun o => Lib.cell?_alloc_some o q0
        have e1 : w5.cell? ⟨C + 1, 1, none⟩ = some (.int .i64 it.node) := h5.cellAt (.tail _ (.head _)) rfl
        have e1a : ∀ o, (w5.alloc o).cell? ⟨C + 1, 1, none⟩ = some (.int .i64 it.node) := fun o => Lib.cell?_alloc_some o e1
        have hlk := h5.look (unhide Hwf) w5.drew rfl
        have hlka := hA.look (unhide Hwf) (w5.alloc (.cells #[.int .i64 0, .int .i64 0, .int .i64 0, .int .i64 0, .string ⟨#[]⟩, .pointer none] 80)).drew rfl
        rw [unhide Hu] at hlk hlka
        unfold NV.val at hlk hlka
        have HU : Hid (FSIn w0 (w5.alloc (.cells #[.int .i64 u.id, .int .i64 u.kind, .int .i64 u.up, .int .i64 u.links, .string u.text, .pointer u.ptr] 80)).drew fb mb N F next (.cell E 80 [.int .i64 u.id, .int .i64 u.kind, .int .i64 u.up, .int .i64 u.links, .string u.text, .pointer u.ptr] :: .cell D 96 [.int .i64 g.v.id, .int .i64 g.v.kind, .int .i64 g.v.up, .int .i64 g.v.links, .string g.v.text, .pointer g.v.ptr, .string g.key, .string g.name] :: .cell (C + 1) 38 [.string it.name, .int .i64 it.node] :: .cell C 96 [.int .i64 p.v.id, .int .i64 p.v.kind, .int .i64 p.v.up, .int .i64 p.v.links, .string p.v.text, .pointer p.v.ptr, .string p.key, .string p.name] :: l2)) := by
          rw [← hE]; exact (h5.made 80 [.int .i64 u.id, .int .i64 u.kind, .int .i64 u.up, .int .i64 u.links, .string u.text, .pointer u.ptr]).drew
        clear h4 h5 hA HP3
        go_wp2_with fail
        go_cut [11] from 34 to 40 (fun a11 wc => ∃ nb : Nat, a11 = .pointer (some ⟨nb, 0, none⟩) ∧ Hid (FSIn w0 wc fb mb N F next (.cell nb 80 [.int .i64 u.id, .int .i64 u.kind, .int .i64 u.up, .int .i64 u.links, .string u.text, .pointer u.ptr] :: .cell D 96 [.int .i64 g.v.id, .int .i64 g.v.kind, .int .i64 g.v.up, .int .i64 g.v.links, .string g.v.text, .pointer g.v.ptr, .string g.key, .string g.name] :: .cell (C + 1) 38 [.string it.name, .int .i64 it.node] :: .cell C 96 [.int .i64 p.v.id, .int .i64 p.v.kind, .int .i64 p.v.up, .int .i64 p.v.links, .string p.v.text, .pointer p.v.ptr, .string p.key, .string p.name] :: l2)))
        case first =>
          go_region
          all_goals (go_wp2_with fail; go_meet; exact ⟨_, rfl, HU⟩)
        case rest =>
          obtain ⟨nb, rfl, H7⟩ := hcut
          clear hlk hlka q0 q0a e1 e1a HU
          obtain ⟨x44_0, x44_1, x44_2, x44_3, x44_4, x44_5, _⟩ := (unhide H7).six (b := nb) (.head _)
          go_wp2_with fail
          refine (unhide Hf _).mono ?_
          rintro e w8 ⟨rfl, hb8⟩
          have h8 := (unhide H7).step hb8
          clear hb8 Hf H7
          obtain ⟨x45_0, x45_1, x45_2, x45_3, x45_4, x45_5, x45_6, x45_7, _⟩ := h8.eight (b := D) (.tail _ (.head _))
          obtain ⟨x46_0, x46_1, x46_2, x46_3, x46_4, x46_5, _⟩ := h8.six (b := nb) (.head _)
          have hw8 := unhide HW w8 _ h8
          have HW8 := hide hw8
          have H8 := hide h8
          clear h8 hw8 HW
          go_wp2_with fail
          refine (unhide HW8).mono ?_
          rintro e w8b ⟨rfl, rfl⟩
          clear HW8
          have hg8 := unhide HGt _ _ (unhide H8)
          have HG8 := hide hg8
          clear hg8 HGt
          go_wp2_with fail
          refine (unhide HG8).mono ?_
          rintro e w9 ⟨rfl, h9⟩
          obtain ⟨G, hG⟩ : ∃ G, w9.heap.size = G := ⟨_, rfl⟩
          have h10 := h9.made 38 [.string ⟨#[]⟩, .int .i64 0]
          rw [hG] at h10
          clear h9 HG8 H8
          obtain ⟨x41_0, x41_1, x41_2, x41_3, x41_4, x41_5, x41_6, x41_7, _⟩ := h10.eight (b := C) (.tail _ (.tail _ (.tail _ (.tail _ (.head _)))))
          obtain ⟨x42_0, x42_1, x42_2, x42_3, x42_4, x42_5, x42_6, x42_7, _⟩ := h10.eight (b := D) (.tail _ (.tail _ (.head _)))
          obtain ⟨x43_0, x43_1, _⟩ := h10.two (b := (C + 1)) (.tail _ (.tail _ (.tail _ (.head _))))
          have hmv := unhide HMv _ _ h10
          have HMV := hide hmv
          clear h10 hmv HMv
          go_wp2_with fail
          refine (unhide HMV).mono ?_
          rintro e w14 ⟨rfl, h14⟩
          have H14 := hide h14
          clear h14 HMV
          go_wp2_with fail
          go_ret
          exact ⟨rfl, (((((unhide H14).forget []).forget []).forget []).forget []).forget []⟩
      | some o =>
        rw [show getV (some o) = .tuple #[.agg #[.string o.name, .int .i64 o.node], .bool true] from rfl] at hgt
        have HGt := hide hgt
        clear hgt
        simp only
        cases b2 with
        | true =>
          have HMv := hide (hmv N F (unhide HN) (unhide Hpt) (unhide Hgt'))
          clear hmv
          simp only [if_true]
          go_enter Tryz.func26, Tryz.ntmps26
          go_wp2_with fail
          refine (unhide HT).mono ?_
          rintro e w2 ⟨rfl, h2⟩
          obtain ⟨C, hC⟩ : ∃ C, w2.heap.size = C := ⟨_, rfl⟩
          have h3 := (h2.made 96 [.int .i64 p.v.id, .int .i64 p.v.kind, .int .i64 p.v.up, .int .i64 p.v.links, .string p.v.text, .pointer p.v.ptr, .string p.key, .string p.name]).made 38 [.string it.name, .int .i64 it.node]
          have hz : (w2.alloc (.cells [.int .i64 p.v.id, .int .i64 p.v.kind, .int .i64 p.v.up, .int .i64 p.v.links, .string p.v.text, .pointer p.v.ptr, .string p.key, .string p.name].toArray 96)).heap.size = C + 1 := by simp [hC]
          rw [hz, hC] at h3
          obtain ⟨w3, hw3⟩ : ∃ w3, (w2.alloc (.cells [.int .i64 p.v.id, .int .i64 p.v.kind, .int .i64 p.v.up, .int .i64 p.v.links, .string p.v.text, .pointer p.v.ptr, .string p.key, .string p.name].toArray 96)).alloc (.cells [.string it.name, .int .i64 it.node].toArray 38) = w3 := ⟨_, rfl⟩
          rw [hw3] at h3
          have hp3 := unhide HP w3 _ h3
          have HP3 := hide hp3
          clear h2 hz HT hp3 h3 HP
          go_wp2_with fail
          refine (unhide HP3).mono ?_
          rintro e w4 ⟨rfl, h4⟩
          obtain ⟨D, hD⟩ : ∃ D, w4.heap.size = D := ⟨_, rfl⟩
          have h5 := h4.made 96 [.int .i64 g.v.id, .int .i64 g.v.kind, .int .i64 g.v.up, .int .i64 g.v.links, .string g.v.text, .pointer g.v.ptr, .string g.key, .string g.name]
          rw [hD] at h5
          obtain ⟨w5, hw5⟩ : ∃ w5, w4.alloc (.cells [.int .i64 g.v.id, .int .i64 g.v.kind, .int .i64 g.v.up, .int .i64 g.v.links, .string g.v.text, .pointer g.v.ptr, .string g.key, .string g.name].toArray 96) = w5 := ⟨_, rfl⟩
          rw [hw5] at h5
          obtain ⟨E, hE⟩ : ∃ E, w5.heap.size = E := ⟨_, rfl⟩
          have hA := h5.made 80 [.int .i64 0, .int .i64 0, .int .i64 0, .int .i64 0, .string ⟨#[]⟩, .pointer none]
          have q0 := h5.map0
          have q0a : ∀ o, (w5.alloc o).cell? ⟨fb, 0, none⟩ = some (.map (some mb)) := fun o => Lib.cell?_alloc_some o q0
          have e1 : w5.cell? ⟨C + 1, 1, none⟩ = some (.int .i64 it.node) := h5.cellAt (.tail _ (.head _)) rfl
          have e1a : ∀ o, (w5.alloc o).cell? ⟨C + 1, 1, none⟩ = some (.int .i64 it.node) := fun o => Lib.cell?_alloc_some o e1
          have hlk := h5.look (unhide Hwf) w5.drew rfl
          have hlka := hA.look (unhide Hwf) (w5.alloc (.cells #[.int .i64 0, .int .i64 0, .int .i64 0, .int .i64 0, .string ⟨#[]⟩, .pointer none] 80)).drew rfl
          rw [unhide Hu] at hlk hlka
          unfold NV.val at hlk hlka
          have HU : Hid (FSIn w0 (w5.alloc (.cells #[.int .i64 u.id, .int .i64 u.kind, .int .i64 u.up, .int .i64 u.links, .string u.text, .pointer u.ptr] 80)).drew fb mb N F next (.cell E 80 [.int .i64 u.id, .int .i64 u.kind, .int .i64 u.up, .int .i64 u.links, .string u.text, .pointer u.ptr] :: .cell D 96 [.int .i64 g.v.id, .int .i64 g.v.kind, .int .i64 g.v.up, .int .i64 g.v.links, .string g.v.text, .pointer g.v.ptr, .string g.key, .string g.name] :: .cell (C + 1) 38 [.string it.name, .int .i64 it.node] :: .cell C 96 [.int .i64 p.v.id, .int .i64 p.v.kind, .int .i64 p.v.up, .int .i64 p.v.links, .string p.v.text, .pointer p.v.ptr, .string p.key, .string p.name] :: l2)) := by
            rw [← hE]; exact (h5.made 80 [.int .i64 u.id, .int .i64 u.kind, .int .i64 u.up, .int .i64 u.links, .string u.text, .pointer u.ptr]).drew
          clear h4 h5 hA HP3
          go_wp2_with fail
          go_cut [11] from 34 to 40 (fun a11 wc => ∃ nb : Nat, a11 = .pointer (some ⟨nb, 0, none⟩) ∧ Hid (FSIn w0 wc fb mb N F next (.cell nb 80 [.int .i64 u.id, .int .i64 u.kind, .int .i64 u.up, .int .i64 u.links, .string u.text, .pointer u.ptr] :: .cell D 96 [.int .i64 g.v.id, .int .i64 g.v.kind, .int .i64 g.v.up, .int .i64 g.v.links, .string g.v.text, .pointer g.v.ptr, .string g.key, .string g.name] :: .cell (C + 1) 38 [.string it.name, .int .i64 it.node] :: .cell C 96 [.int .i64 p.v.id, .int .i64 p.v.kind, .int .i64 p.v.up, .int .i64 p.v.links, .string p.v.text, .pointer p.v.ptr, .string p.key, .string p.name] :: l2)))
          case first =>
            go_region
            all_goals (go_wp2_with fail; go_meet; exact ⟨_, rfl, HU⟩)
          case rest =>
            obtain ⟨nb, rfl, H7⟩ := hcut
            clear hlk hlka q0 q0a e1 e1a HU
            obtain ⟨x52_0, x52_1, x52_2, x52_3, x52_4, x52_5, _⟩ := (unhide H7).six (b := nb) (.head _)
            go_wp2_with fail
            refine (unhide Hf _).mono ?_
            rintro e w8 ⟨rfl, hb8⟩
            have h8 := (unhide H7).step hb8
            clear hb8 Hf H7
            obtain ⟨x53_0, x53_1, x53_2, x53_3, x53_4, x53_5, x53_6, x53_7, _⟩ := h8.eight (b := D) (.tail _ (.head _))
            obtain ⟨x54_0, x54_1, x54_2, x54_3, x54_4, x54_5, _⟩ := h8.six (b := nb) (.head _)
            have hw8 := unhide HW w8 _ h8
            have HW8 := hide hw8
            have H8 := hide h8
            clear h8 hw8 HW
            go_wp2_with fail
            refine (unhide HW8).mono ?_
            rintro e w8b ⟨rfl, rfl⟩
            clear HW8
            have hg8 := unhide HGt _ _ (unhide H8)
            have HG8 := hide hg8
            clear hg8 HGt
            go_wp2_with fail
            refine (unhide HG8).mono ?_
            rintro e w9 ⟨rfl, h9⟩
            obtain ⟨G, hG⟩ : ∃ G, w9.heap.size = G := ⟨_, rfl⟩
            have h10 := h9.made 38 [.string o.name, .int .i64 o.node]
            rw [hG] at h10
            obtain ⟨w10, hw10⟩ : ∃ w10, w9.alloc (.cells [.string o.name, .int .i64 o.node].toArray 38) = w10 := ⟨_, rfl⟩
            rw [hw10] at h10
            clear h9 HG8 H8
            obtain ⟨x47_0, x47_1, x47_2, x47_3, x47_4, x47_5, x47_6, x47_7, _⟩ := h10.eight (b := D) (.tail _ (.tail _ (.head _)))
            obtain ⟨x48_0, x48_1, x48_2, x48_3, x48_4, x48_5, x48_6, x48_7, _⟩ := h10.eight (b := C) (.tail _ (.tail _ (.tail _ (.tail _ (.head _)))))
            have H10 := hide h10
            clear h10
            go_wp2_with fail
            refine (unhide HSm _).mono ?_
            rintro e w11 ⟨rfl, hb11⟩
            have h11 := (unhide H10).step hb11
            clear hb11 HSm H10
            obtain ⟨x49_0, x49_1, x49_2, x49_3, x49_4, x49_5, x49_6, x49_7, _⟩ := h11.eight (b := C) (.tail _ (.tail _ (.tail _ (.tail _ (.head _)))))
            obtain ⟨x50_0, x50_1, x50_2, x50_3, x50_4, x50_5, x50_6, x50_7, _⟩ := h11.eight (b := D) (.tail _ (.tail _ (.head _)))
            obtain ⟨x51_0, x51_1, _⟩ := h11.two (b := (C + 1)) (.tail _ (.tail _ (.tail _ (.head _))))
            have hmv := unhide HMv _ _ h11
            have HMV := hide hmv
            clear h11 hmv HMv
            go_wp2_with fail
            refine (unhide HMV).mono ?_
            rintro e w14 ⟨rfl, h14⟩
            have H14 := hide h14
            clear h14 HMV
            go_wp2_with fail
            go_ret
            exact ⟨rfl, (((((unhide H14).forget []).forget []).forget []).forget []).forget []⟩
        | false =>
          simp only [Bool.false_eq_true, if_false]
          by_cases hnn : o.node = it.node
          · have hnz : (o.node == it.node) = true := by simpa using hnn
            simp only [if_pos hnn]
            clear hmv hnn
            go_enter Tryz.func26, Tryz.ntmps26
            go_wp2_with fail
            refine (unhide HT).mono ?_
            rintro e w2 ⟨rfl, h2⟩
            obtain ⟨C, hC⟩ : ∃ C, w2.heap.size = C := ⟨_, rfl⟩
            have h3 := (h2.made 96 [.int .i64 p.v.id, .int .i64 p.v.kind, .int .i64 p.v.up, .int .i64 p.v.links, .string p.v.text, .pointer p.v.ptr, .string p.key, .string p.name]).made 38 [.string it.name, .int .i64 it.node]
            have hz : (w2.alloc (.cells [.int .i64 p.v.id, .int .i64 p.v.kind, .int .i64 p.v.up, .int .i64 p.v.links, .string p.v.text, .pointer p.v.ptr, .string p.key, .string p.name].toArray 96)).heap.size = C + 1 := by simp [hC]
            rw [hz, hC] at h3
            obtain ⟨w3, hw3⟩ : ∃ w3, (w2.alloc (.cells [.int .i64 p.v.id, .int .i64 p.v.kind, .int .i64 p.v.up, .int .i64 p.v.links, .string p.v.text, .pointer p.v.ptr, .string p.key, .string p.name].toArray 96)).alloc (.cells [.string it.name, .int .i64 it.node].toArray 38) = w3 := ⟨_, rfl⟩
            rw [hw3] at h3
            have hp3 := unhide HP w3 _ h3
            have HP3 := hide hp3
            clear h2 hz HT hp3 h3 HP
            go_wp2_with fail
            refine (unhide HP3).mono ?_
            rintro e w4 ⟨rfl, h4⟩
            obtain ⟨D, hD⟩ : ∃ D, w4.heap.size = D := ⟨_, rfl⟩
            have h5 := h4.made 96 [.int .i64 g.v.id, .int .i64 g.v.kind, .int .i64 g.v.up, .int .i64 g.v.links, .string g.v.text, .pointer g.v.ptr, .string g.key, .string g.name]
            rw [hD] at h5
            obtain ⟨w5, hw5⟩ : ∃ w5, w4.alloc (.cells [.int .i64 g.v.id, .int .i64 g.v.kind, .int .i64 g.v.up, .int .i64 g.v.links, .string g.v.text, .pointer g.v.ptr, .string g.key, .string g.name].toArray 96) = w5 := ⟨_, rfl⟩
            rw [hw5] at h5
            obtain ⟨E, hE⟩ : ∃ E, w5.heap.size = E := ⟨_, rfl⟩
            have hA := h5.made 80 [.int .i64 0, .int .i64 0, .int .i64 0, .int .i64 0, .string ⟨#[]⟩, .pointer none]
            have q0 := h5.map0
            have q0a : ∀ o, (w5.alloc o).cell? ⟨fb, 0, none⟩ = some (.map (some mb)) := fun o => Lib.cell?_alloc_some o q0
            have e1 : w5.cell? ⟨C + 1, 1, none⟩ = some (.int .i64 it.node) := h5.cellAt (.tail _ (.head _)) rfl
            have e1a : ∀ o, (w5.alloc o).cell? ⟨C + 1, 1, none⟩ = some (.int .i64 it.node) := fun o => Lib.cell?_alloc_some o e1
            have hlk := h5.look (unhide Hwf) w5.drew rfl
            have hlka := hA.look (unhide Hwf) (w5.alloc (.cells #[.int .i64 0, .int .i64 0, .int .i64 0, .int .i64 0, .string ⟨#[]⟩, .pointer none] 80)).drew rfl
            rw [unhide Hu] at hlk hlka
            unfold NV.val at hlk hlka
            have HU : Hid (FSIn w0 (w5.alloc (.cells #[.int .i64 u.id, .int .i64 u.kind, .int .i64 u.up, .int .i64 u.links, .string u.text, .pointer u.ptr] 80)).drew fb mb N F next (.cell E 80 [.int .i64 u.id, .int .i64 u.kind, .int .i64 u.up, .int .i64 u.links, .string u.text, .pointer u.ptr] :: .cell D 96 [.int .i64 g.v.id, .int .i64 g.v.kind, .int .i64 g.v.up, .int .i64 g.v.links, .string g.v.text, .pointer g.v.ptr, .string g.key, .string g.name] :: .cell (C + 1) 38 [.string it.name, .int .i64 it.node] :: .cell C 96 [.int .i64 p.v.id, .int .i64 p.v.kind, .int .i64 p.v.up, .int .i64 p.v.links, .string p.v.text, .pointer p.v.ptr, .string p.key, .string p.name] :: l2)) := by
              rw [← hE]; exact (h5.made 80 [.int .i64 u.id, .int .i64 u.kind, .int .i64 u.up, .int .i64 u.links, .string u.text, .pointer u.ptr]).drew
            clear h4 h5 hA HP3
            go_wp2_with fail
            go_cut [11] from 34 to 40 (fun a11 wc => ∃ nb : Nat, a11 = .pointer (some ⟨nb, 0, none⟩) ∧ Hid (FSIn w0 wc fb mb N F next (.cell nb 80 [.int .i64 u.id, .int .i64 u.kind, .int .i64 u.up, .int .i64 u.links, .string u.text, .pointer u.ptr] :: .cell D 96 [.int .i64 g.v.id, .int .i64 g.v.kind, .int .i64 g.v.up, .int .i64 g.v.links, .string g.v.text, .pointer g.v.ptr, .string g.key, .string g.name] :: .cell (C + 1) 38 [.string it.name, .int .i64 it.node] :: .cell C 96 [.int .i64 p.v.id, .int .i64 p.v.kind, .int .i64 p.v.up, .int .i64 p.v.links, .string p.v.text, .pointer p.v.ptr, .string p.key, .string p.name] :: l2)))
            case first =>
              go_region
              all_goals (go_wp2_with fail; go_meet; exact ⟨_, rfl, HU⟩)
            case rest =>
              obtain ⟨nb, rfl, H7⟩ := hcut
              clear hlk hlka q0 q0a e1 e1a HU
              obtain ⟨x59_0, x59_1, x59_2, x59_3, x59_4, x59_5, _⟩ := (unhide H7).six (b := nb) (.head _)
              go_wp2_with fail
              refine (unhide Hf _).mono ?_
              rintro e w8 ⟨rfl, hb8⟩
              have h8 := (unhide H7).step hb8
              clear hb8 Hf H7
              obtain ⟨x60_0, x60_1, x60_2, x60_3, x60_4, x60_5, x60_6, x60_7, _⟩ := h8.eight (b := D) (.tail _ (.head _))
              obtain ⟨x61_0, x61_1, x61_2, x61_3, x61_4, x61_5, _⟩ := h8.six (b := nb) (.head _)
              have hw8 := unhide HW w8 _ h8
              have HW8 := hide hw8
              have H8 := hide h8
              clear h8 hw8 HW
              go_wp2_with fail
              refine (unhide HW8).mono ?_
              rintro e w8b ⟨rfl, rfl⟩
              clear HW8
              have hg8 := unhide HGt _ _ (unhide H8)
              have HG8 := hide hg8
              clear hg8 HGt
              go_wp2_with fail
              refine (unhide HG8).mono ?_
              rintro e w9 ⟨rfl, h9⟩
              obtain ⟨G, hG⟩ : ∃ G, w9.heap.size = G := ⟨_, rfl⟩
              have h10 := h9.made 38 [.string o.name, .int .i64 o.node]
              rw [hG] at h10
              obtain ⟨w10, hw10⟩ : ∃ w10, w9.alloc (.cells [.string o.name, .int .i64 o.node].toArray 38) = w10 := ⟨_, rfl⟩
              rw [hw10] at h10
              clear h9 HG8 H8
              obtain ⟨x55_0, x55_1, x55_2, x55_3, x55_4, x55_5, x55_6, x55_7, _⟩ := h10.eight (b := D) (.tail _ (.tail _ (.head _)))
              obtain ⟨x56_0, x56_1, x56_2, x56_3, x56_4, x56_5, x56_6, x56_7, _⟩ := h10.eight (b := C) (.tail _ (.tail _ (.tail _ (.tail _ (.head _)))))
              have H10 := hide h10
              clear h10
              go_wp2_with fail
              refine (unhide HSm _).mono ?_
              rintro e w11 ⟨rfl, hb11⟩
              have h11 := (unhide H10).step hb11
              clear hb11 HSm H10
              obtain ⟨x57_0, x57_1, _⟩ := h11.two (b := G) (.head _)
              obtain ⟨x58_0, x58_1, _⟩ := h11.two (b := (C + 1)) (.tail _ (.tail _ (.tail _ (.head _))))
              have H11 := hide h11
              clear h11
              go_wp2_with fail
              go_ret
              exact ⟨rfl, (((((unhide H11).forget []).forget []).forget []).forget []).forget []⟩
          · have hnz : (o.node == it.node) = false := by simpa using hnn
            simp only [if_neg hnn]
            have hwo := unhide Hgo o rfl
            have hmg := fun (wx : World) (l : List Res) (hx : FSIn w0 wx fb mb N F next l) => mayGo_calls w0 wx fb mb N F next l hx (unhide HF) o.name o.node u.kind hwo
            have HUn : Hid (∀ wx l, FSIn w0 wx fb mb N F next l → Calls Tryz.prog 65 #[.pointer (some ⟨fb, 0, none⟩), .agg #[.int .i64 g.v.id, .int .i64 g.v.kind, .int .i64 g.v.up, .int .i64 g.v.links, .string g.v.text, .pointer g.v.ptr, .string g.key, .string g.name], .agg #[.string o.name, .int .i64 o.node]] wx fun e w' => e = .returned (.tuple #[]) ∧ FSIn w0 w' fb mb (unlinkN N o.node) (dropF F g.tb g.key) next l) := fun wx l hx => by
              have := unlink_calls w0 wx fb mb N F next l hx (unhide HN) g g.tb (unhide Hgb) (unhide Hgt') o.name o.node hwo (unhide HLk o.node)
              unfold PL.val at this
              exact this
            generalize mayGoP N F o.node u.kind = r3 at hmg ⊢
            clear hnn
            cases r3 with
            | some k =>
              simp only [errV] at hmg ⊢
              have HMg := hide hmg
              clear hmg hmv HUn
              go_enter Tryz.func26, Tryz.ntmps26
              go_wp2_with fail
              refine (unhide HT).mono ?_
              rintro e w2 ⟨rfl, h2⟩
              obtain ⟨C, hC⟩ : ∃ C, w2.heap.size = C := ⟨_, rfl⟩
              have h3 := (h2.made 96 [.int .i64 p.v.id, .int .i64 p.v.kind, .int .i64 p.v.up, .int .i64 p.v.links, .string p.v.text, .pointer p.v.ptr, .string p.key, .string p.name]).made 38 [.string it.name, .int .i64 it.node]
              have hz : (w2.alloc (.cells [.int .i64 p.v.id, .int .i64 p.v.kind, .int .i64 p.v.up, .int .i64 p.v.links, .string p.v.text, .pointer p.v.ptr, .string p.key, .string p.name].toArray 96)).heap.size = C + 1 := by simp [hC]
              rw [hz, hC] at h3
              obtain ⟨w3, hw3⟩ : ∃ w3, (w2.alloc (.cells [.int .i64 p.v.id, .int .i64 p.v.kind, .int .i64 p.v.up, .int .i64 p.v.links, .string p.v.text, .pointer p.v.ptr, .string p.key, .string p.name].toArray 96)).alloc (.cells [.string it.name, .int .i64 it.node].toArray 38) = w3 := ⟨_, rfl⟩
              rw [hw3] at h3
              have hp3 := unhide HP w3 _ h3
              have HP3 := hide hp3
              clear h2 hz HT hp3 h3 HP
              go_wp2_with fail
              refine (unhide HP3).mono ?_
              rintro e w4 ⟨rfl, h4⟩
              obtain ⟨D, hD⟩ : ∃ D, w4.heap.size = D := ⟨_, rfl⟩
              have h5 := h4.made 96 [.int .i64 g.v.id, .int .i64 g.v.kind, .int .i64 g.v.up, .int .i64 g.v.links, .string g.v.text, .pointer g.v.ptr, .string g.key, .string g.name]
              rw [hD] at h5
              obtain ⟨w5, hw5⟩ : ∃ w5, w4.alloc (.cells [.int .i64 g.v.id, .int .i64 g.v.kind, .int .i64 g.v.up, .int .i64 g.v.links, .string g.v.text, .pointer g.v.ptr, .string g.key, .string g.name].toArray 96) = w5 := ⟨_, rfl⟩
              rw [hw5] at h5
              obtain ⟨E, hE⟩ : ∃ E, w5.heap.size = E := ⟨_, rfl⟩
              have hA := h5.made 80 [.int .i64 0, .int .i64 0, .int .i64 0, .int .i64 0, .string ⟨#[]⟩, .pointer none]
              have q0 := h5.map0
              have q0a : ∀ o, (w5.alloc o).cell? ⟨fb, 0, none⟩ = some (.map (some mb)) := fun o => Lib.cell?_alloc_some o q0
              have e1 : w5.cell? ⟨C + 1, 1, none⟩ = some (.int .i64 it.node) := h5.cellAt (.tail _ (.head _)) rfl
              have e1a : ∀ o, (w5.alloc o).cell? ⟨C + 1, 1, none⟩ = some (.int .i64 it.node) := fun o => Lib.cell?_alloc_some o e1
              have hlk := h5.look (unhide Hwf) w5.drew rfl
              have hlka := hA.look (unhide Hwf) (w5.alloc (.cells #[.int .i64 0, .int .i64 0, .int .i64 0, .int .i64 0, .string ⟨#[]⟩, .pointer none] 80)).drew rfl
              rw [unhide Hu] at hlk hlka
              unfold NV.val at hlk hlka
              have HU : Hid (FSIn w0 (w5.alloc (.cells #[.int .i64 u.id, .int .i64 u.kind, .int .i64 u.up, .int .i64 u.links, .string u.text, .pointer u.ptr] 80)).drew fb mb N F next (.cell E 80 [.int .i64 u.id, .int .i64 u.kind, .int .i64 u.up, .int .i64 u.links, .string u.text, .pointer u.ptr] :: .cell D 96 [.int .i64 g.v.id, .int .i64 g.v.kind, .int .i64 g.v.up, .int .i64 g.v.links, .string g.v.text, .pointer g.v.ptr, .string g.key, .string g.name] :: .cell (C + 1) 38 [.string it.name, .int .i64 it.node] :: .cell C 96 [.int .i64 p.v.id, .int .i64 p.v.kind, .int .i64 p.v.up, .int .i64 p.v.links, .string p.v.text, .pointer p.v.ptr, .string p.key, .string p.name] :: l2)) := by
                rw [← hE]; exact (h5.made 80 [.int .i64 u.id, .int .i64 u.kind, .int .i64 u.up, .int .i64 u.links, .string u.text, .pointer u.ptr]).drew
              clear h4 h5 hA HP3
              go_wp2_with fail
              go_cut [11] from 34 to 40 (fun a11 wc => ∃ nb : Nat, a11 = .pointer (some ⟨nb, 0, none⟩) ∧ Hid (FSIn w0 wc fb mb N F next (.cell nb 80 [.int .i64 u.id, .int .i64 u.kind, .int .i64 u.up, .int .i64 u.links, .string u.text, .pointer u.ptr] :: .cell D 96 [.int .i64 g.v.id, .int .i64 g.v.kind, .int .i64 g.v.up, .int .i64 g.v.links, .string g.v.text, .pointer g.v.ptr, .string g.key, .string g.name] :: .cell (C + 1) 38 [.string it.name, .int .i64 it.node] :: .cell C 96 [.int .i64 p.v.id, .int .i64 p.v.kind, .int .i64 p.v.up, .int .i64 p.v.links, .string p.v.text, .pointer p.v.ptr, .string p.key, .string p.name] :: l2)))
              case first =>
                go_region
                all_goals (go_wp2_with fail; go_meet; exact ⟨_, rfl, HU⟩)
              case rest =>
                obtain ⟨nb, rfl, H7⟩ := hcut
                clear hlk hlka q0 q0a e1 e1a HU
                obtain ⟨x67_0, x67_1, x67_2, x67_3, x67_4, x67_5, _⟩ := (unhide H7).six (b := nb) (.head _)
                go_wp2_with fail
                refine (unhide Hf _).mono ?_
                rintro e w8 ⟨rfl, hb8⟩
                have h8 := (unhide H7).step hb8
                clear hb8 Hf H7
                obtain ⟨x68_0, x68_1, x68_2, x68_3, x68_4, x68_5, x68_6, x68_7, _⟩ := h8.eight (b := D) (.tail _ (.head _))
                obtain ⟨x69_0, x69_1, x69_2, x69_3, x69_4, x69_5, _⟩ := h8.six (b := nb) (.head _)
                have hw8 := unhide HW w8 _ h8
                have HW8 := hide hw8
                have H8 := hide h8
                clear h8 hw8 HW
                go_wp2_with fail
                refine (unhide HW8).mono ?_
                rintro e w8b ⟨rfl, rfl⟩
                clear HW8
                have hg8 := unhide HGt _ _ (unhide H8)
                have HG8 := hide hg8
                clear hg8 HGt
                go_wp2_with fail
                refine (unhide HG8).mono ?_
                rintro e w9 ⟨rfl, h9⟩
                obtain ⟨G, hG⟩ : ∃ G, w9.heap.size = G := ⟨_, rfl⟩
                have h10 := h9.made 38 [.string o.name, .int .i64 o.node]
                rw [hG] at h10
                obtain ⟨w10, hw10⟩ : ∃ w10, w9.alloc (.cells [.string o.name, .int .i64 o.node].toArray 38) = w10 := ⟨_, rfl⟩
                rw [hw10] at h10
                clear h9 HG8 H8
                obtain ⟨x62_0, x62_1, x62_2, x62_3, x62_4, x62_5, x62_6, x62_7, _⟩ := h10.eight (b := D) (.tail _ (.tail _ (.head _)))
                obtain ⟨x63_0, x63_1, x63_2, x63_3, x63_4, x63_5, x63_6, x63_7, _⟩ := h10.eight (b := C) (.tail _ (.tail _ (.tail _ (.tail _ (.head _)))))
                have H10 := hide h10
                clear h10
                go_wp2_with fail
                refine (unhide HSm _).mono ?_
                rintro e w11 ⟨rfl, hb11⟩
                have h11 := (unhide H10).step hb11
                clear hb11 HSm H10
                obtain ⟨x64_0, x64_1, _⟩ := h11.two (b := G) (.head _)
                obtain ⟨x65_0, x65_1, _⟩ := h11.two (b := (C + 1)) (.tail _ (.tail _ (.tail _ (.head _))))
                obtain ⟨x66_0, x66_1, x66_2, x66_3, x66_4, x66_5, _⟩ := h11.six (b := nb) (.tail _ (.head _))
                have hmg := unhide HMg _ _ h11
                have HMG := hide hmg
                clear h11 hmg HMg
                go_wp2_with fail
                refine (unhide HMG).mono ?_
                rintro e w12 ⟨rfl, h12⟩
                clear HMG
                have H12 := hide h12
                clear h12
                go_wp2_with fail
                go_ret
                exact ⟨rfl, (((((unhide H12).forget []).forget []).forget []).forget []).forget []⟩
            | none =>
              simp only [errV] at hmg ⊢
              have HMg := hide hmg
              have HMv := hide (hmv (unlinkN N o.node) (dropF F g.tb g.key) (Nat.le_trans ((unhide HF).unlink o.node (fun v hv => (unhide HL v hv).1)).few (by decide)) (by rw [show (dropF F g.tb g.key).map (·.1) = F.map (·.1) from setF_keys _ _ _]; exact unhide Hpt) (by rw [show (dropF F g.tb g.key).map (·.1) = F.map (·.1) from setF_keys _ _ _]; exact unhide Hgt'))
              clear hmg hmv
              go_enter Tryz.func26, Tryz.ntmps26
              go_wp2_with fail
              refine (unhide HT).mono ?_
              rintro e w2 ⟨rfl, h2⟩
              obtain ⟨C, hC⟩ : ∃ C, w2.heap.size = C := ⟨_, rfl⟩
              have h3 := (h2.made 96 [.int .i64 p.v.id, .int .i64 p.v.kind, .int .i64 p.v.up, .int .i64 p.v.links, .string p.v.text, .pointer p.v.ptr, .string p.key, .string p.name]).made 38 [.string it.name, .int .i64 it.node]
              have hz : (w2.alloc (.cells [.int .i64 p.v.id, .int .i64 p.v.kind, .int .i64 p.v.up, .int .i64 p.v.links, .string p.v.text, .pointer p.v.ptr, .string p.key, .string p.name].toArray 96)).heap.size = C + 1 := by simp [hC]
              rw [hz, hC] at h3
              obtain ⟨w3, hw3⟩ : ∃ w3, (w2.alloc (.cells [.int .i64 p.v.id, .int .i64 p.v.kind, .int .i64 p.v.up, .int .i64 p.v.links, .string p.v.text, .pointer p.v.ptr, .string p.key, .string p.name].toArray 96)).alloc (.cells [.string it.name, .int .i64 it.node].toArray 38) = w3 := ⟨_, rfl⟩
              rw [hw3] at h3
              have hp3 := unhide HP w3 _ h3
              have HP3 := hide hp3
              clear h2 hz HT hp3 h3 HP
              go_wp2_with fail
              refine (unhide HP3).mono ?_
              rintro e w4 ⟨rfl, h4⟩
              obtain ⟨D, hD⟩ : ∃ D, w4.heap.size = D := ⟨_, rfl⟩
              have h5 := h4.made 96 [.int .i64 g.v.id, .int .i64 g.v.kind, .int .i64 g.v.up, .int .i64 g.v.links, .string g.v.text, .pointer g.v.ptr, .string g.key, .string g.name]
              rw [hD] at h5
              obtain ⟨w5, hw5⟩ : ∃ w5, w4.alloc (.cells [.int .i64 g.v.id, .int .i64 g.v.kind, .int .i64 g.v.up, .int .i64 g.v.links, .string g.v.text, .pointer g.v.ptr, .string g.key, .string g.name].toArray 96) = w5 := ⟨_, rfl⟩
              rw [hw5] at h5
              obtain ⟨E, hE⟩ : ∃ E, w5.heap.size = E := ⟨_, rfl⟩
              have hA := h5.made 80 [.int .i64 0, .int .i64 0, .int .i64 0, .int .i64 0, .string ⟨#[]⟩, .pointer none]
              have q0 := h5.map0
              have q0a : ∀ o, (w5.alloc o).cell? ⟨fb, 0, none⟩ = some (.map (some mb)) := fun o => Lib.cell?_alloc_some o q0
              have e1 : w5.cell? ⟨C + 1, 1, none⟩ = some (.int .i64 it.node) := h5.cellAt (.tail _ (.head _)) rfl
              have e1a : ∀ o, (w5.alloc o).cell? ⟨C + 1, 1, none⟩ = some (.int .i64 it.node) := fun o => Lib.cell?_alloc_some o e1
              have hlk := h5.look (unhide Hwf) w5.drew rfl
              have hlka := hA.look (unhide Hwf) (w5.alloc (.cells #[.int .i64 0, .int .i64 0, .int .i64 0, .int .i64 0, .string ⟨#[]⟩, .pointer none] 80)).drew rfl
              rw [unhide Hu] at hlk hlka
              unfold NV.val at hlk hlka
              have HU : Hid (FSIn w0 (w5.alloc (.cells #[.int .i64 u.id, .int .i64 u.kind, .int .i64 u.up, .int .i64 u.links, .string u.text, .pointer u.ptr] 80)).drew fb mb N F next (.cell E 80 [.int .i64 u.id, .int .i64 u.kind, .int .i64 u.up, .int .i64 u.links, .string u.text, .pointer u.ptr] :: .cell D 96 [.int .i64 g.v.id, .int .i64 g.v.kind, .int .i64 g.v.up, .int .i64 g.v.links, .string g.v.text, .pointer g.v.ptr, .string g.key, .string g.name] :: .cell (C + 1) 38 [.string it.name, .int .i64 it.node] :: .cell C 96 [.int .i64 p.v.id, .int .i64 p.v.kind, .int .i64 p.v.up, .int .i64 p.v.links, .string p.v.text, .pointer p.v.ptr, .string p.key, .string p.name] :: l2)) := by
                rw [← hE]; exact (h5.made 80 [.int .i64 u.id, .int .i64 u.kind, .int .i64 u.up, .int .i64 u.links, .string u.text, .pointer u.ptr]).drew
              clear h4 h5 hA HP3
              go_wp2_with fail
              go_cut [11] from 34 to 40 (fun a11 wc => ∃ nb : Nat, a11 = .pointer (some ⟨nb, 0, none⟩) ∧ Hid (FSIn w0 wc fb mb N F next (.cell nb 80 [.int .i64 u.id, .int .i64 u.kind, .int .i64 u.up, .int .i64 u.links, .string u.text, .pointer u.ptr] :: .cell D 96 [.int .i64 g.v.id, .int .i64 g.v.kind, .int .i64 g.v.up, .int .i64 g.v.links, .string g.v.text, .pointer g.v.ptr, .string g.key, .string g.name] :: .cell (C + 1) 38 [.string it.name, .int .i64 it.node] :: .cell C 96 [.int .i64 p.v.id, .int .i64 p.v.kind, .int .i64 p.v.up, .int .i64 p.v.links, .string p.v.text, .pointer p.v.ptr, .string p.key, .string p.name] :: l2)))
              case first =>
                go_region
                all_goals (go_wp2_with fail; go_meet; exact ⟨_, rfl, HU⟩)
              case rest =>
                obtain ⟨nb, rfl, H7⟩ := hcut
                clear hlk hlka q0 q0a e1 e1a HU
                obtain ⟨x80_0, x80_1, x80_2, x80_3, x80_4, x80_5, _⟩ := (unhide H7).six (b := nb) (.head _)
                go_wp2_with fail
                refine (unhide Hf _).mono ?_
                rintro e w8 ⟨rfl, hb8⟩
                have h8 := (unhide H7).step hb8
                clear hb8 Hf H7
                obtain ⟨x81_0, x81_1, x81_2, x81_3, x81_4, x81_5, x81_6, x81_7, _⟩ := h8.eight (b := D) (.tail _ (.head _))
                obtain ⟨x82_0, x82_1, x82_2, x82_3, x82_4, x82_5, _⟩ := h8.six (b := nb) (.head _)
                have hw8 := unhide HW w8 _ h8
                have HW8 := hide hw8
                have H8 := hide h8
                clear h8 hw8 HW
                go_wp2_with fail
                refine (unhide HW8).mono ?_
                rintro e w8b ⟨rfl, rfl⟩
                clear HW8
                have hg8 := unhide HGt _ _ (unhide H8)
                have HG8 := hide hg8
                clear hg8 HGt
                go_wp2_with fail
                refine (unhide HG8).mono ?_
                rintro e w9 ⟨rfl, h9⟩
                obtain ⟨G, hG⟩ : ∃ G, w9.heap.size = G := ⟨_, rfl⟩
                have h10 := h9.made 38 [.string o.name, .int .i64 o.node]
                rw [hG] at h10
                obtain ⟨w10, hw10⟩ : ∃ w10, w9.alloc (.cells [.string o.name, .int .i64 o.node].toArray 38) = w10 := ⟨_, rfl⟩
                rw [hw10] at h10
                clear h9 HG8 H8
                obtain ⟨x70_0, x70_1, x70_2, x70_3, x70_4, x70_5, x70_6, x70_7, _⟩ := h10.eight (b := D) (.tail _ (.tail _ (.head _)))
                obtain ⟨x71_0, x71_1, x71_2, x71_3, x71_4, x71_5, x71_6, x71_7, _⟩ := h10.eight (b := C) (.tail _ (.tail _ (.tail _ (.tail _ (.head _)))))
                have H10 := hide h10
                clear h10
                go_wp2_with fail
                refine (unhide HSm _).mono ?_
                rintro e w11 ⟨rfl, hb11⟩
                have h11 := (unhide H10).step hb11
                clear hb11 HSm H10
                obtain ⟨x72_0, x72_1, _⟩ := h11.two (b := G) (.head _)
                obtain ⟨x73_0, x73_1, _⟩ := h11.two (b := (C + 1)) (.tail _ (.tail _ (.tail _ (.head _))))
                obtain ⟨x74_0, x74_1, x74_2, x74_3, x74_4, x74_5, _⟩ := h11.six (b := nb) (.tail _ (.head _))
                have hmg := unhide HMg _ _ h11
                have HMG := hide hmg
                clear h11 hmg HMg
                go_wp2_with fail
                refine (unhide HMG).mono ?_
                rintro e w12 ⟨rfl, h12⟩
                clear HMG
                obtain ⟨x75_0, x75_1, x75_2, x75_3, x75_4, x75_5, x75_6, x75_7, _⟩ := h12.eight (b := D) (.tail _ (.tail _ (.head _)))
                obtain ⟨x76_0, x76_1, _⟩ := h12.two (b := G) (.head _)
                have hun := unhide HUn _ _ h12
                have HUN := hide hun
                clear h12 hun HUn
                go_wp2_with fail
                refine (unhide HUN).mono ?_
                rintro e w13 ⟨rfl, h13⟩
                clear HUN
                obtain ⟨x77_0, x77_1, x77_2, x77_3, x77_4, x77_5, x77_6, x77_7, _⟩ := h13.eight (b := C) (.tail _ (.tail _ (.tail _ (.tail _ (.head _)))))
                obtain ⟨x78_0, x78_1, x78_2, x78_3, x78_4, x78_5, x78_6, x78_7, _⟩ := h13.eight (b := D) (.tail _ (.tail _ (.head _)))
                obtain ⟨x79_0, x79_1, _⟩ := h13.two (b := (C + 1)) (.tail _ (.tail _ (.tail _ (.head _))))
                have hmv := unhide HMv _ _ h13
                have HMV := hide hmv
                clear h13 hmv HMv
                go_wp2_with fail
                refine (unhide HMV).mono ?_
                rintro e w14 ⟨rfl, h14⟩
                have H14 := hide h14
                clear h14 HMV
                go_wp2_with fail
                go_ret
                exact ⟨rfl, (((((unhide H14).forget []).forget []).forget []).forget []).forget []⟩
set_option maxHeartbeats 2000000 in
theorem rename_calls (hR : Ready w0) (h : FSIn w0 w fb mb N F next l2) (hF : Fits N F next) (hL : ∀ v ∈ N, 0 ≤ v.links ∧ v.links ≤ 1000000) (s t : ByteArray) (hs : s.size ≤ 4000000000) (ht : t.size ≤ 4000000000) :
    Calls Tryz.prog 26 #[.pointer (some ⟨fb, 0, none⟩), .string s, .string t] w fun e w' => e = .returned (errV (renameP N F s t).1) ∧ FSIn w0 w' fb mb (renameP N F s t).2.1 (renameP N F s t).2.2 next l2 := by
  have hg := taken_calls w0 w fb mb N F next l2 hR h hF s hs
  have hp := fun (wx : World) (l : List Res) (hx : FSIn w0 wx fb mb N F next l) => place_calls w0 wx fb mb N F next l hR hx hF t ht
  have Hpl : Hid (∀ p it, takenP N F s = .ok (p, it) → PlaceOk N F p ∧ 0 ≤ it.node ∧ it.node ≤ 999) := fun p it hp => ⟨(takenP_ok hF hp).1, taken_node hF hp⟩
  have Hgl : Hid (∀ g, placeP N F t = .ok g → PlaceOk N F g) := fun g hg => placeP_ok hF hg
  unfold renameP
  generalize takenP N F s = r1 at hg Hpl ⊢
  generalize placeP N F t = r2 at hp Hgl ⊢
  cases r1 with
  | error k =>
    unfold TakenEnd at hg
    rw [show takenRet (.error k) = .tuple #[.agg #[.int .i64 0, .int .i64 0, .int .i64 0, .int .i64 0, .string ⟨#[]⟩, .pointer none, .string ⟨#[]⟩, .string ⟨#[]⟩], .agg #[.string ⟨#[]⟩, .int .i64 0], .iface 86 (.int .i64 k)] from rfl] at hg
    have HG := hide hg
    clear hg Hpl Hgl hp h hF hL hR
    go_enter Tryz.func26, Tryz.ntmps26
    go_wp2_with fail
    refine (unhide HG).mono ?_
    rintro e w2 ⟨rfl, h2⟩
    have H3 := hide ((h2.made 96 [.int .i64 0, .int .i64 0, .int .i64 0, .int .i64 0, .string ⟨#[]⟩, .pointer none, .string ⟨#[]⟩, .string ⟨#[]⟩]).made 38 [.string ⟨#[]⟩, .int .i64 0])
    clear h2 HG
    go_wp2_with fail
    go_ret
    exact ⟨rfl, ((unhide H3).forget []).forget []⟩
  | ok pi =>
    obtain ⟨p, it⟩ := pi
    obtain ⟨hpo, hn0, hn1⟩ := unhide Hpl p it rfl
    cases r2 with
    | error k =>
      simp only [TakenEnd, takenRet, PL.val] at hg
      simp only [PlaceEnd, placeRet_error] at hp
      have HT := hide hg
      have HP := hide hp
      clear hg hp Hpl Hgl h hF hL hR hpo
      go_enter Tryz.func26, Tryz.ntmps26
      go_wp2_with fail
      refine (unhide HT).mono ?_
      rintro e w2 ⟨rfl, h2⟩
      obtain ⟨C, hC⟩ : ∃ C, w2.heap.size = C := ⟨_, rfl⟩
      have h3 := (h2.made 96 [.int .i64 p.v.id, .int .i64 p.v.kind, .int .i64 p.v.up, .int .i64 p.v.links, .string p.v.text, .pointer p.v.ptr, .string p.key, .string p.name]).made 38 [.string it.name, .int .i64 it.node]
      have hz : (w2.alloc (.cells [.int .i64 p.v.id, .int .i64 p.v.kind, .int .i64 p.v.up, .int .i64 p.v.links, .string p.v.text, .pointer p.v.ptr, .string p.key, .string p.name].toArray 96)).heap.size = C + 1 := by simp [hC]
      rw [hz, hC] at h3
      obtain ⟨w3, hw3⟩ : ∃ w3, (w2.alloc (.cells [.int .i64 p.v.id, .int .i64 p.v.kind, .int .i64 p.v.up, .int .i64 p.v.links, .string p.v.text, .pointer p.v.ptr, .string p.key, .string p.name].toArray 96)).alloc (.cells [.string it.name, .int .i64 it.node].toArray 38) = w3 := ⟨_, rfl⟩
      rw [hw3] at h3
      have hp3 := unhide HP w3 _ h3
      have HP3 := hide hp3
      clear h2 hz HT hp3 h3 HP
      go_wp2_with fail
      refine (unhide HP3).mono ?_
      rintro e w4 ⟨rfl, h4⟩
      have H5 := hide (h4.made 96 [.int .i64 0, .int .i64 0, .int .i64 0, .int .i64 0, .string ⟨#[]⟩, .pointer none, .string ⟨#[]⟩, .string ⟨#[]⟩])
      clear h4 HP3
      go_wp2_with fail
      go_ret
      exact ⟨rfl, (((unhide H5).forget []).forget []).forget []⟩
    | ok g =>
      exact rename_goes w0 w fb mb N F next l2 hF hL s t p g it hpo (unhide Hgl g rfl) ⟨hn0, hn1⟩ hg hp
end Go.Proofs.YtjpmomklkkifjaaGreatDoor.T
