import Derived.Test.YtjpmomklkkifjaaGreatDoorCFUnlink
import Derived.Deep.RegionHeldLaw
set_option maxRecDepth 100000
set_option linter.unusedVariables false
set_option linter.unusedSimpArgs false
namespace Go.Proofs.YtjpmomklkkifjaaGreatDoor.T
open Go.RowKit
theorem newTree_calls {w0 w : World} {fb mb : Nat} {N : List NV} {F : Forest} {next : Int} {l2 : List Res} (h : FSIn w0 w fb mb N F next l2) :
    Calls Tryz.prog 149 #[] w fun e w' => ∃ tb, e = .returned (.pointer (some ⟨tb, 0, none⟩)) ∧ FSIn w0 w' fb mb N ((tb, []) :: F) next l2 := by
  obtain ⟨rs, hr, H⟩ := h
  refine (new_calls _ _ _ w _ H (H.size)).mono ?_
  rintro e w' ⟨tb, he, hs, h', k, hL, hc, h1, H2⟩
  refine ⟨tb, he, .cell tb 130 [ptrV k.b] :: .sub h' k :: rs, .cons tb [] h' k hs hL hc h1 hr, H2.conv (fun x => ?_) (fun r hr => H2.sat r ?_)⟩
  · simp only [total_append, total_cons]; omega
  · simp only [List.mem_append, List.mem_cons, List.cons_append] at hr ⊢
    rcases hr with h | h | h | h | h | h <;> simp [h]
variable (w0 w : World) (fb mb : Nat) (N : List NV) (F : Forest) (next : Int) (l2 : List Res)
set_option maxHeartbeats 2000000 in
theorem nodeOf_file (h : FSIn w0 w fb mb N F next l2) (id kind up links : Int) (text : ByteArray) (hk : kind ≠ 1) :
    Calls Tryz.prog 105 #[.agg #[.int .i64 id, .int .i64 kind, .int .i64 up, .int .i64 links, .string text], .slice none 0 0] w fun e w' => e = .returned (.agg #[.int .i64 id, .int .i64 kind, .int .i64 up, .int .i64 links, .string text, .pointer none]) ∧ FSIn w0 w' fb mb N F next l2 := by
  obtain ⟨B, hB⟩ : ∃ B, w.heap.size = B := ⟨_, rfl⟩
  have h1 := (h.made 33 [.int .i64 id, .int .i64 kind, .int .i64 up, .int .i64 links, .string text]).made 80 [.int .i64 id, .int .i64 kind, .int .i64 up, .int .i64 links, .string text, .pointer none]
  have hz : (w.alloc (.cells [.int .i64 id, .int .i64 kind, .int .i64 up, .int .i64 links, .string text].toArray 33)).heap.size = B + 1 := by simp [hB]
  rw [hz, hB] at h1
  have hkz : (kind == 1) = false := by simpa using hk
  have H1 := hide h1
  clear h h1 hz hk
  go_enter Tryz.func105, Tryz.ntmps105
  go_wp2_with fail
  refine bodyPost_ret (results_cell_row (p := 4) rfl _ _ (B + 1) _ _ (0, 0) _ rfl ((unhide H1).heapAt (t := 80) (.head _)) Tryz.underlying80 rfl (by kernel_rfl)) rfl ?_
  exact ⟨rfl, ((unhide H1).forget []).forget []⟩
set_option maxHeartbeats 2000000 in
theorem nodeOf_folder (h : FSIn w0 w fb mb N F next l2) (id up links : Int) (text : ByteArray) :
    Calls Tryz.prog 105 #[.agg #[.int .i64 id, .int .i64 1, .int .i64 up, .int .i64 links, .string text], .slice none 0 0] w fun e w' => ∃ tb, e = .returned (.agg #[.int .i64 id, .int .i64 1, .int .i64 up, .int .i64 links, .string text, .pointer (some ⟨tb, 0, none⟩)]) ∧ FSIn w0 w' fb mb N ((tb, []) :: F) next l2 := by
  obtain ⟨B, hB⟩ : ∃ B, w.heap.size = B := ⟨_, rfl⟩
  have h1 := (h.made 33 [.int .i64 id, .int .i64 1, .int .i64 up, .int .i64 links, .string text]).made 80 [.int .i64 0, .int .i64 0, .int .i64 0, .int .i64 0, .string ⟨#[]⟩, .pointer none]
  have hz : (w.alloc (.cells [.int .i64 id, .int .i64 1, .int .i64 up, .int .i64 links, .string text].toArray 33)).heap.size = B + 1 := by simp [hB]
  rw [hz, hB] at h1
  have hn := newTree_calls h1
  have HNw := hide hn
  clear h h1 hz hn
  go_enter Tryz.func105, Tryz.ntmps105
  go_wp2_with fail
  refine (unhide HNw).mono ?_
  rintro e w2 ⟨tb, rfl, h2⟩
  have b0 : w2.cell? ⟨B, 0, none⟩ = some (.int .i64 id) := h2.cellAt (.tail _ (.head _)) rfl
  have b1 : w2.cell? ⟨B, 1, none⟩ = some (.int .i64 1) := h2.cellAt (.tail _ (.head _)) rfl
  have b2 : w2.cell? ⟨B, 2, none⟩ = some (.int .i64 up) := h2.cellAt (.tail _ (.head _)) rfl
  have b3 : w2.cell? ⟨B, 3, none⟩ = some (.int .i64 links) := h2.cellAt (.tail _ (.head _)) rfl
  have b4 : w2.cell? ⟨B, 4, none⟩ = some (.string text) := h2.cellAt (.tail _ (.head _)) rfl
  obtain ⟨k0, k1, k2, k3, k4, k5, f0, f1, f2, f3, f4, f5⟩ := h2.six (b := B + 1) (.head _)
  have H2 := hide h2
  clear h2 HNw hB
  go_wp2_with fail
  go_loopg [16] 1 (fun g vi wr => vi = .int .i64 0 ∧ wr = w2)
  case atStart => exact ⟨rfl, rfl⟩
  case round =>
    obtain ⟨rfl, rfl⟩ := hrel
    go_wp2_with fail
    have h3 := (unhide H2).putsix [] (.int .i64 id) (.int .i64 1) (.int .i64 up) (.int .i64 links) (.string text) (.pointer (some ⟨tb, 0, none⟩))
    refine bodyPost_ret (results_cell_row (p := 4) rfl _ _ (B + 1) _ _ (0, 0) _ rfl (h3.heapAt (t := 80) (.head _)) Tryz.underlying80 rfl (by kernel_rfl)) rfl ?_
    exact ⟨tb, rfl, (h3.forget []).forget []⟩
end Go.Proofs.YtjpmomklkkifjaaGreatDoor.T
namespace Go.Proofs.YtjpmomklkkifjaaGreatDoor.T
open Go.RowKit
theorem FSIn.frozenF {w0 w : World} {fb mb : Nat} {N : List NV} {F : Forest} {next : Int} {l2 : List Res} (h : FSIn w0 w fb mb N F next l2) (j : Nat) : w.frozen? ⟨fb, j, none⟩ = false := by
  obtain ⟨rs, hr, H⟩ := h
  exact H.frozenAt (.head _) j
theorem FSIn.bump {w0 w : World} {fb mb : Nat} {N : List NV} {F : Forest} {next : Int} {l2 : List Res} (h : FSIn w0 w fb mb N F next l2) (m : Int) : FSIn w0 (w.setCell ⟨fb, 1, none⟩ (.int .i64 m)) fb mb N F m l2 := by
  obtain ⟨rs, hr, H⟩ := h
  exact ⟨rs, hr, H.store [] 1 (.int .i64 m) _ rfl⟩
variable (w0 w : World) (fb mb : Nat) (N : List NV) (F : Forest) (next : Int) (l2 : List Res)
def AddFileEnd (s text : ByteArray) (e : Ending) (w' : World) : Prop := match freeP N F s with
  | .error k => e = .returned (.iface 86 (.int .i64 k)) ∧ FSIn w0 w' fb mb N F next l2
  | .ok p => if 16 ≤ N.length ∨ 999 < next then e = .returned (.iface 86 (.int .i64 9)) ∧ FSIn w0 w' fb mb N F next l2
    else e = .returned .nilIface ∧ FSIn w0 w' fb mb (putN N ⟨next, 2, 0, 1, text, none⟩) (putF F p.tb ⟨p.key, p.name, next⟩) (next + 1) l2
set_option maxHeartbeats 4000000 in
theorem add_file (hR : Ready w0) (h : FSIn w0 w fb mb N F next l2) (hF : Fits N F next) (s text : ByteArray) (hs : s.size ≤ 4000000000) :
    Calls Tryz.prog 58 #[.pointer (some ⟨fb, 0, none⟩), .string s, .agg #[.int .i64 0, .int .i64 2, .int .i64 0, .int .i64 0, .string text]] w fun e w' => AddFileEnd w0 fb mb N F next l2 s text e w' := by
  obtain ⟨B, hB⟩ : ∃ B, w.heap.size = B := ⟨_, rfl⟩
  have h1 := h.made 33 [.int .i64 0, .int .i64 2, .int .i64 0, .int .i64 0, .string text]
  rw [hB] at h1
  have hg := free_calls w0 _ fb mb N F next _ hR h1 hF s hs
  have HN : Hid (N.length ≤ 1000) := by have := hF.few; show _ ≤ _; omega
  have Hpl : Hid (∀ p, freeP N F s = .ok p → PlaceOk N F p) := fun p hp => (freeP_ok hF hp).1
  have hfew := hF.few
  have hnx := hF.next
  unfold AddFileEnd
  generalize freeP N F s = r at hg Hpl ⊢
  obtain ⟨nn, hnn⟩ : ∃ nn, N.length = nn := ⟨_, rfl⟩
  have Hlen : Hid (∀ wx l, FSIn w0 wx fb mb N F next l → ∀ ty, (Builtin.len_ #[75] ty #[.map (some mb)]).run Tryz.prog wx = .ok (.int .i64 nn) wx) := fun wx l hx ty => by rw [← hnn]; exact len_run hx.mapSat ty
  rw [hnn] at hfew ⊢
  clear h h1 hF hR
  cases r with
  | error k =>
    simp only [PlaceEnd, placeRet_error] at hg
    have HG := hide hg
    clear hg Hpl Hlen
    go_enter Tryz.func58, Tryz.ntmps58
    go_wp2_with fail
    refine (unhide HG).mono ?_
    rintro e w2 ⟨rfl, h2⟩
    have H3 := hide (h2.made 96 [.int .i64 0, .int .i64 0, .int .i64 0, .int .i64 0, .string ⟨#[]⟩, .pointer none, .string ⟨#[]⟩, .string ⟨#[]⟩])
    clear h2 HG
    go_wp2_with fail
    go_ret
    exact ⟨rfl, ((unhide H3).forget []).forget []⟩
  | ok p =>
    simp only [PlaceEnd, placeRet_ok] at hg ⊢
    have hpo := unhide Hpl p rfl
    obtain ⟨htb, htf⟩ := hpo.tbs
    have hkey : p.key.toList.isEmpty = false := by rw [hpo.key]; exact key_full hpo.name
    have HG := hide hg
    have Htb := hide htb
    have Htf := hide htf
    have Hkey := hide hkey
    clear hg Hpl hpo htb htf hkey
    by_cases hfull : 16 ≤ nn ∨ 999 < next
    · simp only [if_pos hfull]
      by_cases hz0 : 16 ≤ nn
      · have hz1 : (16 : Int) ≤ (nn : Int) := by omega
        clear hfull
        go_enter Tryz.func58, Tryz.ntmps58
        go_wp2_with fail
        refine (unhide HG).mono ?_
        rintro e w2 ⟨rfl, h2⟩
        obtain ⟨C, hC⟩ : ∃ C, w2.heap.size = C := ⟨_, rfl⟩
        have h3 := h2.made 96 [.int .i64 p.v.id, .int .i64 p.v.kind, .int .i64 p.v.up, .int .i64 p.v.links, .string p.v.text, .pointer p.v.ptr, .string p.key, .string p.name]
        rw [hC] at h3
        obtain ⟨w3, hw3⟩ : ∃ w3, w2.alloc (.cells [.int .i64 p.v.id, .int .i64 p.v.kind, .int .i64 p.v.up, .int .i64 p.v.links, .string p.v.text, .pointer p.v.ptr, .string p.key, .string p.name].toArray 96) = w3 := ⟨_, rfl⟩
        rw [hw3] at h3
        have q0 := h3.map0
        have q1 := h3.next1
        have hlen := unhide Hlen w3 _ h3
        have H3 := hide h3
        clear h2 h3 HG
        go_wp2_with fail
        go_ret
        exact ⟨rfl, ((unhide H3).forget []).forget []⟩
      · have hz1 : ¬ (16 : Int) ≤ (nn : Int) := by omega
        have hz2 : (999 : Int) < next := by omega
        clear hfull
        go_enter Tryz.func58, Tryz.ntmps58
        go_wp2_with fail
        refine (unhide HG).mono ?_
        rintro e w2 ⟨rfl, h2⟩
        obtain ⟨C, hC⟩ : ∃ C, w2.heap.size = C := ⟨_, rfl⟩
        have h3 := h2.made 96 [.int .i64 p.v.id, .int .i64 p.v.kind, .int .i64 p.v.up, .int .i64 p.v.links, .string p.v.text, .pointer p.v.ptr, .string p.key, .string p.name]
        rw [hC] at h3
        obtain ⟨w3, hw3⟩ : ∃ w3, w2.alloc (.cells [.int .i64 p.v.id, .int .i64 p.v.kind, .int .i64 p.v.up, .int .i64 p.v.links, .string p.v.text, .pointer p.v.ptr, .string p.key, .string p.name].toArray 96) = w3 := ⟨_, rfl⟩
        rw [hw3] at h3
        have q0 := h3.map0
        have q1 := h3.next1
        have hlen := unhide Hlen w3 _ h3
        have H3 := hide h3
        clear h2 h3 HG
        go_wp2_with fail
        go_ret
        exact ⟨rfl, ((unhide H3).forget []).forget []⟩
    · simp only [if_neg hfull]
      have hz1 : ¬ (16 : Int) ≤ (nn : Int) := by omega
      have hz2 : ¬ (999 : Int) < next := by omega
      clear hfull
      go_enter Tryz.func58, Tryz.ntmps58
      go_wp2_with fail
      refine (unhide HG).mono ?_
      rintro e w2 ⟨rfl, h2⟩
      obtain ⟨C, hC⟩ : ∃ C, w2.heap.size = C := ⟨_, rfl⟩
      have h3 := h2.made 96 [.int .i64 p.v.id, .int .i64 p.v.kind, .int .i64 p.v.up, .int .i64 p.v.links, .string p.v.text, .pointer p.v.ptr, .string p.key, .string p.name]
      rw [hC] at h3
      obtain ⟨w3, hw3⟩ : ∃ w3, w2.alloc (.cells [.int .i64 p.v.id, .int .i64 p.v.kind, .int .i64 p.v.up, .int .i64 p.v.links, .string p.v.text, .pointer p.v.ptr, .string p.key, .string p.name].toArray 96) = w3 := ⟨_, rfl⟩
      rw [hw3] at h3
      have q0 := h3.map0
      have q1 := h3.next1
      have hlen := unhide Hlen w3 _ h3
      have b0 : w3.cell? ⟨B, 0, none⟩ = some (.int .i64 0) := h3.cellAt (.tail _ (.head _)) rfl
      have b1 : w3.cell? ⟨B, 1, none⟩ = some (.int .i64 2) := h3.cellAt (.tail _ (.head _)) rfl
      have b3 : w3.cell? ⟨B, 3, none⟩ = some (.int .i64 0) := h3.cellAt (.tail _ (.head _)) rfl
      have f0 := h3.frozenAt (b := B) (.tail _ (.head _)) 0
      have f3 := h3.frozenAt (b := B) (.tail _ (.head _)) 3
      have h4 := FSIn.store [_] (FSIn.store [_] h3 0 (.int .i64 next) _ rfl) 3 (.int .i64 1) _ rfl
      obtain ⟨w4, hw4⟩ : ∃ w4, (w3.setCell ⟨B, 0, none⟩ (.int .i64 next)).setCell ⟨B, 3, none⟩ (.int .i64 1) = w4 := ⟨_, rfl⟩
      rw [hw4] at h4
      have hno := fun (wx : World) (l : List Res) (hx : FSIn w0 wx fb mb N F next l) => nodeOf_file w0 wx fb mb N F next l hx next 2 0 1 text (by decide)
      have HNo := hide hno
      have H4 := hide h4
      have HS0 : Hid (w4.drew.cell? ⟨fb, 0, none⟩ = some (.map (some mb)) ∧ w4.drew.cell? ⟨B, 0, none⟩ = some (.int .i64 next) ∧ w4.drew.cell? ⟨B, 1, none⟩ = some (.int .i64 2) ∧ w4.drew.cell? ⟨B, 2, none⟩ = some (.int .i64 0) ∧ w4.drew.cell? ⟨B, 3, none⟩ = some (.int .i64 1) ∧ w4.drew.cell? ⟨B, 4, none⟩ = some (.string text)) :=
        ⟨h4.drew.map0, h4.drew.cellAt (.tail _ (.head _)) rfl, h4.drew.cellAt (.tail _ (.head _)) rfl, h4.drew.cellAt (.tail _ (.head _)) rfl, h4.drew.cellAt (.tail _ (.head _)) rfl, h4.drew.cellAt (.tail _ (.head _)) rfl⟩
      have c1 : w4.cell? ⟨B, 1, none⟩ = some (.int .i64 2) := h4.cellAt (.tail _ (.head _)) rfl
      have HSx : Hid (∀ wx M l, FSIn w0 wx fb mb M F next l → Res.cell B 33 [.int .i64 next, .int .i64 2, .int .i64 0, .int .i64 1, .string text] ∈ l → wx.cell? ⟨fb, 0, none⟩ = some (.map (some mb)) ∧ wx.cell? ⟨B, 0, none⟩ = some (.int .i64 next) ∧ wx.cell? ⟨B, 1, none⟩ = some (.int .i64 2) ∧ wx.cell? ⟨B, 2, none⟩ = some (.int .i64 0) ∧ wx.cell? ⟨B, 3, none⟩ = some (.int .i64 1) ∧ wx.cell? ⟨B, 4, none⟩ = some (.string text)) := fun wx M l hx hm => ⟨hx.map0, hx.cellAt hm rfl, hx.cellAt hm rfl, hx.cellAt hm rfl, hx.cellAt hm rfl, hx.cellAt hm rfl⟩
      clear h2 h3 h4 HG hno
      go_wp2_with fail
      go_region_held (fun w' => w'.cell? ⟨fb, 0, none⟩ = some (.map (some mb)) ∧ w'.cell? ⟨B, 0, none⟩ = some (.int .i64 next) ∧ w'.cell? ⟨B, 1, none⟩ = some (.int .i64 2) ∧ w'.cell? ⟨B, 2, none⟩ = some (.int .i64 0) ∧ w'.cell? ⟨B, 3, none⟩ = some (.int .i64 1) ∧ w'.cell? ⟨B, 4, none⟩ = some (.string text)) (first | exact unhide HS6 | exact unhide HS5 | exact unhide HS0) ((go_at_call 105; refine (unhide HNo _ _ (unhide H4).drew).mono ?_; rintro e w5 ⟨rfl, h5⟩; have HS5 := hide (unhide HSx _ _ _ h5 (.tail _ (.head _))); obtain ⟨w6, hput, h6⟩ := h5.mapPut (unhide HN) ⟨next, 2, 0, 1, text, none⟩ (wfI_of (by simp only; omega) (by simp only; omega)); have hput' : Sem.run Tryz.prog (Instr.mapUpdate 75 (.map (some mb)) (.int .i64 next) (.agg #[.int .i64 next, .int .i64 2, .int .i64 0, .int .i64 1, .string text, .pointer none])) w5 = .ok () w6 := hput; have HS6 := hide (unhide HSx _ _ _ h6 (.tail _ (.head _))); have H6 := hide h6; clear h5 h6 hput))
      have h6 := unhide H6
      have q1 := h6.next1
      have g1 := h6.frozenF 1
      have h7 := h6.bump (next + 1)
      obtain ⟨w7, hw7⟩ : ∃ w7, w6.setCell ⟨fb, 1, none⟩ (.int .i64 (next + 1)) = w7 := ⟨_, rfl⟩
      rw [hw7] at h7
      obtain ⟨e0, e1, e2, e3, e4, e5, e6, e7, _⟩ := h7.eight (b := C) (.head _)
      have b0 : w7.cell? ⟨B, 0, none⟩ = some (.int .i64 next) := h7.cellAt (.tail _ (.head _)) rfl
      have hpp := pput_calls w0 w7 fb mb _ F (next + 1) _ h7 p next p.tb (unhide Htb) (unhide Htf) (unhide Hkey)
      unfold PL.val at hpp
      have HPP := hide hpp
      clear h6 h7 hpp HS0 HS5 HS6 H4 HNo HSx H6 c1 hlen
      go_wp2_with fail
      refine (unhide HPP).mono ?_
      rintro e w8 ⟨rfl, h8⟩
      have H8 := hide h8
      clear h8 HPP
      go_wp2_with fail
      go_ret
      exact ⟨rfl, ((unhide H8).forget []).forget []⟩
end Go.Proofs.YtjpmomklkkifjaaGreatDoor.T
namespace Go.Proofs.YtjpmomklkkifjaaGreatDoor.T
open Go.RowKit
variable (w0 w : World) (fb mb : Nat) (N : List NV) (F : Forest) (next : Int) (l2 : List Res)
def AddFolderEnd (s text : ByteArray) (e : Ending) (w' : World) : Prop := match freeP N F s with
  | .error k => e = .returned (.iface 86 (.int .i64 k)) ∧ FSIn w0 w' fb mb N F next l2
  | .ok p => if 16 ≤ N.length ∨ 999 < next then e = .returned (.iface 86 (.int .i64 9)) ∧ FSIn w0 w' fb mb N F next l2
    else e = .returned .nilIface ∧ ∃ tb, FSIn w0 w' fb mb (putN N ⟨next, 1, p.v.id, 1, text, some tb⟩) (putF ((tb, []) :: F) p.tb ⟨p.key, p.name, next⟩) (next + 1) l2
set_option maxHeartbeats 4000000 in
theorem add_folder (hR : Ready w0) (h : FSIn w0 w fb mb N F next l2) (hF : Fits N F next) (s text : ByteArray) (hs : s.size ≤ 4000000000) :
    Calls Tryz.prog 58 #[.pointer (some ⟨fb, 0, none⟩), .string s, .agg #[.int .i64 0, .int .i64 1, .int .i64 0, .int .i64 0, .string text]] w fun e w' => AddFolderEnd w0 fb mb N F next l2 s text e w' := by
  obtain ⟨B, hB⟩ : ∃ B, w.heap.size = B := ⟨_, rfl⟩
  have h1 := h.made 33 [.int .i64 0, .int .i64 1, .int .i64 0, .int .i64 0, .string text]
  rw [hB] at h1
  have hg := free_calls w0 _ fb mb N F next _ hR h1 hF s hs
  have HN : Hid (N.length ≤ 1000) := by have := hF.few; show _ ≤ _; omega
  have Hpl : Hid (∀ p, freeP N F s = .ok p → PlaceOk N F p) := fun p hp => (freeP_ok hF hp).1
  have hfew := hF.few
  have hnx := hF.next
  unfold AddFolderEnd
  generalize freeP N F s = r at hg Hpl ⊢
  obtain ⟨nn, hnn⟩ : ∃ nn, N.length = nn := ⟨_, rfl⟩
  have Hlen : Hid (∀ wx l, FSIn w0 wx fb mb N F next l → ∀ ty, (Builtin.len_ #[75] ty #[.map (some mb)]).run Tryz.prog wx = .ok (.int .i64 nn) wx) := fun wx l hx ty => by rw [← hnn]; exact len_run hx.mapSat ty
  rw [hnn] at hfew ⊢
  clear h h1 hF hR
  cases r with
  | error k =>
    simp only [PlaceEnd, placeRet_error] at hg
    have HG := hide hg
    clear hg Hpl Hlen
    go_enter Tryz.func58, Tryz.ntmps58
    go_wp2_with fail
    refine (unhide HG).mono ?_
    rintro e w2 ⟨rfl, h2⟩
    have H3 := hide (h2.made 96 [.int .i64 0, .int .i64 0, .int .i64 0, .int .i64 0, .string ⟨#[]⟩, .pointer none, .string ⟨#[]⟩, .string ⟨#[]⟩])
    clear h2 HG
    go_wp2_with fail
    go_ret
    exact ⟨rfl, ((unhide H3).forget []).forget []⟩
  | ok p =>
    simp only [PlaceEnd, placeRet_ok] at hg ⊢
    have hpo := unhide Hpl p rfl
    obtain ⟨htb, htf⟩ := hpo.tbs
    have hkey : p.key.toList.isEmpty = false := by rw [hpo.key]; exact key_full hpo.name
    have HG := hide hg
    have Htb := hide htb
    have Htf := hide htf
    have Hkey := hide hkey
    clear hg Hpl hpo htb htf hkey
    by_cases hfull : 16 ≤ nn ∨ 999 < next
    · simp only [if_pos hfull]
      by_cases hz0 : 16 ≤ nn
      · have hz1 : (16 : Int) ≤ (nn : Int) := by omega
        clear hfull
        go_enter Tryz.func58, Tryz.ntmps58
        go_wp2_with fail
        refine (unhide HG).mono ?_
        rintro e w2 ⟨rfl, h2⟩
        obtain ⟨C, hC⟩ : ∃ C, w2.heap.size = C := ⟨_, rfl⟩
        have h3 := h2.made 96 [.int .i64 p.v.id, .int .i64 p.v.kind, .int .i64 p.v.up, .int .i64 p.v.links, .string p.v.text, .pointer p.v.ptr, .string p.key, .string p.name]
        rw [hC] at h3
        obtain ⟨w3, hw3⟩ : ∃ w3, w2.alloc (.cells [.int .i64 p.v.id, .int .i64 p.v.kind, .int .i64 p.v.up, .int .i64 p.v.links, .string p.v.text, .pointer p.v.ptr, .string p.key, .string p.name].toArray 96) = w3 := ⟨_, rfl⟩
        rw [hw3] at h3
        have q0 := h3.map0
        have q1 := h3.next1
        have hlen := unhide Hlen w3 _ h3
        have H3 := hide h3
        clear h2 h3 HG
        go_wp2_with fail
        go_ret
        exact ⟨rfl, ((unhide H3).forget []).forget []⟩
      · have hz1 : ¬ (16 : Int) ≤ (nn : Int) := by omega
        have hz2 : (999 : Int) < next := by omega
        clear hfull
        go_enter Tryz.func58, Tryz.ntmps58
        go_wp2_with fail
        refine (unhide HG).mono ?_
        rintro e w2 ⟨rfl, h2⟩
        obtain ⟨C, hC⟩ : ∃ C, w2.heap.size = C := ⟨_, rfl⟩
        have h3 := h2.made 96 [.int .i64 p.v.id, .int .i64 p.v.kind, .int .i64 p.v.up, .int .i64 p.v.links, .string p.v.text, .pointer p.v.ptr, .string p.key, .string p.name]
        rw [hC] at h3
        obtain ⟨w3, hw3⟩ : ∃ w3, w2.alloc (.cells [.int .i64 p.v.id, .int .i64 p.v.kind, .int .i64 p.v.up, .int .i64 p.v.links, .string p.v.text, .pointer p.v.ptr, .string p.key, .string p.name].toArray 96) = w3 := ⟨_, rfl⟩
        rw [hw3] at h3
        have q0 := h3.map0
        have q1 := h3.next1
        have hlen := unhide Hlen w3 _ h3
        have H3 := hide h3
        clear h2 h3 HG
        go_wp2_with fail
        go_ret
        exact ⟨rfl, ((unhide H3).forget []).forget []⟩
    · simp only [if_neg hfull]
      have hz1 : ¬ (16 : Int) ≤ (nn : Int) := by omega
      have hz2 : ¬ (999 : Int) < next := by omega
      clear hfull
      go_enter Tryz.func58, Tryz.ntmps58
      go_wp2_with fail
      refine (unhide HG).mono ?_
      rintro e w2 ⟨rfl, h2⟩
      obtain ⟨C, hC⟩ : ∃ C, w2.heap.size = C := ⟨_, rfl⟩
      have h3 := h2.made 96 [.int .i64 p.v.id, .int .i64 p.v.kind, .int .i64 p.v.up, .int .i64 p.v.links, .string p.v.text, .pointer p.v.ptr, .string p.key, .string p.name]
      rw [hC] at h3
      obtain ⟨w3, hw3⟩ : ∃ w3, w2.alloc (.cells [.int .i64 p.v.id, .int .i64 p.v.kind, .int .i64 p.v.up, .int .i64 p.v.links, .string p.v.text, .pointer p.v.ptr, .string p.key, .string p.name].toArray 96) = w3 := ⟨_, rfl⟩
      rw [hw3] at h3
      have q0 := h3.map0
      have q1 := h3.next1
      have hlen := unhide Hlen w3 _ h3
      have b0 : w3.cell? ⟨B, 0, none⟩ = some (.int .i64 0) := h3.cellAt (.tail _ (.head _)) rfl
      have b1 : w3.cell? ⟨B, 1, none⟩ = some (.int .i64 1) := h3.cellAt (.tail _ (.head _)) rfl
      have b3 : w3.cell? ⟨B, 3, none⟩ = some (.int .i64 0) := h3.cellAt (.tail _ (.head _)) rfl
      have f0 := h3.frozenAt (b := B) (.tail _ (.head _)) 0
      have f3 := h3.frozenAt (b := B) (.tail _ (.head _)) 3
      have hx3 := FSIn.store [_] (FSIn.store [_] h3 0 (.int .i64 next) _ rfl) 3 (.int .i64 1) _ rfl
      obtain ⟨wx, hwx⟩ : ∃ wx, (w3.setCell ⟨B, 0, none⟩ (.int .i64 next)).setCell ⟨B, 3, none⟩ (.int .i64 1) = wx := ⟨_, rfl⟩
      rw [hwx] at hx3
      have x1 : wx.cell? ⟨B, 1, none⟩ = some (.int .i64 1) := hx3.cellAt (.tail _ (.head _)) rfl
      have x2 : wx.cell? ⟨B, 2, none⟩ = some (.int .i64 0) := hx3.cellAt (.tail _ (.head _)) rfl
      have xf2 := hx3.frozenAt (b := B) (.tail _ (.head _)) 2
      have y0 : wx.cell? ⟨C, 0, none⟩ = some (.int .i64 p.v.id) := hx3.cellAt (.head _) rfl
      have h4 := FSIn.store [_] hx3 2 (.int .i64 p.v.id) _ rfl
      obtain ⟨w4, hw4⟩ : ∃ w4, wx.setCell ⟨B, 2, none⟩ (.int .i64 p.v.id) = w4 := ⟨_, rfl⟩
      rw [hw4] at h4
      have hno := fun (wx : World) (l : List Res) (hx : FSIn w0 wx fb mb N F next l) => nodeOf_folder w0 wx fb mb N F next l hx next p.v.id 1 text
      have HNo := hide hno
      have H4 := hide h4
      have HS0 : Hid (w4.drew.cell? ⟨fb, 0, none⟩ = some (.map (some mb)) ∧ w4.drew.cell? ⟨B, 0, none⟩ = some (.int .i64 next) ∧ w4.drew.cell? ⟨B, 1, none⟩ = some (.int .i64 1) ∧ w4.drew.cell? ⟨B, 2, none⟩ = some (.int .i64 p.v.id) ∧ w4.drew.cell? ⟨B, 3, none⟩ = some (.int .i64 1) ∧ w4.drew.cell? ⟨B, 4, none⟩ = some (.string text)) :=
        ⟨h4.drew.map0, h4.drew.cellAt (.tail _ (.head _)) rfl, h4.drew.cellAt (.tail _ (.head _)) rfl, h4.drew.cellAt (.tail _ (.head _)) rfl, h4.drew.cellAt (.tail _ (.head _)) rfl, h4.drew.cellAt (.tail _ (.head _)) rfl⟩
      have HSx : Hid (∀ wx M G l, FSIn w0 wx fb mb M G next l → Res.cell B 33 [.int .i64 next, .int .i64 1, .int .i64 p.v.id, .int .i64 1, .string text] ∈ l → wx.cell? ⟨fb, 0, none⟩ = some (.map (some mb)) ∧ wx.cell? ⟨B, 0, none⟩ = some (.int .i64 next) ∧ wx.cell? ⟨B, 1, none⟩ = some (.int .i64 1) ∧ wx.cell? ⟨B, 2, none⟩ = some (.int .i64 p.v.id) ∧ wx.cell? ⟨B, 3, none⟩ = some (.int .i64 1) ∧ wx.cell? ⟨B, 4, none⟩ = some (.string text)) := fun wx M G l hx hm => ⟨hx.map0, hx.cellAt hm rfl, hx.cellAt hm rfl, hx.cellAt hm rfl, hx.cellAt hm rfl, hx.cellAt hm rfl⟩
      clear h2 h3 h4 HG hno hx3
      go_wp2_with fail
      go_region_held (fun w' => w'.cell? ⟨fb, 0, none⟩ = some (.map (some mb)) ∧ w'.cell? ⟨B, 0, none⟩ = some (.int .i64 next) ∧ w'.cell? ⟨B, 1, none⟩ = some (.int .i64 1) ∧ w'.cell? ⟨B, 2, none⟩ = some (.int .i64 p.v.id) ∧ w'.cell? ⟨B, 3, none⟩ = some (.int .i64 1) ∧ w'.cell? ⟨B, 4, none⟩ = some (.string text)) (first | exact unhide HS6 | exact unhide HS5 | exact unhide HS0) ((go_at_call 105; refine (unhide HNo _ _ (unhide H4).drew).mono ?_; rintro e w5 ⟨tb, rfl, h5⟩; have HS5 := hide (unhide HSx _ _ _ _ h5 (.tail _ (.head _))); obtain ⟨w6, hput, h6⟩ := h5.mapPut (unhide HN) ⟨next, 1, p.v.id, 1, text, some tb⟩ (wfI_of (by simp only; omega) (by simp only; omega)); have hput' : Sem.run Tryz.prog (Instr.mapUpdate 75 (.map (some mb)) (.int .i64 next) (.agg #[.int .i64 next, .int .i64 1, .int .i64 p.v.id, .int .i64 1, .string text, .pointer (some ⟨tb, 0, none⟩)])) w5 = .ok () w6 := hput; have HS6 := hide (unhide HSx _ _ _ _ h6 (.tail _ (.head _))); have H6 := hide h6; clear h5 h6 hput))
      have h6 := unhide H6
      have q1 := h6.next1
      have g1 := h6.frozenF 1
      have h7 := h6.bump (next + 1)
      obtain ⟨w7, hw7⟩ : ∃ w7, w6.setCell ⟨fb, 1, none⟩ (.int .i64 (next + 1)) = w7 := ⟨_, rfl⟩
      rw [hw7] at h7
      obtain ⟨e0, e1, e2, e3, e4, e5, e6, e7, _⟩ := h7.eight (b := C) (.head _)
      have b0 : w7.cell? ⟨B, 0, none⟩ = some (.int .i64 next) := h7.cellAt (.tail _ (.head _)) rfl
      have hpp := pput_calls w0 w7 fb mb _ ((tb, []) :: F) (next + 1) _ h7 p next p.tb (unhide Htb) (by rw [List.map_cons]; exact List.mem_cons_of_mem _ (unhide Htf)) (unhide Hkey)
      unfold PL.val at hpp
      have HPP := hide hpp
      clear h6 h7 hpp HS0 HS5 HS6 H4 HNo HSx H6 hlen
      go_wp2_with fail
      refine (unhide HPP).mono ?_
      rintro e w8 ⟨rfl, h8⟩
      have H8 := hide h8
      clear h8 HPP
      go_wp2_with fail
      go_ret
      exact ⟨rfl, tb, ((unhide H8).forget []).forget []⟩
set_option maxHeartbeats 1000000 in
theorem mkdir_calls (hR : Ready w0) (h : FSIn w0 w fb mb N F next l2) (hF : Fits N F next) (s : ByteArray) (hs : s.size ≤ 4000000000) :
    Calls Tryz.prog 24 #[.pointer (some ⟨fb, 0, none⟩), .string s] w fun e w' => AddFolderEnd w0 fb mb N F next l2 s ⟨#[]⟩ e w' := by
  have ha := add_folder w0 w fb mb N F next l2 hR h hF s ⟨#[]⟩ hs
  have HA := hide ha
  clear ha h hF hR
  go_enter Tryz.func24, Tryz.ntmps24
  go_wp2_with fail
  refine (unhide HA).mono ?_
  intro e w2 h2
  obtain ⟨v, rfl⟩ : ∃ v, e = .returned v := by
    unfold AddFolderEnd at h2
    split at h2
    · exact ⟨_, h2.1⟩
    · split at h2
      · exact ⟨_, h2.1⟩
      · exact ⟨_, h2.1⟩
  have H2 := hide h2
  clear h2 HA
  go_wp2_with fail
  go_ret
  exact unhide H2
set_option maxHeartbeats 1000000 in
theorem create_calls (hR : Ready w0) (h : FSIn w0 w fb mb N F next l2) (hF : Fits N F next) (s t : ByteArray) (hs : s.size ≤ 4000000000) (ht : t.size ≤ 4000000000) :
    Calls Tryz.prog 73 #[.pointer (some ⟨fb, 0, none⟩), .string s, .string t] w fun e w' => (20 < t.size ∧ e = .returned (.iface 86 (.int .i64 2)) ∧ FSIn w0 w' fb mb N F next l2) ∨ (t.size ≤ 20 ∧ AddFileEnd w0 fb mb N F next l2 s t e w') := by
  by_cases h20 : 20 < t.size
  · have hz : (20 : Int) < (t.size : Int) := by omega
    have H := hide h
    clear h hF hR
    go_enter Tryz.func73, Tryz.ntmps73
    go_wp2_with fail
    go_ret
    exact .inl ⟨h20, rfl, unhide H⟩
  have hz : ¬ (20 : Int) < (t.size : Int) := by omega
  have hle : t.size ≤ 20 := by omega
  have ha := add_file w0 w fb mb N F next l2 hR h hF s t hs
  have HA := hide ha
  clear ha h hF hR
  go_enter Tryz.func73, Tryz.ntmps73
  go_wp2_with fail
  refine (unhide HA).mono ?_
  intro e w2 h2
  obtain ⟨v, rfl⟩ : ∃ v, e = .returned v := by
    unfold AddFileEnd at h2
    split at h2
    · exact ⟨_, h2.1⟩
    · split at h2
      · exact ⟨_, h2.1⟩
      · exact ⟨_, h2.1⟩
  have H2 := hide h2
  clear h2 HA
  go_wp2_with fail
  go_ret
  exact .inr ⟨hle, unhide H2⟩
end Go.Proofs.YtjpmomklkkifjaaGreatDoor.T
