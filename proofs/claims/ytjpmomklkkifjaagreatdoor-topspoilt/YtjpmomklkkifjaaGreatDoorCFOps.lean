import Derived.Test.YtjpmomklkkifjaaGreatDoorCFPlace2
set_option maxRecDepth 100000
set_option linter.unusedVariables false
set_option linter.unusedSimpArgs false
namespace Go.Proofs.YtjpmomklkkifjaaGreatDoor.T
open Go.RowKit
theorem stepP_at {N : List NV} {F : Forest} {v u : NV} {p : ByteArray} (hv : ∃ i, v = atN N i) (he : stepP N F v p = .ok u) : ∃ i, u = atN N i := by
  unfold stepP at he
  split at he
  · cases he
  split at he
  · cases he; exact hv
  split at he
  · cases he; exact ⟨_, rfl⟩
  split at he
  · cases he
  · cases he; exact ⟨_, rfl⟩
theorem walkP_at {N : List NV} {F : Forest} : ∀ (l : List ByteArray) {v u : NV}, (∃ i, v = atN N i) → walkP N F v l = .ok u → ∃ i, u = atN N i
  | [], v, u, hv, he => by cases he; exact hv
  | p :: l, v, u, hv, he => by
    unfold walkP at he
    split at he
    · rename_i x hx
      exact walkP_at l (stepP_at hv hx) he
    · cases he
theorem findP_at {N : List NV} {F : Forest} {s : ByteArray} {u : NV} (he : findP N F s = .ok u) : ∃ i, u = atN N i := by
  unfold findP at he
  split at he
  · cases he
  · exact walkP_at _ ⟨1, rfl⟩ he
theorem atN_mem {N : List NV} {i : Int} {u : NV} (h : u = atN N i) (hk : u.kind ≠ 0) : u ∈ N ∧ u.id = i := by
  unfold atN at h
  cases hf : findN N i with
  | none => rw [hf] at h; subst h; exact absurd rfl hk
  | some v =>
    rw [hf] at h
    have h' : u = v := h
    rw [h']
    exact findN_some hf
structure PlaceOk (N : List NV) (F : Forest) (p : PL) : Prop where
  inN : p.v ∈ N
  kind : p.v.kind = 1
  tree : ∃ tb, p.v.tb = some tb ∧ tb ∈ F.map (·.1)
  name : checkP p.name = none
  key : p.key = keyS p.name
theorem placeP_ok {N : List NV} {F : Forest} {next : Int} (hF : Fits N F next) {s : ByteArray} {p : PL} (h : placeP N F s = .ok p) : PlaceOk N F p := by
  unfold placeP at h
  split at h
  · cases h
  · cases h
  · rename_i a l hp
    split at h
    · cases h
    rename_i hd
    split at h
    · cases h
    rename_i u hu
    split at h
    · cases h
    rename_i hk
    have hk1 : u.kind = 1 := by simpa using hk
    cases h
    obtain ⟨i, hi⟩ := walkP_at _ ⟨1, rfl⟩ hu
    obtain ⟨hm, _⟩ := atN_mem hi (by rw [hk1]; decide)
    have hl := (parts_ok hp).1 ((a :: l).getLast (by simp)) (List.getLast_mem _)
    refine ⟨hm, hk1, hF.tree u hm hk1, ?_, rfl⟩
    rcases hl with h1 | h1
    · exact absurd h1 hd
    · exact h1
theorem key_full {s : ByteArray} (h : checkP s = none) : (keyS s).toList.isEmpty = false := by
  have hs : (keyS s).data.toList ≠ [] := by
    unfold keyS keyOf keyB toB keyZ
    simp
  rw [Lib.toList_data]
  cases hd : (keyS s).data.toList with
  | nil => exact absurd hd hs
  | cons a l => rfl
noncomputable def freeP (N : List NV) (F : Forest) (s : ByteArray) : Except Int PL :=
  match placeP N F s with | .error k => .error k | .ok p => if (getL (entsOf F p.v) p.key).isSome then .error 6 else .ok p
noncomputable def takenP (N : List NV) (F : Forest) (s : ByteArray) : Except Int (PL × Item) :=
  match placeP N F s with | .error k => .error k | .ok p => match getL (entsOf F p.v) p.key with | none => .error 5 | some it => .ok (p, it)
theorem freeP_ok {N : List NV} {F : Forest} {next : Int} (hF : Fits N F next) {s : ByteArray} {p : PL} (h : freeP N F s = .ok p) : PlaceOk N F p ∧ getL (entsOf F p.v) p.key = none := by
  unfold freeP at h
  split at h
  · cases h
  rename_i q hq
  split at h
  · cases h
  rename_i hn
  cases h
  exact ⟨placeP_ok hF hq, by cases hg : getL (entsOf F p.v) p.key with | none => rfl | some x => rw [hg] at hn; simp at hn⟩
theorem takenP_ok {N : List NV} {F : Forest} {next : Int} (hF : Fits N F next) {s : ByteArray} {p : PL} {it : Item} (h : takenP N F s = .ok (p, it)) : PlaceOk N F p ∧ getL (entsOf F p.v) p.key = some it := by
  unfold takenP at h
  split at h
  · cases h
  rename_i q hq
  split at h
  · cases h
  rename_i x hx
  cases h
  exact ⟨placeP_ok hF hq, hx⟩
variable (w0 w : World) (fb mb : Nat) (N : List NV) (F : Forest) (next : Int) (l2 : List Res)
set_option maxHeartbeats 4000000 in
theorem free_calls (hR : Ready w0) (h : FSIn w0 w fb mb N F next l2) (hF : Fits N F next) (s : ByteArray) (hs : s.size ≤ 4000000000) :
    Calls Tryz.prog 104 #[.pointer (some ⟨fb, 0, none⟩), .string s] w fun e w' => PlaceEnd w0 fb mb N F next l2 (freeP N F s) e w' := by
  obtain ⟨B, hB⟩ : ∃ B, w.heap.size = B := ⟨_, rfl⟩
  have h1 := h.made 96 [.int .i64 0, .int .i64 0, .int .i64 0, .int .i64 0, .string ⟨#[]⟩, .pointer none, .string ⟨#[]⟩, .string ⟨#[]⟩]
  rw [hB] at h1
  have hC := place_calls w0 _ fb mb N F next _ hR h1 hF s hs
  have Hfp : Hid (freeP N F s = match placeP N F s with | .error k => .error k | .ok p => if (getL (entsOf F p.v) p.key).isSome then .error 6 else .ok p) := rfl
  have Hpo : Hid (∀ p, placeP N F s = .ok p → PlaceOk N F p) := fun p hp => placeP_ok hF hp
  generalize placeP N F s = r at hC Hfp Hpo
  clear h1 h hF hR
  cases r with
  | error k =>
    simp only [PlaceEnd, placeRet_error] at hC
    have HC := hide hC
    clear hC Hpo
    go_enter Tryz.func104, Tryz.ntmps104
    go_wp2_with fail
    refine (unhide HC).mono ?_
    rintro e w2 ⟨rfl, h2⟩
    obtain ⟨y0, y1, y2, y3, y4, y5, y6, y7, r0, r1, r2, r3, r4, r5, r6, r7⟩ := h2.eight (b := B) (.head _)
    have hlt : B < w2.heap.size := World.block_lt_of_cell? _ _ y0
    have H2 := hide h2
    clear h2 HC hB
    go_wp2
    have h5 := ((unhide H2).puteight [] (.int .i64 0) (.int .i64 0) (.int .i64 0) (.int .i64 0) (.string ⟨#[]⟩) (.pointer none) (.string ⟨#[]⟩) (.string ⟨#[]⟩)).made 96 [.int .i64 0, .int .i64 0, .int .i64 0, .int .i64 0, .string ⟨#[]⟩, .pointer none, .string ⟨#[]⟩, .string ⟨#[]⟩]
    refine bodyPost_ret (results_place (p := 4) (u := 5) rfl _ _ B _ _ _ _ _ _ _ _ rfl rfl (h5.heapAt (t := 96) (.tail _ (.head _)))) rfl ?_
    exact ⟨by rw [unhide Hfp]; rfl, (h5.forget []).forget []⟩
  | ok p =>
    simp only [PlaceEnd, placeRet_ok] at hC
    have HC := hide hC
    have hpo := unhide Hpo p rfl
    clear hC Hpo
    obtain ⟨tb, htb, ht⟩ := hpo.tree
    have hG := fun wx l (hx : FSIn w0 wx fb mb N F next l) => pget_calls w0 wx fb mb N F next l hx p tb htb ht
    have hee : entsOf F p.v = lookF F tb := by unfold entsOf; rw [htb]
    simp only [getV_eq, PL.val] at hG
    have Hfp2 : Hid (freeP N F s = if (getL (lookF F tb) p.key).isSome then .error 6 else .ok p) := (unhide Hfp).trans (by show (if (getL (entsOf F p.v) p.key).isSome then _ else _) = _; rw [hee])
    generalize getL (lookF F tb) p.key = g at hG Hfp2
    obtain ⟨nm, hnm⟩ : ∃ nm, getN g = nm := ⟨_, rfl⟩
    obtain ⟨nd, hni⟩ : ∃ nd, getI g = nd := ⟨_, rfl⟩
    rw [hnm, hni] at hG
    have HG := hide hG
    clear hG hee ht htb hpo Hfp hnm hni
    go_enter Tryz.func104, Tryz.ntmps104
    go_wp2_with fail
    refine (unhide HC).mono ?_
    rintro e w2 ⟨rfl, h2⟩
    have H3 := hide (h2.made 96 [.int .i64 p.v.id, .int .i64 p.v.kind, .int .i64 p.v.up, .int .i64 p.v.links, .string p.v.text, .pointer p.v.ptr, .string p.key, .string p.name])
    obtain ⟨G, hG⟩ : ∃ G, w2.heap.size = G := ⟨_, rfl⟩
    rw [hG] at H3
    clear h2 HC
    go_wp2_with fail
    refine (unhide HG _ _ (unhide H3)).mono ?_
    rintro e w4 ⟨rfl, h4⟩
    clear H3 HG hG hB
    obtain ⟨y0, y1, y2, y3, y4, y5, y6, y7, r0, r1, r2, r3, r4, r5, r6, r7⟩ := h4.eight (b := B) (.tail _ (.head _))
    obtain ⟨x0, x1, x2, x3, x4, x5, x6, x7, _⟩ := h4.eight (b := G) (.head _)
    have hlt : B < w4.heap.size := World.block_lt_of_cell? _ _ y0
    have hlt2 : G < w4.heap.size := World.block_lt_of_cell? _ _ x0
    have H4 := hide h4
    clear h4
    cases g with
    | none =>
      simp only [Option.isSome_none]
      have hfp3 : freeP N F s = .ok p := (unhide Hfp2).trans (by simp)
      clear Hfp2
      go_wp2
      have h5 := ((unhide H4).puteight [_] (.int .i64 p.v.id) (.int .i64 p.v.kind) (.int .i64 p.v.up) (.int .i64 p.v.links) (.string p.v.text) (.pointer p.v.ptr) (.string p.key) (.string p.name)).made 38 [.string nm, .int .i64 nd]
      refine bodyPost_ret (results_place (p := 4) (u := 5) rfl _ _ B _ _ _ _ _ _ _ _ rfl rfl (h5.heapAt (t := 96) (.tail _ (.tail _ (.head _))))) rfl ?_
      exact ⟨by rw [hfp3]; rfl, ((h5.forget []).forget []).forget []⟩
    | some it =>
      simp only [Option.isSome_some]
      have hfp3 : freeP N F s = .error 6 := (unhide Hfp2).trans (by simp)
      clear Hfp2
      go_wp2
      have h5 := ((unhide H4).puteight [_] (.int .i64 0) (.int .i64 0) (.int .i64 0) (.int .i64 0) (.string ⟨#[]⟩) (.pointer none) (.string ⟨#[]⟩) (.string ⟨#[]⟩)).made 38 [.string nm, .int .i64 nd]
      refine bodyPost_ret (results_place (p := 4) (u := 5) rfl _ _ B _ _ _ _ _ _ _ _ rfl rfl (h5.heapAt (t := 96) (.tail _ (.tail _ (.head _))))) rfl ?_
      exact ⟨by rw [hfp3]; rfl, ((h5.forget []).forget []).forget []⟩
theorem results_taken {fn : Func} {p q u : Tmp} (h : fn.results = #[.cell p 96, .cell q 38, .tmp u]) (tmps : Array Value) (w : World) (g g2 : Nat) (a b c d e f x y m n : Value) {v : Value}
    (hp : tmps.getD p undef = .pointer (some ⟨g, 0, none⟩)) (hq : tmps.getD q undef = .pointer (some ⟨g2, 0, none⟩)) (hu2 : tmps.getD u undef = v) (hg : w.heap[g]? = some (.cells #[a, b, c, d, e, f, x, y] 96 (0, 0))) (hg2 : w.heap[g2]? = some (.cells #[m, n] 38 (0, 0))) :
    (results fn tmps).run Tryz.prog w = .ok (.tuple #[.agg #[a, b, c, d, e, f, x, y], .agg #[m, n], v]) w := by
  have hr := run_loadVar_row (P := Tryz.prog) w g 96 96 #[a, b, c, d, e, f, x, y] (0, 0) _ hg Tryz.underlying96 rfl (by kernel_rfl)
  have hr2 := run_loadVar_row (P := Tryz.prog) w g2 38 38 #[m, n] (0, 0) _ hg2 Tryz.underlying38 rfl (by kernel_rfl)
  rw [Array.getD_eq_getD_getElem?] at hp hq hu2
  simp only [results, h]
  simp [Sem.run_bind, Result.andThen, hp, hq, hu2, asAddr, hr, hr2]
def takenRet : Except Int (PL × Item) → Value
  | .ok (p, it) => .tuple #[p.val, .agg #[.string it.name, .int .i64 it.node], .nilIface]
  | .error k => .tuple #[PL.zero.val, .agg #[.string ⟨#[]⟩, .int .i64 0], .iface 86 (.int .i64 k)]
def TakenEnd (r : Except Int (PL × Item)) (e : Ending) (w' : World) : Prop := e = .returned (takenRet r) ∧ FSIn w0 w' fb mb N F next l2
set_option maxHeartbeats 4000000 in
theorem taken_calls (hR : Ready w0) (h : FSIn w0 w fb mb N F next l2) (hF : Fits N F next) (s : ByteArray) (hs : s.size ≤ 4000000000) :
    Calls Tryz.prog 59 #[.pointer (some ⟨fb, 0, none⟩), .string s] w fun e w' => TakenEnd w0 fb mb N F next l2 (takenP N F s) e w' := by
  obtain ⟨B, hB⟩ : ∃ B, w.heap.size = B := ⟨_, rfl⟩
  have h1 := (h.made 96 [.int .i64 0, .int .i64 0, .int .i64 0, .int .i64 0, .string ⟨#[]⟩, .pointer none, .string ⟨#[]⟩, .string ⟨#[]⟩]).made 38 [.string ⟨#[]⟩, .int .i64 0]
  have hz : (w.alloc (.cells [.int .i64 0, .int .i64 0, .int .i64 0, .int .i64 0, .string ⟨#[]⟩, .pointer none, .string ⟨#[]⟩, .string ⟨#[]⟩].toArray 96)).heap.size = B + 1 := by simp [hB]
  rw [hz, hB] at h1
  have hC := place_calls w0 _ fb mb N F next _ hR h1 hF s hs
  have Hfp : Hid (takenP N F s = match placeP N F s with | .error k => .error k | .ok p => match getL (entsOf F p.v) p.key with | none => .error 5 | some it => .ok (p, it)) := rfl
  have Hpo : Hid (∀ p, placeP N F s = .ok p → PlaceOk N F p) := fun p hp => placeP_ok hF hp
  generalize placeP N F s = r at hC Hfp Hpo
  clear h1 h hF hR hz
  cases r with
  | error k =>
    simp only [PlaceEnd, placeRet_error] at hC
    have HC := hide hC
    clear hC Hpo
    go_enter Tryz.func59, Tryz.ntmps59
    go_wp2_with fail
    refine (unhide HC).mono ?_
    rintro e w2 ⟨rfl, h2⟩
    obtain ⟨y0, y1, y2, y3, y4, y5, y6, y7, r0, r1, r2, r3, r4, r5, r6, r7⟩ := h2.eight (b := B) (.tail _ (.head _))
    obtain ⟨e0, e1, g0, g1⟩ := h2.two (b := B + 1) (.head _)
    have hlt : B + 1 < w2.heap.size := World.block_lt_of_cell? _ _ e0
    have hlt2 : B < w2.heap.size := by omega
    have H2 := hide h2
    clear h2 HC hB
    go_wp2
    have h5 := ((((unhide H2).puteight [_] (.int .i64 0) (.int .i64 0) (.int .i64 0) (.int .i64 0) (.string ⟨#[]⟩) (.pointer none) (.string ⟨#[]⟩) (.string ⟨#[]⟩)).puttwo [] (.string ⟨#[]⟩) (.int .i64 0)).made 96 [.int .i64 0, .int .i64 0, .int .i64 0, .int .i64 0, .string ⟨#[]⟩, .pointer none, .string ⟨#[]⟩, .string ⟨#[]⟩])
    refine bodyPost_ret (results_taken (p := 4) (q := 5) (u := 6) rfl _ _ B (B + 1) _ _ _ _ _ _ _ _ _ _ rfl rfl rfl (h5.heapAt (t := 96) (.tail _ (.tail _ (.head _)))) (h5.heapAt (t := 38) (.tail _ (.head _)))) rfl ?_
    exact ⟨by rw [unhide Hfp]; rfl, ((h5.forget []).forget []).forget []⟩
  | ok p =>
    simp only [PlaceEnd, placeRet_ok] at hC
    have HC := hide hC
    have hpo := unhide Hpo p rfl
    clear hC Hpo
    obtain ⟨tb, htb, ht⟩ := hpo.tree
    have hG := fun wx l (hx : FSIn w0 wx fb mb N F next l) => pget_calls w0 wx fb mb N F next l hx p tb htb ht
    have hee : entsOf F p.v = lookF F tb := by unfold entsOf; rw [htb]
    simp only [getV_eq, PL.val] at hG
    have Hfp2 : Hid (takenP N F s = match getL (lookF F tb) p.key with | none => .error 5 | some it => .ok (p, it)) := (unhide Hfp).trans (by rw [← hee])
    generalize getL (lookF F tb) p.key = g at hG Hfp2
    obtain ⟨nm, hnm⟩ : ∃ nm, getN g = nm := ⟨_, rfl⟩
    obtain ⟨nd, hni⟩ : ∃ nd, getI g = nd := ⟨_, rfl⟩
    rw [hnm, hni] at hG
    have HG := hide hG
    have Hnm := hide hnm
    have Hni := hide hni
    clear hG hee ht htb hpo Hfp hnm hni
    go_enter Tryz.func59, Tryz.ntmps59
    go_wp2_with fail
    refine (unhide HC).mono ?_
    rintro e w2 ⟨rfl, h2⟩
    have H3 := hide (h2.made 96 [.int .i64 p.v.id, .int .i64 p.v.kind, .int .i64 p.v.up, .int .i64 p.v.links, .string p.v.text, .pointer p.v.ptr, .string p.key, .string p.name])
    obtain ⟨G, hG⟩ : ∃ G, w2.heap.size = G := ⟨_, rfl⟩
    rw [hG] at H3
    clear h2 HC
    go_wp2_with fail
    refine (unhide HG _ _ (unhide H3)).mono ?_
    rintro e w4 ⟨rfl, h4⟩
    clear H3 HG hG hB
    obtain ⟨y0, y1, y2, y3, y4, y5, y6, y7, r0, r1, r2, r3, r4, r5, r6, r7⟩ := h4.eight (b := B) (.tail _ (.tail _ (.head _)))
    obtain ⟨e0, e1, g0, g1⟩ := h4.two (b := B + 1) (.tail _ (.head _))
    obtain ⟨x0, x1, x2, x3, x4, x5, x6, x7, _⟩ := h4.eight (b := G) (.head _)
    have hlt : B + 1 < w4.heap.size := World.block_lt_of_cell? _ _ e0
    have hlt1 : B < w4.heap.size := by omega
    have hlt2 : G < w4.heap.size := World.block_lt_of_cell? _ _ x0
    have H4 := hide h4
    cases g with
    | none =>
      simp only [Option.isSome_none]
      have hfp3 : takenP N F s = .error 5 := unhide Hfp2
      clear Hfp2 h4
      go_wp2
      have h5 := (((unhide H4).puteight [_, _] (.int .i64 0) (.int .i64 0) (.int .i64 0) (.int .i64 0) (.string ⟨#[]⟩) (.pointer none) (.string ⟨#[]⟩) (.string ⟨#[]⟩)).puttwo [_] (.string ⟨#[]⟩) (.int .i64 0)).made 38 [.string nm, .int .i64 nd]
      refine bodyPost_ret (results_taken (p := 4) (q := 5) (u := 6) rfl _ _ B (B + 1) _ _ _ _ _ _ _ _ _ _ rfl rfl rfl (h5.heapAt (t := 96) (.tail _ (.tail _ (.tail _ (.head _))))) (h5.heapAt (t := 38) (.tail _ (.tail _ (.head _))))) rfl ?_
      exact ⟨by rw [hfp3]; rfl, (((h5.forget []).forget []).forget []).forget []⟩
    | some it =>
      simp only [Option.isSome_some]
      have hfp3 : takenP N F s = .ok (p, it) := unhide Hfp2
      have hn1 : it.name = nm := unhide Hnm
      have hn2 : it.node = nd := unhide Hni
      rw [← hn1, ← hn2]
      clear Hfp2 h4 Hnm Hni hn1 hn2
      go_wp2_with fail
      go_region
      all_goals go_wp2_with fail
      have h5 := ((((unhide H4).puteight [_, _] (.int .i64 p.v.id) (.int .i64 p.v.kind) (.int .i64 p.v.up) (.int .i64 p.v.links) (.string p.v.text) (.pointer p.v.ptr) (.string p.key) (.string p.name)).puttwo [_] (.string it.name) (.int .i64 it.node)).made 38 [.string it.name, .int .i64 it.node]).drew
      refine bodyPost_ret (results_taken (p := 4) (q := 5) (u := 6) rfl _ _ B (B + 1) _ _ _ _ _ _ _ _ _ _ rfl rfl rfl (h5.heapAt (t := 96) (.tail _ (.tail _ (.tail _ (.head _))))) (h5.heapAt (t := 38) (.tail _ (.tail _ (.head _))))) rfl ?_
      exact ⟨by rw [hfp3]; rfl, (((h5.forget []).forget []).forget []).forget []⟩
end Go.Proofs.YtjpmomklkkifjaaGreatDoor.T
namespace Go.Proofs.YtjpmomklkkifjaaGreatDoor.T
open Go.RowKit
def withinP (N : List NV) : Nat → Int → Int → Bool
  | 0, _, _ => false
  | n + 1, id, outer => if id == outer then true else withinP N n (atN N id).up outer
theorem field80 (a b c d e f : Value) (W : World) : (Instr.field 80 (.agg #[a, b, c, d, e, f]) 0).run Tryz.prog W = .ok (.agg #[a, b, c, d, e]) W := by kernel_rfl
theorem field33 (a b c d e : Value) (W : World) : (Instr.field 33 (.agg #[a, b, c, d, e]) 2).run Tryz.prog W = .ok c W := by kernel_rfl
variable (w0 w : World) (fb mb : Nat) (N : List NV) (F : Forest) (next : Int) (l2 : List Res)
set_option maxHeartbeats 1000000 in
theorem within_calls (h : FSIn w0 w fb mb N F next l2) (hF : Fits N F next) (id outer : Int) (hi : WfI id) :
    Calls Tryz.prog 61 #[.pointer (some ⟨fb, 0, none⟩), .int .i64 id, .int .i64 outer] w fun e w' => e = .returned (.bool (withinP N N.length id outer)) ∧ w' = w := by
  have q0 := h.map0
  have hlen : ∀ ty, (Builtin.len_ #[75] ty #[.map (some mb)]).run Tryz.prog w = .ok (.int .i64 N.length) w := fun ty => len_run h.mapSat ty
  obtain ⟨r, hr⟩ : ∃ r, withinP N N.length id outer = r := ⟨_, rfl⟩
  have hfew := hF.few
  have Hup : Hid (∀ i, WfI (atN N i).up) := fun i => (hF.vok i).2
  have Hlk : Hid (∀ i, WfI i → (Instr.lookup 75 (.map (some mb)) (.int .i64 i) false).run Tryz.prog w = .ok (atN N i).val w) := fun i hi => h.look hi w rfl
  obtain ⟨n, hn⟩ : ∃ n, N.length = n := ⟨_, rfl⟩
  rw [hn] at hlen hr hfew ⊢
  rw [hr]
  have Hr := hide hr
  have Hi := hide hi
  clear h hF hn hr hi
  go_enter Tryz.func61, Tryz.ntmps61
  go_wp2_with fail
  go_loopg [1, 12] (n + 1) (fun k a i wr => ∃ (j : Nat) (x : Int), j ≤ n ∧ k = n + 1 - j ∧ a = .int .i64 x ∧ i = .int .i64 j ∧ wr = w ∧ Hid (WfI x) ∧ Hid (withinP N (n - j) x outer = r))
  case atStart => exact ⟨0, id, by omega, rfl, rfl, rfl, rfl, Hi, Hr⟩
  case round =>
    obtain ⟨j, x, hj, hk, rfl, rfl, hwr, Hx, Hrx⟩ := hrel
    subst hwr
    by_cases hjn : j < n
    · have hjz : (j : Int) < (n : Int) := by omega
      have hlk := unhide Hlk x (unhide Hx)
      have hs : n - j = (n - (j + 1)) + 1 := by omega
      have Hup2 := hide (unhide Hup x)
      have hst : withinP N (n - j) x outer = if x == outer then true else withinP N (n - (j + 1)) (atN N x).up outer := by rw [hs]; rfl
      generalize atN N x = u at hlk Hup2 hst
      unfold NV.val at hlk
      cases he : (x == outer) with
      | true =>
        have hrr : r = true := by rw [← unhide Hrx, hst, he]; rfl
        subst hrr
        clear hst hs
        go_wp2
        go_ret
        exact ⟨rfl, rfl⟩
      | false =>
        have Hr2 : Hid (withinP N (n - (j + 1)) u.up outer = r) := by
          have h8 := unhide Hrx
          rw [hst, he] at h8
          exact h8
        clear hst hs
        have hf1 := field80 (.int .i64 u.id) (.int .i64 u.kind) (.int .i64 u.up) (.int .i64 u.links) (.string u.text) (.pointer u.ptr) wr
        have hf2 := field33 (.int .i64 u.id) (.int .i64 u.kind) (.int .i64 u.up) (.int .i64 u.links) (.string u.text) wr
        go_wp2
        go_roundg (n - j)
        case measure => omega
        case rel => exact ⟨j + 1, u.up, by omega, by omega, rfl, by simp, rfl, Hup2, Hr2⟩
    · have hjz : ¬ (j : Int) < (n : Int) := by omega
      have hrr : r = false := by rw [← unhide Hrx, show n - j = 0 by omega]; rfl
      subst hrr
      go_wp2
      go_ret
      exact ⟨rfl, rfl⟩
end Go.Proofs.YtjpmomklkkifjaaGreatDoor.T
namespace Go.Proofs.YtjpmomklkkifjaaGreatDoor.T
open Go.RowKit
def mayGoP (N : List NV) (F : Forest) (node kind : Int) : Option Int :=
  if (atN N node).kind ≠ kind then some 7 else if (atN N node).kind = 1 ∧ 0 < (entsOf F (atN N node)).length then some 6 else none
def unlinkN (N : List NV) (node : Int) : List NV :=
  if (atN N node).links - 1 < 1 then delN N node else putN N { atN N node with links := (atN N node).links - 1 }
def dropF (F : Forest) (tb : Nat) (key : ByteArray) : Forest := setF F tb (dropL (lookF F tb) key)
def putF (F : Forest) (tb : Nat) (it : Item) : Forest := setF F tb (putL (lookF F tb) it)
def moveN (N : List NV) (id up : Int) : List NV := if (atN N id).kind = 1 then putN N { atN N id with up := up } else N
theorem mem_putL {it x : Item} : ∀ {l : List Item}, x ∈ putL l it → x = it ∨ x ∈ l
  | [], h => by simp [putL] at h; exact .inl h
  | y :: l, h => by
    unfold putL at h
    split at h
    · rcases List.mem_cons.1 h with h | h
      · exact .inl h
      · exact .inr h
    split at h
    · rcases List.mem_cons.1 h with h | h
      · exact .inl h
      · exact .inr (List.mem_cons_of_mem _ h)
    · rcases List.mem_cons.1 h with h | h
      · exact .inr (by rw [h]; exact List.mem_cons_self)
      · rcases mem_putL h with h | h
        · exact .inl h
        · exact .inr (List.mem_cons_of_mem _ h)
theorem putL_len (it : Item) : ∀ l : List Item, (putL l it).length ≤ l.length + 1
  | [] => by simp [putL]
  | y :: l => by
    unfold putL
    split
    · simp
    split
    · simp
    · have := putL_len it l; simp; omega
theorem dropL_len (l : List Item) (k : ByteArray) : (dropL l k).length ≤ l.length := List.length_filter_le _ _
theorem mem_dropL {l : List Item} {k : ByteArray} {x : Item} (h : x ∈ dropL l k) : x ∈ l := (List.mem_filter.1 h).1
theorem mem_setF {F : Forest} {tb : Nat} {L : List Item} {x : Nat × List Item} (h : x ∈ setF F tb L) : x.2 = L ∨ x ∈ F := by
  obtain ⟨y, hy, he⟩ := List.mem_map.1 h
  split at he
  · exact .inl (by rw [← he])
  · exact .inr (by rw [← he]; exact hy)
def Few (k : Nat) (F : Forest) : Prop := ∀ x ∈ F, x.2.length ≤ k
theorem Few.mono {k m : Nat} {F : Forest} (h : Few k F) (hm : k ≤ m) : Few m F := fun x hx => Nat.le_trans (h x hx) hm
theorem Few.look {k : Nat} {F : Forest} (h : Few k F) (tb : Nat) : (lookF F tb).length ≤ k := by
  by_cases ht : tb ∈ F.map (·.1)
  · exact h _ (lookF_in ht)
  · have : lookF F tb = [] := by
      unfold lookF
      cases hf : F.find? (fun x => x.1 == tb) with
      | none => rfl
      | some x => exact absurd (List.mem_map.2 ⟨x, List.mem_of_find?_eq_some hf, by simpa using List.find?_some hf⟩) ht
    rw [this]; exact Nat.zero_le _
theorem Few.set {k m : Nat} {F : Forest} (h : Few k F) (hm : k ≤ m) {tb : Nat} {L : List Item} (hL : L.length ≤ m) : Few m (setF F tb L) := fun x hx => by
  rcases mem_setF hx with h1 | h1
  · rw [h1]; exact hL
  · exact Nat.le_trans (h x h1) hm
theorem Few.put {k : Nat} {F : Forest} (h : Few k F) (tb : Nat) (it : Item) : Few (k + 1) (putF F tb it) := h.set (by omega) (by have := putL_len it (lookF F tb); have := h.look tb; omega)
theorem Few.drop {k : Nat} {F : Forest} (h : Few k F) (tb : Nat) (key : ByteArray) : Few k (dropF F tb key) := h.set (Nat.le_refl _) (by have := dropL_len (lookF F tb) key; have := h.look tb; omega)
variable {N : List NV} {F : Forest} {next : Int}
theorem Fits.set (h : Fits N F next) {tb : Nat} {L : List Item} (h1 : ∀ it ∈ L, 0 ≤ it.node ∧ it.node ≤ 999) (h2 : ∀ it ∈ L, it.key.toList.isEmpty = false) (h3 : L.length ≤ 900) : Fits N (setF F tb L) next := by
  refine ⟨fun v hv hk => ?_, h.few, h.id, h.up, fun x hx it hit => ?_, fun x hx it hit => ?_, h.next, fun x hx => ?_⟩
  · rw [setF_keys]; exact h.tree v hv hk
  · rcases mem_setF hx with e | e
    · exact h1 it (by rw [← e]; exact hit)
    · exact h.ents x e it hit
  · rcases mem_setF hx with e | e
    · exact h2 it (by rw [← e]; exact hit)
    · exact h.full x e it hit
  · rcases mem_setF hx with e | e
    · rw [e]; exact h3
    · exact h.many x e
theorem Fits.put (h : Fits N F next) {tb : Nat} (ht : tb ∈ F.map (·.1)) {it : Item} (h1 : 0 ≤ it.node ∧ it.node ≤ 999) (h2 : it.key.toList.isEmpty = false) {k : Nat} (hk : Few k F) (hk9 : k < 900) : Fits N (putF F tb it) next := by
  refine h.set (fun x hx => ?_) (fun x hx => ?_) ?_
  · rcases mem_putL hx with rfl | hx
    · exact h1
    · exact h.ents _ (lookF_in ht) x hx
  · rcases mem_putL hx with rfl | hx
    · exact h2
    · exact h.full _ (lookF_in ht) x hx
  · have := putL_len it (lookF F tb); have := hk.look tb; omega
theorem Fits.drop (h : Fits N F next) {tb : Nat} (ht : tb ∈ F.map (·.1)) (key : ByteArray) : Fits N (dropF F tb key) next :=
  h.set (fun x hx => h.ents _ (lookF_in ht) x (mem_dropL hx)) (fun x hx => h.full _ (lookF_in ht) x (mem_dropL hx)) (Nat.le_trans (dropL_len _ _) (h.many _ (lookF_in ht)))
theorem mem_putN {v x : NV} (h : x ∈ putN N v) : x = v ∨ x ∈ N := by
  unfold putN at h
  split at h
  · obtain ⟨y, hy, he⟩ := List.mem_map.1 h
    split at he
    · exact .inl he.symm
    · exact .inr (by rw [← he]; exact hy)
  · rcases List.mem_append.1 h with h | h
    · exact .inr h
    · exact .inl (List.mem_singleton.1 h)
theorem Fits.nput (h : Fits N F next) {v : NV} (h1 : v.kind = 1 → ∃ tb, v.tb = some tb ∧ tb ∈ F.map (·.1)) (h2 : 0 ≤ v.id ∧ v.id ≤ 999) (h3 : 0 ≤ v.up ∧ v.up ≤ 999) (h4 : (findN N v.id).isSome = true ∨ N.length < 16) : Fits (putN N v) F next := by
  refine ⟨fun x hx hk => ?_, ?_, fun x hx => ?_, fun x hx => ?_, h.ents, h.full, h.next, h.many⟩
  · rcases mem_putN hx with rfl | hx
    · exact h1 hk
    · exact h.tree x hx hk
  · rw [putN_length]
    have := h.few
    split
    · exact this
    · rename_i hh
      rcases h4 with h4 | h4
      · exact absurd h4 hh
      · omega
  · rcases mem_putN hx with rfl | hx
    · exact h2
    · exact h.id x hx
  · rcases mem_putN hx with rfl | hx
    · exact h3
    · exact h.up x hx
theorem Fits.ndel (h : Fits N F next) (i : Int) : Fits (delN N i) F next := by
  have hm : ∀ {x}, x ∈ delN N i → x ∈ N := fun hx => (List.mem_filter.1 hx).1
  exact ⟨fun x hx hk => h.tree x (hm hx) hk, Nat.le_trans (List.length_filter_le _ _) h.few, fun x hx => h.id x (hm hx), fun x hx => h.up x (hm hx), h.ents, h.full, h.next, h.many⟩
theorem Fits.newTree (h : Fits N F next) (tb : Nat) : Fits N ((tb, []) :: F) next := by
  refine ⟨fun x hx hk => ?_, h.few, h.id, h.up, fun x hx it hit => ?_, fun x hx it hit => ?_, h.next, fun x hx => ?_⟩
  · obtain ⟨t, h1, h2⟩ := h.tree x hx hk
    exact ⟨t, h1, by rw [List.map_cons]; exact List.mem_cons_of_mem _ h2⟩
  · rcases List.mem_cons.1 hx with rfl | hx
    · cases hit
    · exact h.ents x hx it hit
  · rcases List.mem_cons.1 hx with rfl | hx
    · cases hit
    · exact h.full x hx it hit
  · rcases List.mem_cons.1 hx with rfl | hx
    · exact Nat.zero_le _
    · exact h.many x hx
theorem Few.newTree {k : Nat} (h : Few k F) (tb : Nat) : Few k ((tb, []) :: F) := fun x hx => by
  rcases List.mem_cons.1 hx with rfl | hx
  · exact Nat.zero_le _
  · exact h x hx
theorem Fits.next1 (h : Fits N F next) (hn : next ≤ 999) : Fits N F (next + 1) := ⟨h.tree, h.few, h.id, h.up, h.ents, h.full, ⟨by have := h.next.1; omega, by omega⟩, h.many⟩
theorem atN_in {i : Int} (hk : (findN N i).isSome = true) : atN N i ∈ N ∧ (atN N i).id = i := by
  unfold atN
  cases hf : findN N i with
  | none => rw [hf] at hk; cases hk
  | some v => exact findN_some hf
theorem Fits.unlink (h : Fits N F next) (i : Int) (hl : ∀ v ∈ N, 0 ≤ v.links) : Fits (unlinkN N i) F next := by
  unfold unlinkN
  split
  · exact h.ndel i
  · rename_i hlt
    cases hf : findN N i with
    | none =>
      exfalso
      apply hlt
      unfold atN
      rw [hf]
      simp [NV.zero]
    | some v =>
      obtain ⟨h1, h2⟩ := atN_in (N := N) (i := i) (by rw [hf]; rfl)
      exact h.nput (fun hk => h.tree (atN N i) h1 hk) (h.id (atN N i) h1) (h.up (atN N i) h1) (.inl (by simp only; rw [h2, hf]; rfl))
theorem Fits.move (h : Fits N F next) (i up : Int) (hu : 0 ≤ up ∧ up ≤ 999) : Fits (moveN N i up) F next := by
  unfold moveN
  split
  · rename_i hk
    obtain ⟨h1, h2⟩ := atN_mem (N := N) (i := i) rfl (by rw [hk]; decide)
    exact h.nput (fun hk => h.tree (atN N i) h1 hk) (h.id (atN N i) h1) hu (.inl (by simp only; rw [h2]; cases hf : findN N i with | none => (unfold atN at hk; rw [hf] at hk; simp [NV.zero] at hk) | some v => rfl))
  · exact h
end Go.Proofs.YtjpmomklkkifjaaGreatDoor.T
