/-
  The contracts of FS.free and FS.taken, over the seat's program. Paths that are written otherwise, and paths of one name: what their parts are. Plain facts; no Go text.
-/
import Derived.Test.YtjpmomklkkifjaaGreatDoorCFPlace2
import Derived.Test.YtjpmomklkkifjaaGreatDoorCFAlike
namespace Go.Proofs.YtjpmomklkkifjaaGreatDoor.T
open Go.RowKit
set_option maxRecDepth 100000
set_option linter.unusedVariables false
set_option linter.unusedSimpArgs false

theorem stepP_at {N : List NV} {F : Forest} {v u : NV} {p : ByteArray} (hv : ∃ i, v = atN N i) (he : stepP N F v p = .ok u) : ∃ i, u = atN N i := by
  unfold stepP at he
  split at he
  · cases he
  split at he
  · cases he; exact hv
  split at he
  · cases he; exact ⟨_, rfl⟩
  split at he
  · cases he
  · cases he; exact ⟨_, rfl⟩
theorem walkP_at {N : List NV} {F : Forest} : ∀ (l : List ByteArray) {v u : NV}, (∃ i, v = atN N i) → walkP N F v l = .ok u → ∃ i, u = atN N i
  | [], v, u, hv, he => by cases he; exact hv
  | p :: l, v, u, hv, he => by
    unfold walkP at he
    split at he
    · rename_i x hx
      exact walkP_at l (stepP_at hv hx) he
    · cases he
theorem findP_at {N : List NV} {F : Forest} {s : ByteArray} {u : NV} (he : findP N F s = .ok u) : ∃ i, u = atN N i := by
  unfold findP at he
  split at he
  · cases he
  · exact walkP_at _ ⟨1, rfl⟩ he
theorem atN_mem {N : List NV} {i : Int} {u : NV} (h : u = atN N i) (hk : u.kind ≠ 0) : u ∈ N ∧ u.id = i := by
  unfold atN at h
  cases hf : findN N i with
  | none => rw [hf] at h; subst h; exact absurd rfl hk
  | some v =>
    rw [hf] at h
    have h' : u = v := h
    rw [h']
    exact findN_some hf

/-- What a place is like. -/
structure PlaceOk (N : List NV) (F : Forest) (p : PL) : Prop where
  inN : p.v ∈ N
  kind : p.v.kind = 1
  tree : ∃ tb, p.v.tb = some tb ∧ tb ∈ F.map (·.1)
  name : checkP p.name = none
  key : p.key = keyS p.name
theorem placeP_ok {N : List NV} {F : Forest} {next : Int} (hF : Fits N F next) {s : ByteArray} {p : PL} (h : placeP N F s = .ok p) : PlaceOk N F p := by
  unfold placeP at h
  split at h
  · cases h
  · cases h
  · rename_i a l hp
    split at h
    · cases h
    rename_i hd
    split at h
    · cases h
    rename_i u hu
    split at h
    · cases h
    rename_i hk
    have hk1 : u.kind = 1 := by simpa using hk
    cases h
    obtain ⟨i, hi⟩ := walkP_at _ ⟨1, rfl⟩ hu
    obtain ⟨hm, _⟩ := atN_mem hi (by rw [hk1]; decide)
    have hl := (parts_ok hp).1 ((a :: l).getLast (by simp)) (List.getLast_mem _)
    refine ⟨hm, hk1, hF.tree u hm hk1, ?_, rfl⟩
    rcases hl with h1 | h1
    · exact absurd h1 hd
    · exact h1
theorem key_full {s : ByteArray} (h : checkP s = none) : (keyS s).toList.isEmpty = false := by
  have hs : (keyS s).data.toList ≠ [] := by
    unfold keyS keyOf keyB toB keyZ
    simp
  rw [Lib.toList_data]
  cases hd : (keyS s).data.toList with
  | nil => exact absurd hd hs
  | cons a l => rfl

/-- A free place. -/
noncomputable def freeP (N : List NV) (F : Forest) (s : ByteArray) : Except Int PL :=
  match placeP N F s with | .error k => .error k | .ok p => if (getL (entsOf F p.v) p.key).isSome then .error 6 else .ok p
/-- A place that is taken. -/
noncomputable def takenP (N : List NV) (F : Forest) (s : ByteArray) : Except Int (PL × Item) :=
  match placeP N F s with | .error k => .error k | .ok p => match getL (entsOf F p.v) p.key with | none => .error 5 | some it => .ok (p, it)
theorem freeP_ok {N : List NV} {F : Forest} {next : Int} (hF : Fits N F next) {s : ByteArray} {p : PL} (h : freeP N F s = .ok p) : PlaceOk N F p ∧ getL (entsOf F p.v) p.key = none := by
  unfold freeP at h
  split at h
  · cases h
  rename_i q hq
  split at h
  · cases h
  rename_i hn
  cases h
  exact ⟨placeP_ok hF hq, by cases hg : getL (entsOf F p.v) p.key with | none => rfl | some x => rw [hg] at hn; simp at hn⟩
theorem takenP_ok {N : List NV} {F : Forest} {next : Int} (hF : Fits N F next) {s : ByteArray} {p : PL} {it : Item} (h : takenP N F s = .ok (p, it)) : PlaceOk N F p ∧ getL (entsOf F p.v) p.key = some it := by
  unfold takenP at h
  split at h
  · cases h
  rename_i q hq
  split at h
  · cases h
  rename_i x hx
  cases h
  exact ⟨placeP_ok hF hq, hx⟩

variable (w0 w : World) (fb mb : Nat) (N : List NV) (F : Forest) (next : Int) (l2 : List Res)

set_option maxHeartbeats 4000000 in
theorem free_calls (hR : Ready w0) (h : FSIn w0 w fb mb N F next l2) (hF : Fits N F next) (s : ByteArray) (hs : s.size ≤ 4000000000) :
    Calls Tryz.prog 104 #[.pointer (some ⟨fb, 0, none⟩), .string s] w fun e w' => PlaceEnd w0 fb mb N F next l2 (freeP N F s) e w' := by
  obtain ⟨B, hB⟩ : ∃ B, w.heap.size = B := ⟨_, rfl⟩
  have h1 := h.made 96 [.int .i64 0, .int .i64 0, .int .i64 0, .int .i64 0, .string ⟨#[]⟩, .pointer none, .string ⟨#[]⟩, .string ⟨#[]⟩]
  rw [hB] at h1
  have hC := place_calls w0 _ fb mb N F next _ hR h1 hF s hs
  have Hfp : Hid (freeP N F s = match placeP N F s with | .error k => .error k | .ok p => if (getL (entsOf F p.v) p.key).isSome then .error 6 else .ok p) := rfl
  have Hpo : Hid (∀ p, placeP N F s = .ok p → PlaceOk N F p) := fun p hp => placeP_ok hF hp
  generalize placeP N F s = r at hC Hfp Hpo
  clear h1 h hF hR
  cases r with
  | error k =>
    simp only [PlaceEnd, placeRet_error] at hC
    have HC := hide hC
    clear hC Hpo
    go_enter Tryz.func104, Tryz.ntmps104
    go_wp2_with fail
    refine (unhide HC).mono ?_
    rintro e w2 ⟨rfl, h2⟩
    obtain ⟨y0, y1, y2, y3, y4, y5, y6, y7, r0, r1, r2, r3, r4, r5, r6, r7⟩ := h2.eight (b := B) (.head _)
    have hlt : B < w2.heap.size := World.block_lt_of_cell? _ _ y0
    have H2 := hide h2
    clear h2 HC hB
    go_wp2
    have h5 := ((unhide H2).puteight [] (.int .i64 0) (.int .i64 0) (.int .i64 0) (.int .i64 0) (.string ⟨#[]⟩) (.pointer none) (.string ⟨#[]⟩) (.string ⟨#[]⟩)).made 96 [.int .i64 0, .int .i64 0, .int .i64 0, .int .i64 0, .string ⟨#[]⟩, .pointer none, .string ⟨#[]⟩, .string ⟨#[]⟩]
    refine bodyPost_ret (results_place (p := 4) (u := 5) rfl _ _ B _ _ _ _ _ _ _ _ rfl rfl (h5.heapAt (t := 96) (.tail _ (.head _)))) rfl ?_
    exact ⟨by rw [unhide Hfp]; rfl, (h5.forget []).forget []⟩
  | ok p =>
    simp only [PlaceEnd, placeRet_ok] at hC
    have HC := hide hC
    have hpo := unhide Hpo p rfl
    clear hC Hpo
    obtain ⟨tb, htb, ht⟩ := hpo.tree
    have hG := fun wx l (hx : FSIn w0 wx fb mb N F next l) => pget_calls w0 wx fb mb N F next l hx p tb htb ht
    have hee : entsOf F p.v = lookF F tb := by unfold entsOf; rw [htb]
    simp only [getV_eq, PL.val] at hG
    have Hfp2 : Hid (freeP N F s = if (getL (lookF F tb) p.key).isSome then .error 6 else .ok p) := (unhide Hfp).trans (by show (if (getL (entsOf F p.v) p.key).isSome then _ else _) = _; rw [hee])
    generalize getL (lookF F tb) p.key = g at hG Hfp2
    obtain ⟨nm, hnm⟩ : ∃ nm, getN g = nm := ⟨_, rfl⟩
    obtain ⟨nd, hni⟩ : ∃ nd, getI g = nd := ⟨_, rfl⟩
    rw [hnm, hni] at hG
    have HG := hide hG
    clear hG hee ht htb hpo Hfp hnm hni
    go_enter Tryz.func104, Tryz.ntmps104
    go_wp2_with fail
    refine (unhide HC).mono ?_
    rintro e w2 ⟨rfl, h2⟩
    have H3 := hide (h2.made 96 [.int .i64 p.v.id, .int .i64 p.v.kind, .int .i64 p.v.up, .int .i64 p.v.links, .string p.v.text, .pointer p.v.ptr, .string p.key, .string p.name])
    obtain ⟨G, hG⟩ : ∃ G, w2.heap.size = G := ⟨_, rfl⟩
    rw [hG] at H3
    clear h2 HC
    go_wp2_with fail
    refine (unhide HG _ _ (unhide H3)).mono ?_
    rintro e w4 ⟨rfl, h4⟩
    clear H3 HG hG hB
    obtain ⟨y0, y1, y2, y3, y4, y5, y6, y7, r0, r1, r2, r3, r4, r5, r6, r7⟩ := h4.eight (b := B) (.tail _ (.head _))
    obtain ⟨x0, x1, x2, x3, x4, x5, x6, x7, _⟩ := h4.eight (b := G) (.head _)
    have hlt : B < w4.heap.size := World.block_lt_of_cell? _ _ y0
    have hlt2 : G < w4.heap.size := World.block_lt_of_cell? _ _ x0
    have H4 := hide h4
    clear h4
    cases g with
    | none =>
      simp only [Option.isSome_none]
      have hfp3 : freeP N F s = .ok p := (unhide Hfp2).trans (by simp)
      clear Hfp2
      go_wp2
      have h5 := ((unhide H4).puteight [_] (.int .i64 p.v.id) (.int .i64 p.v.kind) (.int .i64 p.v.up) (.int .i64 p.v.links) (.string p.v.text) (.pointer p.v.ptr) (.string p.key) (.string p.name)).made 38 [.string nm, .int .i64 nd]
      refine bodyPost_ret (results_place (p := 4) (u := 5) rfl _ _ B _ _ _ _ _ _ _ _ rfl rfl (h5.heapAt (t := 96) (.tail _ (.tail _ (.head _))))) rfl ?_
      exact ⟨by rw [hfp3]; rfl, ((h5.forget []).forget []).forget []⟩
    | some it =>
      simp only [Option.isSome_some]
      have hfp3 : freeP N F s = .error 6 := (unhide Hfp2).trans (by simp)
      clear Hfp2
      go_wp2
      have h5 := ((unhide H4).puteight [_] (.int .i64 0) (.int .i64 0) (.int .i64 0) (.int .i64 0) (.string ⟨#[]⟩) (.pointer none) (.string ⟨#[]⟩) (.string ⟨#[]⟩)).made 38 [.string nm, .int .i64 nd]
      refine bodyPost_ret (results_place (p := 4) (u := 5) rfl _ _ B _ _ _ _ _ _ _ _ rfl rfl (h5.heapAt (t := 96) (.tail _ (.tail _ (.head _))))) rfl ?_
      exact ⟨by rw [hfp3]; rfl, ((h5.forget []).forget []).forget []⟩

theorem results_taken {fn : Func} {p q u : Tmp} (h : fn.results = #[.cell p 96, .cell q 38, .tmp u]) (tmps : Array Value) (w : World) (g g2 : Nat) (a b c d e f x y m n : Value) {v : Value}
    (hp : tmps.getD p undef = .pointer (some ⟨g, 0, none⟩)) (hq : tmps.getD q undef = .pointer (some ⟨g2, 0, none⟩)) (hu2 : tmps.getD u undef = v) (hg : w.heap[g]? = some (.cells #[a, b, c, d, e, f, x, y] 96 (0, 0))) (hg2 : w.heap[g2]? = some (.cells #[m, n] 38 (0, 0))) :
    (results fn tmps).run Tryz.prog w = .ok (.tuple #[.agg #[a, b, c, d, e, f, x, y], .agg #[m, n], v]) w := by
  have hr := run_loadVar_row (P := Tryz.prog) w g 96 96 #[a, b, c, d, e, f, x, y] (0, 0) _ hg Tryz.underlying96 rfl (by kernel_rfl)
  have hr2 := run_loadVar_row (P := Tryz.prog) w g2 38 38 #[m, n] (0, 0) _ hg2 Tryz.underlying38 rfl (by kernel_rfl)
  rw [Array.getD_eq_getD_getElem?] at hp hq hu2
  simp only [results, h]
  simp [Sem.run_bind, Result.andThen, hp, hq, hu2, asAddr, hr, hr2]

/-- What taken answers. -/
def takenRet : Except Int (PL × Item) → Value
  | .ok (p, it) => .tuple #[p.val, .agg #[.string it.name, .int .i64 it.node], .nilIface]
  | .error k => .tuple #[PL.zero.val, .agg #[.string ⟨#[]⟩, .int .i64 0], .iface 86 (.int .i64 k)]
def TakenEnd (r : Except Int (PL × Item)) (e : Ending) (w' : World) : Prop := e = .returned (takenRet r) ∧ FSIn w0 w' fb mb N F next l2

set_option maxHeartbeats 4000000 in
theorem taken_calls (hR : Ready w0) (h : FSIn w0 w fb mb N F next l2) (hF : Fits N F next) (s : ByteArray) (hs : s.size ≤ 4000000000) :
    Calls Tryz.prog 59 #[.pointer (some ⟨fb, 0, none⟩), .string s] w fun e w' => TakenEnd w0 fb mb N F next l2 (takenP N F s) e w' := by
  obtain ⟨B, hB⟩ : ∃ B, w.heap.size = B := ⟨_, rfl⟩
  have h1 := (h.made 96 [.int .i64 0, .int .i64 0, .int .i64 0, .int .i64 0, .string ⟨#[]⟩, .pointer none, .string ⟨#[]⟩, .string ⟨#[]⟩]).made 38 [.string ⟨#[]⟩, .int .i64 0]
  have hz : (w.alloc (.cells [.int .i64 0, .int .i64 0, .int .i64 0, .int .i64 0, .string ⟨#[]⟩, .pointer none, .string ⟨#[]⟩, .string ⟨#[]⟩].toArray 96)).heap.size = B + 1 := by simp [hB]
  rw [hz, hB] at h1
  have hC := place_calls w0 _ fb mb N F next _ hR h1 hF s hs
  have Hfp : Hid (takenP N F s = match placeP N F s with | .error k => .error k | .ok p => match getL (entsOf F p.v) p.key with | none => .error 5 | some it => .ok (p, it)) := rfl
  have Hpo : Hid (∀ p, placeP N F s = .ok p → PlaceOk N F p) := fun p hp => placeP_ok hF hp
  generalize placeP N F s = r at hC Hfp Hpo
  clear h1 h hF hR hz
  cases r with
  | error k =>
    simp only [PlaceEnd, placeRet_error] at hC
    have HC := hide hC
    clear hC Hpo
    go_enter Tryz.func59, Tryz.ntmps59
    go_wp2_with fail
    refine (unhide HC).mono ?_
    rintro e w2 ⟨rfl, h2⟩
    obtain ⟨y0, y1, y2, y3, y4, y5, y6, y7, r0, r1, r2, r3, r4, r5, r6, r7⟩ := h2.eight (b := B) (.tail _ (.head _))
    obtain ⟨e0, e1, g0, g1⟩ := h2.two (b := B + 1) (.head _)
    have hlt : B + 1 < w2.heap.size := World.block_lt_of_cell? _ _ e0
    have hlt2 : B < w2.heap.size := by omega
    have H2 := hide h2
    clear h2 HC hB
    go_wp2
    have h5 := ((((unhide H2).puteight [_] (.int .i64 0) (.int .i64 0) (.int .i64 0) (.int .i64 0) (.string ⟨#[]⟩) (.pointer none) (.string ⟨#[]⟩) (.string ⟨#[]⟩)).puttwo [] (.string ⟨#[]⟩) (.int .i64 0)).made 96 [.int .i64 0, .int .i64 0, .int .i64 0, .int .i64 0, .string ⟨#[]⟩, .pointer none, .string ⟨#[]⟩, .string ⟨#[]⟩])
    refine bodyPost_ret (results_taken (p := 4) (q := 5) (u := 6) rfl _ _ B (B + 1) _ _ _ _ _ _ _ _ _ _ rfl rfl rfl (h5.heapAt (t := 96) (.tail _ (.tail _ (.head _)))) (h5.heapAt (t := 38) (.tail _ (.head _)))) rfl ?_
    exact ⟨by rw [unhide Hfp]; rfl, ((h5.forget []).forget []).forget []⟩
  | ok p =>
    simp only [PlaceEnd, placeRet_ok] at hC
    have HC := hide hC
    have hpo := unhide Hpo p rfl
    clear hC Hpo
    obtain ⟨tb, htb, ht⟩ := hpo.tree
    have hG := fun wx l (hx : FSIn w0 wx fb mb N F next l) => pget_calls w0 wx fb mb N F next l hx p tb htb ht
    have hee : entsOf F p.v = lookF F tb := by unfold entsOf; rw [htb]
    simp only [getV_eq, PL.val] at hG
    have Hfp2 : Hid (takenP N F s = match getL (lookF F tb) p.key with | none => .error 5 | some it => .ok (p, it)) := (unhide Hfp).trans (by rw [← hee])
    generalize getL (lookF F tb) p.key = g at hG Hfp2
    obtain ⟨nm, hnm⟩ : ∃ nm, getN g = nm := ⟨_, rfl⟩
    obtain ⟨nd, hni⟩ : ∃ nd, getI g = nd := ⟨_, rfl⟩
    rw [hnm, hni] at hG
    have HG := hide hG
    have Hnm := hide hnm
    have Hni := hide hni
    clear hG hee ht htb hpo Hfp hnm hni
    go_enter Tryz.func59, Tryz.ntmps59
    go_wp2_with fail
    refine (unhide HC).mono ?_
    rintro e w2 ⟨rfl, h2⟩
    have H3 := hide (h2.made 96 [.int .i64 p.v.id, .int .i64 p.v.kind, .int .i64 p.v.up, .int .i64 p.v.links, .string p.v.text, .pointer p.v.ptr, .string p.key, .string p.name])
    obtain ⟨G, hG⟩ : ∃ G, w2.heap.size = G := ⟨_, rfl⟩
    rw [hG] at H3
    clear h2 HC
    go_wp2_with fail
    refine (unhide HG _ _ (unhide H3)).mono ?_
    rintro e w4 ⟨rfl, h4⟩
    clear H3 HG hG hB
    obtain ⟨y0, y1, y2, y3, y4, y5, y6, y7, r0, r1, r2, r3, r4, r5, r6, r7⟩ := h4.eight (b := B) (.tail _ (.tail _ (.head _)))
    obtain ⟨e0, e1, g0, g1⟩ := h4.two (b := B + 1) (.tail _ (.head _))
    obtain ⟨x0, x1, x2, x3, x4, x5, x6, x7, _⟩ := h4.eight (b := G) (.head _)
    have hlt : B + 1 < w4.heap.size := World.block_lt_of_cell? _ _ e0
    have hlt1 : B < w4.heap.size := by omega
    have hlt2 : G < w4.heap.size := World.block_lt_of_cell? _ _ x0
    have H4 := hide h4
    cases g with
    | none =>
      simp only [Option.isSome_none]
      have hfp3 : takenP N F s = .error 5 := unhide Hfp2
      clear Hfp2 h4
      go_wp2
      have h5 := (((unhide H4).puteight [_, _] (.int .i64 0) (.int .i64 0) (.int .i64 0) (.int .i64 0) (.string ⟨#[]⟩) (.pointer none) (.string ⟨#[]⟩) (.string ⟨#[]⟩)).puttwo [_] (.string ⟨#[]⟩) (.int .i64 0)).made 38 [.string nm, .int .i64 nd]
      refine bodyPost_ret (results_taken (p := 4) (q := 5) (u := 6) rfl _ _ B (B + 1) _ _ _ _ _ _ _ _ _ _ rfl rfl rfl (h5.heapAt (t := 96) (.tail _ (.tail _ (.tail _ (.head _))))) (h5.heapAt (t := 38) (.tail _ (.tail _ (.head _))))) rfl ?_
      exact ⟨by rw [hfp3]; rfl, (((h5.forget []).forget []).forget []).forget []⟩
    | some it =>
      simp only [Option.isSome_some]
      have hfp3 : takenP N F s = .ok (p, it) := unhide Hfp2
      have hn1 : it.name = nm := unhide Hnm
      have hn2 : it.node = nd := unhide Hni
      rw [← hn1, ← hn2]
      clear Hfp2 h4 Hnm Hni hn1 hn2
      go_wp2_with fail
      go_region
      all_goals go_wp2_with fail
      have h5 := ((((unhide H4).puteight [_, _] (.int .i64 p.v.id) (.int .i64 p.v.kind) (.int .i64 p.v.up) (.int .i64 p.v.links) (.string p.v.text) (.pointer p.v.ptr) (.string p.key) (.string p.name)).puttwo [_] (.string it.name) (.int .i64 it.node)).made 38 [.string it.name, .int .i64 it.node]).drew
      refine bodyPost_ret (results_taken (p := 4) (q := 5) (u := 6) rfl _ _ B (B + 1) _ _ _ _ _ _ _ _ _ _ rfl rfl rfl (h5.heapAt (t := 96) (.tail _ (.tail _ (.tail _ (.head _))))) (h5.heapAt (t := 38) (.tail _ (.tail _ (.head _))))) rfl ?_
      exact ⟨by rw [hfp3]; rfl, (((h5.forget []).forget []).forget []).forget []⟩
end Go.Proofs.YtjpmomklkkifjaaGreatDoor.T
namespace Go.Proofs.YtjpmomklkkifjaaGreatDoor.T
open Go.RowKit
set_option maxRecDepth 100000
set_option linter.unusedVariables false
set_option linter.unusedSimpArgs false

theorem splitS_data (s : ByteArray) : (splitS s).map (·.data.toList) = cutS s.data.toList := by
  unfold splitS
  rw [Lib.splitB_data, show Lib.countB s ⟨#[47]⟩ = Lib.count s.data.toList [47] from rfl, Lib.count_one]
  exact splitK_cut _
theorem data_inj {a b : List ByteArray} (h : a.map (·.data.toList) = b.map (·.data.toList)) : a = b := by
  induction a generalizing b with
  | nil => cases b with
    | nil => rfl
    | cons y b => simp at h
  | cons x a ih => cases b with
    | nil => simp at h
    | cons y b =>
      simp only [List.map_cons, List.cons.injEq] at h
      rw [toList_inj h.1, ih h.2]
theorem prefix47 {l : List UInt8} (h : Lib.hasPrefix l [47] = true) : ∃ t, l = 47 :: t := by
  cases l with
  | nil => exact absurd h (by decide)
  | cons c t =>
    refine ⟨t, ?_⟩
    unfold Lib.hasPrefix at h
    have : c = 47 := (by simpa using h : 47 = c).symm
    rw [this]
/-- What a path that may be is like: its signs, and its parts. -/
theorem partsP_ok {s : ByteArray} {l : List ByteArray} (h : partsP s = .ok l) :
    (s.data.toList = [47] ∧ l = []) ∨ (∃ t, s.data.toList = 47 :: t ∧ t ≠ [] ∧ l.map (·.data.toList) = cutS t) := by
  unfold partsP at h
  split at h
  · cases h
  split at h
  · cases h
  rename_i h1 h2
  split at h
  · rename_i h3
    cases h
    refine .inl ⟨?_, rfl⟩
    rw [Lib.toList_data] at h3
    simpa using h3
  rename_i h3
  split at h
  · cases h
  split at h
  · cases h
  cases h
  have hp : Lib.hasPrefix s.data.toList [47] = true := by
    cases hx : Lib.hasPrefix s.data.toList [47] with
    | true => rfl
    | false => exact absurd hx h2
  obtain ⟨t, ht⟩ := prefix47 hp
  refine .inr ⟨t, ht, ?_, ?_⟩
  · rintro rfl
    apply h3
    rw [Lib.toList_data, ht]
    rfl
  · rw [splitS_data, Lib.extract_to_end, ht]
    rfl
theorem parts_data {l : List ByteArray} (h : ∀ p ∈ l, PartOk p) : l.map (·.data.toList) = (l.map sg).map encL := by
  rw [List.map_map]
  refine List.map_congr_left fun p hp => ?_
  have := (sg_facts (h p hp)).1
  show p.data.toList = encL (sg p)
  conv => lhs; rw [this]
  simp [encS]
theorem otherR_ne {rs : List Int} (h : rs ≠ []) : otherR rs ≠ [] := by
  intro e
  have h1 : (splitL rs).length = 0 := by unfold otherR at e; have := congrArg List.length e; simpa using this
  rw [splitL_length] at h1
  cases rs with
  | nil => exact h rfl
  | cons r rs =>
    have e2 : partsL (r :: rs) = splitZ r ++ partsL rs := rfl
    have := (splitZ_len r).1
    rw [e2, List.length_append] at h1
    omega
theorem encL_ne {rs : List Int} (hs : ∀ r ∈ rs, SmallR r) (h : rs ≠ []) : encL rs ≠ [] := by
  intro e
  have h1 := (encL_len rs hs).1
  rw [e] at h1
  have h2 := List.length_pos_iff.2 h
  have h3 : rs.length ≤ 0 := h1
  omega
theorem joinP_ne {l : List (List UInt8)} (h : l ≠ []) (h2 : ∀ a ∈ l, a ≠ []) : joinP 47 l ≠ [] := by
  match l, h with
  | [a], _ => exact h2 a (by simp)
  | a :: b :: t, _ => simp [joinP]
theorem data_enc (rs : List Int) : (encS rs).data.toList = encL rs := by simp [encS]
theorem path_other {s : ByteArray} {l : List ByteArray} (h : partsP s = .ok l) :
    ∃ rs, s = encS rs ∧ (∀ r ∈ rs, SmallR r) ∧ ∀ l2, partsP (encS (otherR rs)) = .ok l2 → l2 = l.map otherPart := by
  have hpo := (parts_ok h).1
  rcases partsP_ok h with ⟨h1, rfl⟩ | ⟨t, h1, ht, hc⟩
  · have he : s = encS [47] := toList_inj (by rw [h1, data_enc]; decide +kernel)
    refine ⟨[47], he, by simp [SmallR], fun l2 h2 => ?_⟩
    rw [show otherR [47] = [47] by decide +kernel, ← he, h] at h2
    cases h2; rfl
  · have hd := parts_data hpo
    have hne : l ≠ [] := by
      rintro rfl
      exact cutS_ne t hc.symm
    have htj : t = encL (joinP 47 (l.map sg)) := by rw [encL_join, ← hd, hc, join_cut]
    have hcut := cut_no47 t
    have he : s = encS (47 :: joinP 47 (l.map sg)) := toList_inj (by rw [h1, data_enc, encL_cons, enc47, htj]; rfl)
    have hso : otherR (47 :: joinP 47 (l.map sg)) = 47 :: joinP 47 ((l.map sg).map otherR) := by
      have := otherR_cut [] (joinP 47 (l.map sg))
      rw [List.nil_append, otherR_join] at this
      rw [this, show otherR [] = [] by decide]
      rfl
    refine ⟨_, he, ?_, fun l2 h2 => ?_⟩
    · intro r hr
      rcases List.mem_cons.1 hr with rfl | hr
      · exact ⟨by omega, by omega⟩
      · have key : ∀ (m : List (List Int)), (∀ a ∈ m, ∀ r ∈ a, SmallR r) → ∀ r ∈ joinP 47 m, SmallR r := by
          intro m
          induction m with
          | nil => intro _ r hr; simp [joinP] at hr
          | cons a m ih =>
            intro hm r hr
            cases m with
            | nil => exact hm a (by simp) r hr
            | cons b m =>
              rcases List.mem_append.1 hr with h | h
              · exact hm a (by simp) r h
              · rcases List.mem_cons.1 h with rfl | h
                · exact ⟨by omega, by omega⟩
                · exact ih (fun a ha => hm a (by simp [ha])) r h
        refine key _ (fun a ha => ?_) r hr
        obtain ⟨p, hp, rfl⟩ := List.mem_map.1 ha
        exact (sg_facts (hpo p hp)).2.1
    · have hod : (encS (otherR (47 :: joinP 47 (l.map sg)))).data.toList = 47 :: joinP 47 (((l.map sg).map otherR).map encL) := by
        rw [data_enc, hso, encL_cons, enc47, encL_join]
        rfl
      have hmm : ((l.map sg).map otherR).map encL = (l.map otherPart).map (·.data.toList) := by
        rw [List.map_map, List.map_map, List.map_map]
        refine List.map_congr_left fun p hp => ?_
        show encL (otherR (sg p)) = (otherPart p).data.toList
        unfold otherPart
        rw [data_enc]
      have hx : ∀ a ∈ ((l.map sg).map otherR).map encL, a ≠ [] ∧ (47 : UInt8) ∉ a := by
        intro a ha
        obtain ⟨b, hb, rfl⟩ := List.mem_map.1 ha
        obtain ⟨c, hc, rfl⟩ := List.mem_map.1 hb
        obtain ⟨p, hp, rfl⟩ := List.mem_map.1 hc
        obtain ⟨_, f2, f3, f4, f5⟩ := sg_facts (hpo p hp)
        exact ⟨encL_ne (otherR_small f2) (otherR_ne f5), f3⟩
      have hne2 : ((l.map sg).map otherR).map encL ≠ [] := by
        intro e
        simp at e
        exact hne e
      rcases partsP_ok h2 with ⟨g1, rfl⟩ | ⟨t2, g1, gt, gc⟩
      · rw [hod] at g1
        simp only [List.cons.injEq, true_and] at g1
        exact absurd g1 (joinP_ne hne2 fun a ha => (hx a ha).1)
      · rw [hod] at g1
        simp only [List.cons.injEq, true_and] at g1
        rw [← g1, cut_join _ hne2 fun a ha => (hx a ha).2, hmm] at gc
        exact data_inj gc
/-- HOWEVER IT IS WRITTEN, a path leads to the same. -/
theorem find_other {N : List NV} {F : Forest} {s : ByteArray} {l : List ByteArray} (h : partsP s = .ok l) : ∃ rs, s = encS rs ∧ (∀ r ∈ rs, SmallR r) ∧ ∀ l2, partsP (encS (otherR rs)) = .ok l2 → findP N F (encS (otherR rs)) = findP N F s := by
  obtain ⟨rs, h1, h2, h3⟩ := path_other h
  refine ⟨rs, h1, h2, fun l2 hl => ?_⟩
  unfold findP
  rw [h, hl, h3 l2 hl]
  exact walk_other l _ (parts_ok h).1

/-- A path of one name. -/
theorem parts_one {s t : ByteArray} (h : checkP s = none) (ht : t.data.toList = 47 :: s.data.toList) : partsP t = .ok [s] := by
  obtain ⟨hn, he, hd⟩ := name_of_check h
  have hsz : t.size = s.size + 1 := by rw [Lib.size_eq, ht, Lib.size_eq]; rfl
  have h24 : ¬ (s.size = 0 ∨ 24 < s.size) := by
    intro hx
    rw [checkP_size hx] at h
    cases h
  have h47 : (47 : UInt8) ∉ s.data.toList := by
    rw [he, data_enc]
    exact encL_no47 (Name.no47 hn)
  have hsp : splitS (t.extract 1 t.size) = [s] := by
    apply data_inj
    rw [splitS_data, Lib.extract_to_end, ht]
    exact cutS_none h47
  have hne : s.data.toList ≠ [] := by
    intro e
    have : s.size = 0 := by rw [Lib.size_eq, e]; rfl
    omega
  unfold partsP
  rw [if_neg (by omega), if_neg (by rw [ht]; simp [Lib.hasPrefix]), if_neg (by rw [Lib.toList_data, ht]; simpa using hne), hsp]
  have : partErr [s] = none := by
    unfold partErr
    rw [hd, h]
    rfl
  rw [if_neg (by simp), this]

theorem only_of (rs : List Int) (hz : ∀ r ∈ rs, isZ r = true) : ∀ (f : Nat) (done rest : List Int), rs = done ++ rest → onlyFrom (encS rs) f (encL done).length = true
  | 0, _, _, _ => rfl
  | f + 1, done, rest, he => by
    cases rest with
    | nil =>
      apply onlyFrom_end
      rw [encS_size, he, List.append_nil]
      omega
    | cons r rest =>
      have hr : r ∈ rs := by rw [he]; simp
      have hd := decode_at done r rest (is_small (hz r hr))
      rw [← he] at hd
      unfold onlyFrom
      split
      · rw [hd]
        have h0 : (((r.toNat : Nat) : Int)) = r := by have := (is_small (hz r hr)).1; omega
        simp only [h0, hz r hr, Bool.true_and]
        have := only_of rs hz f (done ++ [r]) rest (by rw [he]; simp)
        rw [encL_append, encL_one, List.length_append] at this
        exact this
      · rfl
theorem valid_enc : ∀ (rs : List Int), (∀ r ∈ rs, SmallR r) → Lib.validD (encL rs) = true
  | [], _ => rfl
  | r :: rs, h => by
    have hs := h r (by simp)
    have hne : encL (r :: rs) ≠ [] := encL_ne h (by simp)
    rw [Lib.validD_step _ hne, encL_cons, decode_enc hs]
    have hlt := hs.2
    rw [if_neg (by rintro ⟨h1, _⟩; simp only at h1; omega)]
    simp only [List.drop_left]
    exact valid_enc rs fun q hq => h q (by simp [hq])
/-- A name is a name for the check. -/
theorem check_of_name {ts : List Int} (h : Name ts) (hd : dotsB (encS ts) = false) : checkP (encS ts) = none := by
  have hz := encS_size ts
  have hb := h.bytes
  have hp := List.length_pos_iff.2 (encL_ne h.small h.ne)
  unfold checkP
  rw [if_neg (by omega), if_neg (by rw [data_enc, valid_enc ts h.small]; simp), if_neg, signsOf_enc h.small]
  · obtain ⟨r, t, hts⟩ : ∃ r t, ts = r :: t := by
      cases ts with
      | nil => exact absurd rfl h.ne
      | cons r t => exact ⟨r, t, rfl⟩
    have hf := h.first r t hts
    have h0 : ts.headD 0 = r := by rw [hts]; rfl
    rw [h0, if_neg (by simpa using hf), if_neg (by rw [hd]; simp), if_neg (by have := h.few; omega)]
  · have := only_of ts h.signs (encS ts).size [] ts rfl
    rw [encL_nil, List.length_nil] at this
    unfold onlyB
    rw [this]; simp
theorem swap_base {r : Int} : swapZ r = r ∨ (baseZ r = true ∧ baseZ (swapZ r) = true) := by
  unfold swapZ baseZ
  split
  · right; constructor <;> (apply decide_eq_true; omega)
  split
  · right; constructor <;> (apply decide_eq_true; omega)
  · exact .inl rfl
theorem class_swap (r : Int) : classZ (swapZ r) = classZ r := by
  rcases swap_base (r := r) with h | ⟨h1, h2⟩
  · rw [h]
  · have hb : ∀ q, baseZ q = true → classZ q = 0 := fun q hq => by
      unfold baseZ at hq
      have := of_decide_eq_true hq
      unfold classZ
      rw [if_neg (by omega), if_neg (by omega)]
    rw [hb _ h1, hb _ h2]
theorem Name.swapped {rs : List Int} (h : Name rs) : Name (rs.map swapZ) := by
  refine ⟨fun r hr => ?_, fun e => ?_, fun r t e => ?_, ?_, ?_⟩
  · obtain ⟨q, hq, rfl⟩ := List.mem_map.1 hr
    rcases swap_base (r := q) with h1 | ⟨_, h2⟩
    · rw [h1]; exact h.signs q hq
    · unfold isZ; rw [h2]; simp
  · exact h.ne (by simpa using e)
  · cases hrs : rs with
    | nil => exact absurd hrs h.ne
    | cons q u =>
      rw [hrs] at e
      simp only [List.map_cons, List.cons.injEq] at e
      rw [← e.1, class_swap]
      exact h.first q u hrs
  · have key : ∀ l : List Int, (∀ r ∈ l, SmallR r) → (encL (l.map swapZ)).length = (encL l).length := by
      intro l
      induction l with
      | nil => intro _; rfl
      | cons r l ih =>
        intro hl
        rw [List.map_cons, encL_cons, encL_cons, List.length_append, List.length_append, ih fun q hq => hl q (by simp [hq])]
        congr 1
        rcases swap_cases r with h1 | ⟨h1, h2⟩
        · rw [h1]
        · have hs := hl r (by simp)
          have hs2 := swap_small hs
          rcases swap_base (r := r) with h3 | ⟨h3, h4⟩
          · rw [h3]
          · have hlt : ∀ q, baseZ q = true → q < 192 → q < 128 := fun q hq hl => by
              unfold baseZ at hq
              have := of_decide_eq_true hq
              omega
            rw [enc_one hs.1 (hlt _ h3 h1), enc_one hs2.1 (hlt _ h4 h2)]
            rfl
    rw [key rs h.small]
    exact h.bytes
  · have h1 := congrArg List.length (parts_swap rs)
    rw [List.length_map, List.length_map] at h1
    rw [splitL_length, h1, ← splitL_length]
    exact h.few
/-- A name with its letters the other way round is one, and has the same key. -/
theorem check_swapped {s : ByteArray} (h : checkP s = none) : checkP (encS ((signsOf s).map swapZ)) = none ∧ keyS (encS ((signsOf s).map swapZ)) = keyS s := by
  obtain ⟨hn, he, hd⟩ := name_of_check h
  have h2 := Name.swapped hn
  have hdots : dotsB (encS ((signsOf s).map swapZ)) = false := by
    cases hx : dotsB (encS ((signsOf s).map swapZ)) with
    | false => rfl
    | true =>
      exfalso
      have back : ∀ ds : List Int, (∀ d ∈ ds, d = 46) → (signsOf s).map swapZ = ds → signsOf s = ds := by
        intro ds hds hm
        have h46 : ∀ q ∈ signsOf s, swapZ q = q := fun q hq => by
          have h3 : swapZ q = 46 := hds _ (by rw [← hm]; exact List.mem_map.2 ⟨q, hq, rfl⟩)
          unfold swapZ at h3 ⊢
          split
          · rename_i hh; rw [if_pos hh] at h3; omega
          split
          · rename_i hh1 hh; rw [if_neg hh1, if_pos hh] at h3; omega
          · rfl
        rw [← hm]
        conv => lhs; rw [← List.map_id (signsOf s)]
        exact (List.map_congr_left fun q hq => (h46 q hq)).symm
      have e1 : encL [46] = [46] := by decide +kernel
      have e2 : encL [46, 46] = [46, 46] := by decide +kernel
      unfold dotsB at hx hd
      rw [toList_enc] at hx
      rw [he, toList_enc] at hd
      simp only [Bool.or_eq_true, beq_iff_eq] at hx
      rcases hx with hx | hx
      · rw [← e1, encL_46 h2.small [46] (by simp [SmallR])] at hx
        have := back [46] (by simp) hx
        rw [this, e1] at hd
        exact absurd hd (by decide)
      · rw [← e2, encL_46 h2.small [46, 46] (by simp [SmallR])] at hx
        have := back [46, 46] (by simp) hx
        rw [this, e2] at hd
        exact absurd hd (by decide)
  refine ⟨check_of_name h2 hdots, ?_⟩
  unfold keyS
  rw [signsOf_enc h2.small]
  unfold keyOf
  rw [fold_swapped]
end Go.Proofs.YtjpmomklkkifjaaGreatDoor.T
