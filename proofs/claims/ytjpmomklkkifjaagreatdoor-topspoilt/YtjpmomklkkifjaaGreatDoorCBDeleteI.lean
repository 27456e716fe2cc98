import Derived.Test.YtjpmomklkkifjaaGreatDoorCBInsertI
set_option maxRecDepth 100000
set_option linter.unusedVariables false
set_option linter.unusedSimpArgs false
namespace Go.Proofs.YtjpmomklkkifjaaGreatDoor.T
open Go.RowKit Go.Lib
theorem insertN_end (base : Nat) (v : Value) (n : Nat) (xs news : List Value) (vb vc : Nat) (w : World) (ho : w.ownsRow base 128 1 v n xs) (hn : n ≤ 100) (hb : base ≤ w.heap.size)
    (hv : w.heap[vb]? = some (.cells news.toArray 128 (0, 0))) (hl : news.length = 1 * 1) (h1 : ∀ u ∈ news, u.oneCell' = true) :
    Calls Tryz.prog 212 #[v, .int .i64 n, .slice (some ⟨vb, 0, none⟩) 1 vc] w fun e w' => GrowEnd base 128 1 v (n + 1) (xs ++ news) w e w' := by
  obtain ⟨i0, hi, hz0, hz1, hz2⟩ := info_parts info49
  have hc : ∀ j u, news[j]? = some u → w.cell? ((⟨vb, 0, none⟩ : Addr).add j) = some u := fun j u hj => by
    rw [Addr.add_lit, Nat.zero_add]
    exact row_cell hv (n := news.length) (by simp) hj
  have HO := hide ho
  have HC := hide hc
  have HL := hide hl
  have H1 := hide h1
  have HB := hide hb
  rcases ho.2 with ⟨rfl, rfl⟩ | ⟨g, cap, cur, rfl, _, _, hnc, hcm, _⟩
  · clear ho hc hl h1 hv hb
    go_enter Tryz.func212, Tryz.ntmps212
    go_wp2_with (at_builtin; refine wpList_append_own_at _ rfl _ _ 186 rfl base 128 i0 (.pointer none) 1 8 Tryz.underlying186 hi hz0 hz1 hz2 rfl (by decide) _ _ _ rfl (unhide HO) ⟨vb, 0, none⟩ 1 vc news rfl (unhide HL) (unhide HC) (unhide H1) (by unfold maxLen; omega) (by omega) (unhide HB) ?_; intro v4 w4 hown4 hgrow4 hnil4 hat4)
    have Ho := hide hown4
    have Hg := hide hgrow4
    have Ha := hide hat4
    clear hown4 hgrow4 hnil4 hat4
    go_wp2_with fail
    go_ret
    exact ⟨v4, rfl, unhide Ho, unhide Hg, by rcases unhide Ha with h | h; exact .inl h; exact .inr ⟨_, h, Nat.le_refl _⟩⟩
  · unfold maxLen at hcm
    clear ho hc hl h1 hv hb
    go_enter Tryz.func212, Tryz.ntmps212
    go_wp2_with (at_builtin; refine wpList_append_own_at _ rfl _ _ 186 rfl base 128 i0 (.pointer none) 1 8 Tryz.underlying186 hi hz0 hz1 hz2 rfl (by decide) _ _ _ rfl (unhide HO) ⟨vb, 0, none⟩ 1 vc news rfl (unhide HL) (unhide HC) (unhide H1) (by unfold maxLen; omega) (by omega) (unhide HB) ?_; intro v4 w4 hown4 hgrow4 hnil4 hat4)
    all_goals
      have Ho := hide hown4
      have Hg := hide hgrow4
      have Ha := hide hat4
      clear hown4 hgrow4 hnil4 hat4
      go_wp2_with fail
      go_ret
      exact ⟨v4, rfl, unhide Ho, unhide Hg, by rcases unhide Ha with h | h; exact .inl h; exact .inr ⟨_, h, Nat.le_refl _⟩⟩
theorem insertN_shift (base : Nat) (g cap : Nat) (cur : Array Value) (n i : Nat) (xs news : List Value) (vb vc : Nat) (w : World) (hi : i < n) (hn : n ≤ 100) (hg : w.heap[g]? = some (.cells cur 128 (0, 0))) (hbg : base ≤ g) (hroom : n + 1 ≤ cap) (hcm : cap ≤ maxLen) (hcs : cur.size = cap) (hx : cur.toList.take (n) = xs) (hx1 : ∀ u ∈ xs, u.oneCell' = true)
    (hv : w.heap[vb]? = some (.cells news.toArray 128 (0, 0))) (hl : news.length = 1 * 1) (h1 : ∀ u ∈ news, u.oneCell' = true) (hne : vb ≠ g) :
    Calls Tryz.prog 212 #[.slice (some ⟨g, 0, none⟩) n cap, .int .i64 i, .slice (some ⟨vb, 0, none⟩) 1 vc] w fun e w' => GrowEnd base 128 1 (.slice (some ⟨g, 0, none⟩) n cap) (n + 1) (xs.take (i) ++ news ++ xs.drop (i)) w e w' := by
  have hsh : ∀ lb cb, (callFunc 231 #[.slice (some ⟨vb, 0, none⟩) 1 vc, .slice (some ⟨g, (i + 1), none⟩) lb cb]).run Tryz.prog w = .ok (.value (.bool false)) w := fun lb cb => by
    rw [run_callFunc_extern Tryz.func231 (by kernel_rfl) (by kernel_rfl) (by kernel_rfl) (e := Extern.SlicesOverlaps.overlaps #[186, 186] #[4]) (by kernel_rfl),
      Lib.run_overlaps_apart w 186 4 128 Tryz.underlying186 1 Tryz.sizeOf128 ⟨vb, 0, none⟩ ⟨g, (i + 1), none⟩ 1 vc lb cb hne 128 128 news.toArray.size cur.size (by simp [World.shape?, hv]) (by simp [World.shape?, hg]) (by omega) (by simp [World.frozen?, hv]) (by simp [World.frozen?, hv])]
    rfl
  have hxl : xs.length = n := by rw [← hx, List.length_take, Array.length_toList]; omega
  have hdl : (xs.drop (i)).length = (n - i) := by rw [List.length_drop, hxl]; try omega
  obtain ⟨r1, hr1⟩ : ∃ r1, r1 = shift1 cur.toList xs (i) (i + 1) := ⟨_, rfl⟩
  obtain ⟨r2, hr2⟩ : ∃ r2, r2 = shift2 r1 news (i) := ⟨_, rfl⟩
  have hsr := shift_row cur.toList xs news (i) (n) 1 hx (by omega) (by omega) (by rw [Array.length_toList]; omega)
  rw [show i + 1 = (i + 1) by omega, ← hr1, ← hr2] at hsr
  obtain ⟨q1, q2, q3⟩ := hsr
  have hcp1 : ∀ ty dc sc, (Builtin.copy_ #[186, 186] ty #[.slice (some ⟨g, (i + 1), none⟩) (n + 1 - (i + 1)) dc, .slice (some ⟨g, i, none⟩) (n + 1 - i) sc]).run Tryz.prog w.drew = .ok (goInt ↑(n - i)) (w.drew.setRow g r1.toArray) := fun ty dc sc => by
    rw [run_copy_rowK w.drew 186 186 ty 128 g (i + 1) (n + 1 - (i + 1)) dc ⟨g, i, none⟩ (n + 1 - i) sc cur 128 (xs.drop (i)) 1 (n - i) Tryz.underlying186 Tryz.sizeOf128 hg (by simp only [Nat.min_def]; split <;> omega) (by omega)
      (fun j u hj => by rw [Addr.add_lit]; exact row_cell (w := w.drew) hg hx (by rwa [List.getElem?_drop] at hj)) (by rw [hdl, hcs]; omega) (fun u hu => hx1 u (List.mem_of_mem_drop hu)), hr1]
    rfl
  have hg1 : (w.drew.setRow g r1.toArray).heap[g]? = some (.cells r1.toArray 128 (0, 0)) := setRow_heap w.drew g cur _ 128 _ hg
  have hv1 : (w.drew.setRow g r1.toArray).heap[vb]? = some (.cells news.toArray 128 (0, 0)) := (setRow_other w.drew g vb _ hne).trans hv
  have hcp2 : ∀ ty dc, (Builtin.copy_ #[186, 186] ty #[.slice (some ⟨g, i, none⟩) (n + 1 - i) dc, .slice (some ⟨vb, 0, none⟩) 1 vc]).run Tryz.prog (w.drew.setRow g r1.toArray) = .ok (goInt ↑(1 : Nat)) (w.drew.setRow g r2.toArray) := fun ty dc => by
    rw [run_copy_rowK (w.drew.setRow g r1.toArray) 186 186 ty 128 g (i) (n + 1 - i) dc ⟨vb, 0, none⟩ 1 vc r1.toArray 128 news 1 1 Tryz.underlying186 Tryz.sizeOf128 hg1 (by simp only [Nat.min_def]; split <;> omega) (by omega)
      (fun j u hj => by rw [Addr.add_lit, Nat.zero_add]; exact row_cell hv1 (n := news.length) (by simp) hj) (by simp only [List.size_toArray, q1, Array.length_toList]; omega) h1, setRow_setRow, hr2]
    rfl
  obtain ⟨W1, hW1⟩ : ∃ W1, W1 = w.drew.setRow g r1.toArray := ⟨_, rfl⟩
  obtain ⟨W2, hW2⟩ : ∃ W2, W2 = w.drew.setRow g r2.toArray := ⟨_, rfl⟩
  rw [← hW1] at hcp1
  rw [← hW1, ← hW2] at hcp2
  have hfin : ∀ v', v' = .slice (some ⟨g, 0, none⟩) (n + 1) cap → GrowEnd base 128 1 (.slice (some ⟨g, 0, none⟩) n cap) (n + 1) (xs.take (i) ++ news ++ xs.drop (i)) w (.returned v') W2 := by
    rintro v' rfl
    refine ⟨_, rfl, ⟨by rw [← q3, List.length_take, q2, Array.length_toList]; omega, .inr ⟨g, cap, r2.toArray, rfl, hbg, by rw [hW2]; exact setRow_heap w.drew g cur _ 128 _ hg, hroom, hcm, by simp [q2, hcs], by rw [show (n + 1) * 1 = n + 1 by omega]; exact q3⟩⟩, ⟨by rw [hW2]; rfl, by rw [hW2]; rfl, by rw [hW2]; rfl, by rw [hW2]; simp, fun x hx hne' => by rw [hW2]; exact setRow_other w.drew g x _ (fun e => hne' (by rw [e]; rfl))⟩, .inl rfl⟩
  have Hf := hide hfin
  have hcm' : cap ≤ 9223372036854775807 := by unfold maxLen at hcm; omega
  have hz1 : ¬ ((i : Int) = (n : Int)) := by omega
  have hin : i ≤ n := by omega
  have hb2 : ¬ (cap = i + 1) := by omega
  have hb4 : ¬ (cap = i) := by omega
  have hb3 : (i : Int) ≤ (n : Int) + 1 := by omega
  have hw1 : IntKind.i64.wrap ((i : Int) + 1) = (i : Int) + 1 := by rw [IntKind.wrap_i64]; omega
  have hb1 : (0 : Int) ≤ (i : Int) + 1 := by omega
  have htn : ((i : Int) + 1).toNat = i + 1 := by omega
  clear hfin q1 q2 q3 hr1 hr2 hW1 hW2 hg1 hv1 hg hv hl h1 hx hx1 hcs hxl hdl hcm
  go_enter Tryz.func212, Tryz.ntmps212
  go_wp2_with (simp only [hsh])
  have mixed := mixedB
  go_region_law_o (refine step_copy_runI rfl _ _ 186 186 rfl (.slice (some ⟨g, (i + 1), none⟩) (n + 1 - (i + 1)) (cap - (i + 1))) (.slice (some ⟨g, i, none⟩) (n + 1 - i) (cap - i)) (by simp [Act.eval, Act.put]) (by simp [Act.eval, Act.put]) (hcp1 _ _ _) ?_)
  go_wp2_with (at_builtin; refine wpList_copy_runI _ rfl _ _ 186 186 rfl _ _ rfl rfl (hcp2 _ _) ?_)
  go_ret
  exact unhide Hf _ rfl
theorem insertN_grow (base : Nat) (g cap : Nat) (cur : Array Value) (n i : Nat) (xs news : List Value) (vb vc : Nat) (w : World) (hi : i < n) (hn : n ≤ 100) (hb : base ≤ w.heap.size) (hg : w.heap[g]? = some (.cells cur 128 (0, 0))) (hnc : n ≤ cap) (hroom : cap < n + 1) (hx : cur.toList.take (n) = xs) (hxl : xs.length = n) (hx1 : ∀ u ∈ xs, u.oneCell' = true)
    (hv : w.heap[vb]? = some (.cells news.toArray 128 (0, 0))) (hl : news.length = 1 * 1) (h1 : ∀ u ∈ news, u.oneCell' = true) :
    Calls Tryz.prog 212 #[.slice (some ⟨g, 0, none⟩) n cap, .int .i64 i, .slice (some ⟨vb, 0, none⟩) 1 vc] w fun e w' => GrowEnd base 128 1 (.slice (some ⟨g, 0, none⟩) n cap) (n + 1) (xs.take (i) ++ news ++ xs.drop (i)) w e w' := by
  obtain ⟨i0, hi0, hz0, hz1, hz2⟩ := info_parts info49
  have hgw : g < w.heap.size := (Array.getElem?_eq_some_iff.1 hg).1
  have hvw : vb < w.heap.size := (Array.getElem?_eq_some_iff.1 hv).1
  have hkk : (n : Int) + 1 - (i : Int) = ((n + 1 - i : Nat) : Int) := by omega
  have hik : i + (n + 1 - i) = n + 1 := by omega
  have hold : (Builtin.firstCells i0.size i (.slice (some ⟨g, 0, none⟩) i cap)).run Tryz.prog w.drew = .ok (xs.take (i)).toArray w.drew := by
    rw [hz1]
    exact run_firstCells_some w.drew 1 i ⟨g, 0, none⟩ i cap (xs.take (i)) (by rw [List.length_take]; omega) (fun j u hj => by
      rw [Addr.add_lit, Nat.zero_add]
      rw [List.getElem?_take] at hj
      split at hj
      · exact row_cell (w := w.drew) hg hx hj
      · cases hj)
  obtain ⟨G, hG⟩ : ∃ G, G = grownCap w (n + 1) cap 128 := ⟨_, rfl⟩
  have hGn : n + 1 ≤ G := by rw [hG]; exact grownCap_ge w _ _ _
  have hG63 : G ≤ maxLen := by rw [hG]; exact grownCap_le_maxLen w (n + 1) cap 128 (by unfold maxLen; omega)
  obtain ⟨R, hR⟩ : ∃ R : List Value, R = (Builtin.zeroCells (Value.cells (.pointer none)) (n + 1 - i) ++ Builtin.zeroCells (Value.cells (.pointer none)) (G - (n + 1))).toList := ⟨_, rfl⟩
  have hRl : R.length = n + 1 - i + (G - (n + 1)) := by
    rw [hR]
    simp [size_zeroCells, Value.cells]
    try omega
  have hrz : ∀ ty, (Builtin.append_ #[186, 3] ty #[.slice (some ⟨g, 0, none⟩) i cap, .int .i64 ((n : Int) + 1 - (i : Int))]).run Tryz.prog w =
      .ok (.slice (some ⟨w.heap.size, 0, none⟩) (n + 1) G) (w.drew.alloc (.cells (xs.take (i) ++ R).toArray 128)) := fun ty => by
    have h := Lib.run_append_grow_zeros w 186 3 ty 128 i0 _ .i64 .i64 Tryz.underlying186 Tryz.underlying3 hi0 hz0 (some ⟨g, 0, none⟩) i cap (xs.take (i)) hold (n + 1 - i) (by omega) (by omega) (by omega) (by omega) (by rw [hz2]; omega) (by rw [hz2, hik]; exact growslice_fits hroom (by omega))
    rw [hik, ← hG] at h
    rw [hkk, h, hR]
    congr 3
    apply Array.toList_inj.1
    simp
  obtain ⟨r1, hr1⟩ : ∃ r1, r1 = shift2 (xs.take (i) ++ R) news (i) := ⟨_, rfl⟩
  obtain ⟨r2, hr2⟩ : ∃ r2, r2 = shift1 r1 xs (i) (i + 1) := ⟨_, rfl⟩
  have hsr := grow_row R xs news (List.replicate ((G - (n + 1))) default) (i) (n) 1 hxl (by omega) (by omega) (by rw [List.length_replicate]; omega)
  rw [show i + 1 = (i + 1) by omega, ← hr1, ← hr2, List.length_replicate] at hsr
  obtain ⟨q1, q2, q3⟩ := hsr
  have hdl : (xs.drop (i)).length = (n - i) := by rw [List.length_drop, hxl]; try omega
  obtain ⟨WA, hWA⟩ : ∃ WA, WA = w.drew.alloc (.cells (xs.take (i) ++ R).toArray 128) := ⟨_, rfl⟩
  have hWs : WA.heap[w.heap.size]? = some (.cells (xs.take (i) ++ R).toArray 128 (0, 0)) := by rw [hWA]; exact heap_alloc_new w.drew _
  have hWo : ∀ x, x < w.heap.size → WA.heap[x]? = w.heap[x]? := fun x hx => by rw [hWA]; exact Below.heap_alloc w.drew _ x hx
  have hcpA : ∀ (W : World), W.heap = WA.heap → ∀ ty dc, (Builtin.copy_ #[186, 186] ty #[.slice (some ⟨w.heap.size, i, none⟩) (n + 1 - i) dc, .slice (some ⟨vb, 0, none⟩) 1 vc]).run Tryz.prog W = .ok (goInt ↑(1 : Nat)) (W.setRow w.heap.size r1.toArray) := fun W hW ty dc => by
    rw [run_copy_rowK W 186 186 ty 128 w.heap.size (i) (n + 1 - i) dc ⟨vb, 0, none⟩ 1 vc _ 128 news 1 1 Tryz.underlying186 Tryz.sizeOf128 (by rw [hW]; exact hWs) (by simp only [Nat.min_def]; split <;> omega) (by omega)
      (fun j u hj => by rw [Addr.add_lit, Nat.zero_add]; exact row_cell (by rw [hW, hWo vb hvw]; exact hv) (n := news.length) (by simp) hj) (by simp only [List.size_toArray, List.length_append, List.length_take, hxl, hRl]; omega) h1, hr1]
    rfl
  have hcpB : ∀ (W : World), W.heap = (WA.setRow w.heap.size r1.toArray).heap → ∀ ty dc sc, (Builtin.copy_ #[186, 186] ty #[.slice (some ⟨w.heap.size, (i + 1), none⟩) (n + 1 - (i + 1)) dc, .slice (some ⟨g, i, none⟩) (n - i) sc]).run Tryz.prog W = .ok (goInt ↑(n - i)) (W.setRow w.heap.size r2.toArray) := fun W hW ty dc sc => by
    rw [run_copy_rowK W 186 186 ty 128 w.heap.size (i + 1) (n + 1 - (i + 1)) dc ⟨g, i, none⟩ (n - i) sc r1.toArray 128 (xs.drop (i)) 1 (n - i) Tryz.underlying186 Tryz.sizeOf128 (by rw [hW]; exact setRow_heap WA _ _ _ 128 _ hWs) (by simp only [Nat.min_def]; split <;> omega) (by omega)
      (fun j u hj => by
        rw [Addr.add_lit]
        exact row_cell (by rw [hW, setRow_other _ _ g _ (by omega), hWo g hgw]; exact hg) hx (by rwa [List.getElem?_drop] at hj))
      (by simp only [List.size_toArray, q1, hdl]; omega) (fun u hu => hx1 u (List.mem_of_mem_drop hu)), hr2]
    rfl
  have hfin : ∀ v' W', W'.heap = ((WA.setRow w.heap.size r1.toArray).setRow w.heap.size r2.toArray).heap → W'.os = w.os → W'.tape = w.tape → W'.output = w.output → v' = .slice (some ⟨w.heap.size, 0, none⟩) (n + 1) G → GrowEnd base 128 1 (.slice (some ⟨g, 0, none⟩) n cap) (n + 1) (xs.take (i) ++ news ++ xs.drop (i)) w (.returned v') W' := by
    rintro v' W' hW h2 h3 h4 rfl
    have hsz : W'.heap.size = w.heap.size + 1 := by rw [hW, hWA]; simp
    refine ⟨_, rfl, ⟨by rw [← q3, List.length_take, q2]; omega, .inr ⟨w.heap.size, G, r2.toArray, rfl, hb, by rw [hW, setRow_setRow]; exact setRow_heap WA _ _ _ 128 _ hWs, hGn, hG63, by simp [q2]; omega, by rw [show (n + 1) * 1 = n + 1 by omega]; exact q3⟩⟩, ⟨h2, h3, h4, by omega, fun x hx hne' => by rw [hW, setRow_setRow, setRow_other _ _ x _ (by omega), hWo x hx]⟩, .inr ⟨_, rfl, Nat.le_refl _⟩⟩
  have Hf := hide hfin
  have hG63' : G ≤ 9223372036854775807 := by unfold maxLen at hG63; omega
  have hz2' : ¬ ((i : Int) = (n : Int)) := by omega
  have hz3 : (cap : Int) < (n : Int) + 1 := by omega
  have hin : i ≤ n := by omega
  have hGi : ¬ (G = i) := by omega
  have hGim : ¬ (G = i + 1) := by omega
  have hci : ¬ (cap = i) := by omega
  have hb3 : (i : Int) ≤ (n : Int) := by omega
  have hw1 : IntKind.i64.wrap ((i : Int) + 1) = (i : Int) + 1 := by rw [IntKind.wrap_i64]; omega
  have hb1 : (0 : Int) ≤ (i : Int) + 1 := by omega
  have htn : ((i : Int) + 1).toNat = i + 1 := by omega
  obtain ⟨ROW, hROW⟩ : ∃ ROW, ROW = (xs.take (i) ++ R).toArray := ⟨_, rfl⟩
  rw [← hROW] at hrz
  have HW : Hid (WA = w.drew.alloc (.cells ROW 128)) := by rw [hROW]; exact hWA
  have hA : ∀ ty dc, (Builtin.copy_ #[186, 186] ty #[.slice (some ⟨w.heap.size, i, none⟩) (n + 1 - i) dc, .slice (some ⟨vb, 0, none⟩) 1 vc]).run Tryz.prog (w.alloc (.cells ROW 128)).drew = .ok (goInt ↑(1 : Nat)) ((w.alloc (.cells ROW 128)).drew.setRow w.heap.size r1.toArray) := hcpA _ (by rw [unhide HW]; rfl)
  have hB : ∀ ty dc sc, (Builtin.copy_ #[186, 186] ty #[.slice (some ⟨w.heap.size, (i + 1), none⟩) (n + 1 - (i + 1)) dc, .slice (some ⟨g, i, none⟩) (n - i) sc]).run Tryz.prog ((w.alloc (.cells ROW 128)).drew.setRow w.heap.size r1.toArray).drew = .ok (goInt ↑(n - i)) (((w.alloc (.cells ROW 128)).drew.setRow w.heap.size r1.toArray).drew.setRow w.heap.size r2.toArray) := hcpB _ (by rw [unhide HW]; rfl)
  clear hfin q1 q2 q3 hr1 hr2 hg hv hl h1 hx hx1 hxl hdl hkk hik hold hR hRl hG hG63 hWs hWo hcpA hcpB hROW hWA
  go_enter Tryz.func212, Tryz.ntmps212
  go_wp2_with (first
    | (at_builtin; refine Lib.wpList_append_run _ rfl _ _ _ _ rfl _ _ rfl rfl _ _ (hrz _) ?_)
    | (at_builtin; refine wpList_copy_runI _ rfl _ _ 186 186 rfl _ _ rfl rfl (hA _ _) ?_))
  have mixed := mixedB
  go_region_law_o (refine step_copy_runI rfl _ _ 186 186 rfl (.slice (some ⟨w.heap.size, (i + 1), none⟩) (n + 1 - (i + 1)) (G - (i + 1))) (.slice (some ⟨g, i, none⟩) (n - i) (cap - i)) (by simp [Act.eval, Act.put]) (by simp [Act.eval, Act.put]) (hB 3 (G - (i + 1)) (cap - i)) ?_)
  go_wp2
  go_ret
  exact unhide Hf _ _ (by rw [unhide HW]; rfl) rfl rfl rfl rfl
theorem insertN_calls (base : Nat) (v : Value) (n i : Nat) (xs news : List Value) (vb vc : Nat) (w : World) (ho : w.ownsRow base 128 1 v n xs) (hi : i ≤ n) (hn : n ≤ 100) (hb : base ≤ w.heap.size) (hx1 : ∀ u ∈ xs, u.oneCell' = true)
    (hv : w.heap[vb]? = some (.cells news.toArray 128 (0, 0))) (hl : news.length = 1 * 1) (h1 : ∀ u ∈ news, u.oneCell' = true) (hne : v.ownBlock ≠ some vb) :
    Calls Tryz.prog 212 #[v, .int .i64 i, .slice (some ⟨vb, 0, none⟩) 1 vc] w fun e w' => GrowEnd base 128 1 v (n + 1) (xs.take (i) ++ news ++ xs.drop (i)) w e w' := by
  have hxl : xs.length = n := by have := ho.1; omega
  rcases Nat.lt_or_ge i n with h | h
  · rcases ho.2 with ⟨rfl, rfl⟩ | ⟨g, cap, cur, rfl, hbg, hg, hnc, hcm, hcs, hx⟩
    · omega
    · have hne' : vb ≠ g := fun e => hne (by rw [e]; rfl)
      have hcs' : cur.size = cap := by omega
      have hx' : cur.toList.take (n) = xs := by rw [← hx, show n * 1 = n by omega]
      rcases Nat.lt_or_ge cap (n + 1) with h2 | h2
      · exact insertN_grow base g cap cur n i xs news vb vc w h hn hb hg hnc h2 hx' hxl hx1 hv hl h1
      · exact insertN_shift base g cap cur n i xs news vb vc w h hn hg hbg h2 hcm hcs' hx' hx1 hv hl h1 hne'
  · obtain rfl : i = n := by omega
    have := insertN_end base v i xs news vb vc w ho hn hb hv hl h1
    rw [List.take_of_length_le (by omega), List.drop_eq_nil_of_le (by omega), List.append_nil]
    exact this
end Go.Proofs.YtjpmomklkkifjaaGreatDoor.T
namespace Go.Proofs.YtjpmomklkkifjaaGreatDoor.T
open Go.RowKit Go.Lib
theorem cloneI_calls (base b off n c : Nat) (news : List Value) (w : World) (hl : news.length = n * 3) (hn : n ≤ 100) (hb : base ≤ w.heap.size)
    (hc : ∀ j u, news[j]? = some u → w.cell? ⟨b, off + j, none⟩ = some u) (h1 : ∀ u ∈ news, u.oneCell' = true) :
    Calls Tryz.prog 152 #[.slice (some ⟨b, off, none⟩) n c] w fun e w' => CloneEnd base 190 3 n news w e w' := by
  obtain ⟨i0, hi, hz0, hz1, hz2⟩ := info_parts info58
  have q22 : ∀ (w : World) (a : Option Addr) (n c n' c' : Nat), (binOp .eql 185 (.slice a n c) (.slice none n' c')).run Tryz.prog w = .ok (.bool a.isNone) w := fun w a n c n' c' => Lib.run_eql_slice_nil w _ _ a n c n' c' Tryz.underlying185
  have HC := hide hc
  have HL := hide hl
  have H1 := hide h1
  have HB := hide hb
  clear hc hl h1 hb
  go_enter Tryz.func152, Tryz.ntmps152
  go_wp2_with (at_builtin; refine wpList_append_own_at _ rfl _ _ 185 rfl w.heap.size 190 i0 (.agg #[.string ⟨#[]⟩, .string ⟨#[]⟩, .int .i64 0]) 3 40 Tryz.underlying185 hi hz0 hz1 hz2 rfl (by decide) _ _ _ rfl (World.ownsRow_made w #[] 0 (Nat.le_refl _) (Nat.zero_le _) (by simp)) ⟨b, off, none⟩ n c news rfl (unhide HL) (fun j u hj => by rw [Addr.add_lit]; exact Lib.cell?_alloc_some _ (unhide HC j u hj)) (unhide H1) (by unfold maxLen; omega) (by omega) (by simp) ?_; intro v4 w4 hown4 hgrow4 hnil4 hat4)
  have Ho := hide hown4
  have Hg := hide hgrow4
  have Ha := hide hat4
  clear hown4 hgrow4 hnil4 hat4
  go_wp2_with fail
  go_ret
  have hown := unhide Ho
  have hgrow := unhide Hg
  have hat := unhide Ha
  rw [Nat.zero_add, List.nil_append] at hown
  refine ⟨v4, rfl, ownsRow_base hown (unhide HB), ?_, ((Below.refl _ w).alloc (Nat.le_refl _) _).grown hgrow (by simp) (fun k hk => Nat.le_of_eq (Option.some.inj hk))⟩
  rcases hat with h | h
  · exact ⟨_, h, Nat.le_refl _⟩
  · exact ⟨_, h, by simp⟩
end Go.Proofs.YtjpmomklkkifjaaGreatDoor.T
namespace Go.Proofs.YtjpmomklkkifjaaGreatDoor.T
open Go.RowKit Go.Lib
theorem cloneN_calls (base b off n c : Nat) (news : List Value) (w : World) (hl : news.length = n * 1) (hn : n ≤ 100) (hb : base ≤ w.heap.size)
    (hc : ∀ j u, news[j]? = some u → w.cell? ⟨b, off + j, none⟩ = some u) (h1 : ∀ u ∈ news, u.oneCell' = true) :
    Calls Tryz.prog 213 #[.slice (some ⟨b, off, none⟩) n c] w fun e w' => CloneEnd base 128 1 n news w e w' := by
  obtain ⟨i0, hi, hz0, hz1, hz2⟩ := info_parts info49
  have q22 : ∀ (w : World) (a : Option Addr) (n c n' c' : Nat), (binOp .eql 186 (.slice a n c) (.slice none n' c')).run Tryz.prog w = .ok (.bool a.isNone) w := fun w a n c n' c' => Lib.run_eql_slice_nil w _ _ a n c n' c' Tryz.underlying186
  have HC := hide hc
  have HL := hide hl
  have H1 := hide h1
  have HB := hide hb
  clear hc hl h1 hb
  go_enter Tryz.func213, Tryz.ntmps213
  go_wp2_with (at_builtin; refine wpList_append_own_at _ rfl _ _ 186 rfl w.heap.size 128 i0 (.pointer none) 1 8 Tryz.underlying186 hi hz0 hz1 hz2 rfl (by decide) _ _ _ rfl (World.ownsRow_made w #[] 0 (Nat.le_refl _) (Nat.zero_le _) (by simp)) ⟨b, off, none⟩ n c news rfl (unhide HL) (fun j u hj => by rw [Addr.add_lit]; exact Lib.cell?_alloc_some _ (unhide HC j u hj)) (unhide H1) (by unfold maxLen; omega) (by omega) (by simp) ?_; intro v4 w4 hown4 hgrow4 hnil4 hat4)
  have Ho := hide hown4
  have Hg := hide hgrow4
  have Ha := hide hat4
  clear hown4 hgrow4 hnil4 hat4
  go_wp2_with fail
  go_ret
  have hown := unhide Ho
  have hgrow := unhide Hg
  have hat := unhide Ha
  rw [Nat.zero_add, List.nil_append] at hown
  refine ⟨v4, rfl, ownsRow_base hown (unhide HB), ?_, ((Below.refl _ w).alloc (Nat.le_refl _) _).grown hgrow (by simp) (fun k hk => Nat.le_of_eq (Option.some.inj hk))⟩
  rcases hat with h | h
  · exact ⟨_, h, Nat.le_refl _⟩
  · exact ⟨_, h, by simp⟩
end Go.Proofs.YtjpmomklkkifjaaGreatDoor.T
namespace Go.Proofs.YtjpmomklkkifjaaGreatDoor.T
open Go.RowKit Go.Lib
theorem deleteI_row (base : Nat) (g cap : Nat) (cur : Array Value) (n i : Nat) (xs : List Value) (w : World) (hi : i < n) (hn : n ≤ 100) (hg : w.heap[g]? = some (.cells cur 190 (0, 0))) (hbg : base ≤ g) (hnc : n ≤ cap) (hcm : cap ≤ maxLen) (hcs : cur.size = cap * 3) (hx : cur.toList.take (n * 3) = xs) (hx1 : ∀ u ∈ xs, u.oneCell' = true) :
    Calls Tryz.prog 214 #[.slice (some ⟨g, 0, none⟩) n cap, .int .i64 i, .int .i64 ((i : Int) + 1)] w fun e w' => GrowEnd base 190 3 (.slice (some ⟨g, 0, none⟩) n cap) (n - 1) (xs.take (i * 3) ++ xs.drop ((i + 1) * 3)) w e w' := by
  obtain ⟨i0, hi0, hz0, hz1, hz2⟩ := info_parts info58
  have hxl : xs.length = n * 3 := by rw [← hx, List.length_take, Array.length_toList]; omega
  obtain ⟨news, hnews⟩ : ∃ news, news = xs.drop ((i + 1) * 3) := ⟨_, rfl⟩
  have hdl : news.length = (n - (i + 1)) * 3 := by rw [hnews, List.length_drop, hxl]; try omega
  obtain ⟨A, hA, hsrc⟩ : ∃ A : Addr, (if cap = i + 1 then some (⟨g, 0, none⟩ : Addr) else some ⟨g, (i + 1) * 3, none⟩) = some A ∧ (∀ t u, news[t]? = some u → w.drew.cell? (A.add t) = some u) := by
    by_cases h : cap = i + 1
    · refine ⟨⟨g, 0, none⟩, by simp [h], fun t u hu => ?_⟩
      have h0 : news.length = 0 := by rw [hdl]; omega
      rw [List.length_eq_zero_iff.1 h0] at hu
      simp at hu
    · refine ⟨⟨g, (i + 1) * 3, none⟩, by simp [h], fun t u hu => ?_⟩
      rw [Addr.add_lit]
      rw [hnews, List.getElem?_drop] at hu
      exact row_cell (w := w.drew) hg hx hu
  obtain ⟨r1, hr1⟩ : ∃ r1, r1 = cur.toList.take (i * 3) ++ news ++ cur.toList.drop (i * 3 + news.length) := ⟨_, rfl⟩
  obtain ⟨zs, hzs⟩ : ∃ zs, (Builtin.zeroCells (Value.cells (.agg #[.string ⟨#[]⟩, .string ⟨#[]⟩, .int .i64 0])) 1).toList = zs := ⟨_, rfl⟩
  have hzl : zs.length = 3 := by rw [← hzs, Array.length_toList, size_zeroCells]; simp [Value.cells]
  have hz1c : ∀ u ∈ zs, u.oneCell' = true := by
    rw [← hzs]
    intro u hu
    simp [Builtin.zeroCells, Value.cells, List.range_succ] at hu
    rcases hu with rfl | rfl | rfl <;> rfl
  obtain ⟨r2, hr2⟩ : ∃ r2, r2 = r1.take ((n - 1) * 3) ++ zs ++ r1.drop ((n - 1) * 3 + zs.length) := ⟨_, rfl⟩
  have l1 : r1.length = cap * 3 := by
    rw [hr1]
    simp only [List.length_append, List.length_take, List.length_drop, Array.length_toList, hdl, hcs]
    omega
  have l2 : r2.length = cap * 3 := by
    rw [hr2]
    simp only [List.length_append, List.length_take, List.length_drop, l1, hzl]
    omega
  have q3 : r2.take ((n - 1) * 3) = xs.take (i * 3) ++ news := by
    have e0 : cur.toList.take (i * 3) = xs.take (i * 3) := by rw [← hx, List.take_take]; congr 1; omega
    have l3 : (xs.take (i * 3) ++ news).length = (n - 1) * 3 := by rw [List.length_append, List.length_take, hdl, hxl]; omega
    rw [hr2, List.append_assoc, List.take_append_of_le_length (by rw [List.length_take]; omega), List.take_take, Nat.min_self, hr1, e0, List.take_append_of_le_length (by omega), List.take_of_length_le (by omega)]
  have hap : ∀ ty, (Builtin.append_ #[185, 185] ty #[.slice (some ⟨g, 0, none⟩) i cap, .slice (some A) (n - (i + 1)) (cap - (i + 1))]).run Tryz.prog w.drew = .ok (.slice (some ⟨g, 0, none⟩) (i + (n - (i + 1))) cap) (w.drew.setRow g r1.toArray) := fun ty => by
    have h := run_append_room (P := Tryz.prog) w.drew 185 ty 190 i0 Tryz.underlying185 hi0 g i cap cur hg A (n - (i + 1)) (cap - (i + 1)) news (by rw [hz1]; omega) hsrc (fun u hu => hx1 u (List.mem_of_mem_drop (by rw [← hnews]; exact hu))) (by omega) (by rw [hz1]; omega)
    rw [hz1] at h
    try simp only [Nat.mul_one] at h
    rw [← hr1] at h
    exact h
  have hlen : i + (n - (i + 1)) = n - 1 := by omega
  rw [hlen] at hap
  have hg1 : (w.drew.setRow g r1.toArray).heap[g]? = some (.cells r1.toArray 190 (0, 0)) := setRow_heap w.drew g cur _ 190 _ hg
  have hcl : ∀ ty c, (Builtin.clear_ #[185] ty #[.slice (some ⟨g, (n - 1) * 3, none⟩) (n - (n - 1)) c]).run Tryz.prog (w.drew.setRow g r1.toArray) = .ok (.tuple #[]) (w.drew.setRow g r2.toArray) := fun ty c => by
    have h := run_clear_rowK (P := Tryz.prog) (w.drew.setRow g r1.toArray) 185 190 ty (.agg #[.string ⟨#[]⟩, .string ⟨#[]⟩, .int .i64 0]) Tryz.underlying185 Tryz.zeroValue190 g ((n - 1) * 3) (n - (n - 1)) c r1.toArray 190 zs (by rw [show n - (n - 1) = 1 by omega]; exact hzs) (by omega) hg1 (by rw [List.size_toArray, l1, hzl]; omega) hz1c
    rw [h, setRow_setRow, hr2]
  obtain ⟨W1, hW1⟩ : ∃ W1, W1 = w.drew.setRow g r1.toArray := ⟨_, rfl⟩
  obtain ⟨W2, hW2⟩ : ∃ W2, W2 = w.drew.setRow g r2.toArray := ⟨_, rfl⟩
  rw [← hW1] at hap
  rw [← hW1, ← hW2] at hcl
  have hfin : ∀ v', v' = .slice (some ⟨g, 0, none⟩) (n - 1) cap → GrowEnd base 190 3 (.slice (some ⟨g, 0, none⟩) n cap) (n - 1) (xs.take (i * 3) ++ xs.drop ((i + 1) * 3)) w (.returned v') W2 := by
    rintro v' rfl
    rw [← hnews]
    refine ⟨_, rfl, ⟨by rw [← q3, List.length_take, l2]; omega, .inr ⟨g, cap, r2.toArray, rfl, hbg, by rw [hW2]; exact setRow_heap w.drew g cur _ 190 _ hg, by omega, hcm, by simp [l2], by rw [show (n - 1) * 3 = (n - 1) * 3 by omega]; exact q3⟩⟩, ⟨by rw [hW2]; rfl, by rw [hW2]; rfl, by rw [hW2]; rfl, by rw [hW2]; simp, fun x hx hne' => by rw [hW2]; exact setRow_other w.drew g x _ (fun e => hne' (by rw [e]; rfl))⟩, .inl rfl⟩
  have Hf := hide hfin
  have hcm' : cap ≤ 9223372036854775807 := by unfold maxLen at hcm; omega
  have hin : i ≤ n := by omega
  have hb3 : (i : Int) < (n : Int) := by omega
  have hw1 : ¬ ((i : Int) = (i : Int) + 1) := by omega
  have hic : i ≤ cap := by omega
  have hb1 : (0 : Int) ≤ (i : Int) + 1 := by omega
  have htn : ((i : Int) + 1).toNat = i + 1 := by omega
  have hb5 : (i : Int) + 1 ≤ (n : Int) := by omega
  have hb6 : (i : Int) + 1 ≤ (cap : Int) := by omega
  have hb7 : ¬ (cap = n - 1) := by omega
  have hb8 : n - 1 ≤ n := by omega
  have hb9 : n - 1 ≤ cap := by omega
  have mixed := mixedB
  clear hfin q3 hr1 hr2 hW1 hW2 hg1 hg hx hx1 hcs hxl hdl hcm hsrc hnews l1 l2 hzs hzl hz1c hlen
  go_enter Tryz.func214, Tryz.ntmps214
  go_wp2_with fail
  go_region_law_o (refine step_append_runI rfl _ _ 185 185 rfl (.slice (some ⟨g, 0, none⟩) i cap) (.slice (some A) (n - (i + 1)) (cap - (i + 1))) (by simp [Act.eval, Act.put]) (by simp [Act.eval, Act.put]) (hap _) ?_)
  go_wp2
  go_ret
  exact unhide Hf _ rfl
theorem deleteI_calls (base : Nat) (v : Value) (n i : Nat) (xs : List Value) (w : World) (ho : w.ownsRow base 190 3 v n xs) (hi : i < n) (hn : n ≤ 100) (hx1 : ∀ u ∈ xs, u.oneCell' = true) :
    Calls Tryz.prog 214 #[v, .int .i64 i, .int .i64 ((i : Int) + 1)] w fun e w' => GrowEnd base 190 3 v (n - 1) (xs.take (i * 3) ++ xs.drop ((i + 1) * 3)) w e w' := by
  rcases ho.2 with ⟨rfl, rfl⟩ | ⟨g, cap, cur, rfl, hbg, hg, hnc, hcm, hcs, hx⟩
  · omega
  · exact deleteI_row base g cap cur n i xs w hi hn hg hbg hnc hcm (by omega) (by rw [← hx, show n * 3 = n * 3 by omega]) hx1
end Go.Proofs.YtjpmomklkkifjaaGreatDoor.T
