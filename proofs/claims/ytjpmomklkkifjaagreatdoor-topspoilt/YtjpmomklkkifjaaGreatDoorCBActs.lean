import Derived.Test.YtjpmomklkkifjaaGreatDoorCBInsertI
import Derived.Test.YtjpmomklkkifjaaGreatDoorCBOwn
import Derived.Test.YtjpmomklkkifjaaGreatDoorCBDeleteI
set_option maxRecDepth 100000
set_option linter.unusedVariables false
set_option linter.unusedSimpArgs false
namespace Go.Proofs.YtjpmomklkkifjaaGreatDoor.T
open Go.RowKit Go.Lib
theorem deleteN_row (base : Nat) (g cap : Nat) (cur : Array Value) (n i : Nat) (xs : List Value) (w : World) (hi : i < n) (hn : n ≤ 100) (hg : w.heap[g]? = some (.cells cur 128 (0, 0))) (hbg : base ≤ g) (hnc : n ≤ cap) (hcm : cap ≤ maxLen) (hcs : cur.size = cap) (hx : cur.toList.take (n) = xs) (hx1 : ∀ u ∈ xs, u.oneCell' = true) :
    Calls Tryz.prog 243 #[.slice (some ⟨g, 0, none⟩) n cap, .int .i64 i, .int .i64 ((i : Int) + 1)] w fun e w' => GrowEnd base 128 1 (.slice (some ⟨g, 0, none⟩) n cap) (n - 1) (xs.take (i) ++ xs.drop (i + 1)) w e w' := by
  obtain ⟨i0, hi0, hz0, hz1, hz2⟩ := info_parts info49
  have hxl : xs.length = n := by rw [← hx, List.length_take, Array.length_toList]; omega
  obtain ⟨news, hnews⟩ : ∃ news, news = xs.drop (i + 1) := ⟨_, rfl⟩
  have hdl : news.length = (n - (i + 1)) := by rw [hnews, List.length_drop, hxl]; try omega
  obtain ⟨A, hA, hsrc⟩ : ∃ A : Addr, (if cap = i + 1 then some (⟨g, 0, none⟩ : Addr) else some ⟨g, (i + 1), none⟩) = some A ∧ (∀ t u, news[t]? = some u → w.drew.cell? (A.add t) = some u) := by
    by_cases h : cap = i + 1
    · refine ⟨⟨g, 0, none⟩, by simp [h], fun t u hu => ?_⟩
      have h0 : news.length = 0 := by rw [hdl]; omega
      rw [List.length_eq_zero_iff.1 h0] at hu
      simp at hu
    · refine ⟨⟨g, (i + 1), none⟩, by simp [h], fun t u hu => ?_⟩
      rw [Addr.add_lit]
      rw [hnews, List.getElem?_drop] at hu
      exact row_cell (w := w.drew) hg hx hu
  obtain ⟨r1, hr1⟩ : ∃ r1, r1 = cur.toList.take (i) ++ news ++ cur.toList.drop (i + news.length) := ⟨_, rfl⟩
  obtain ⟨zs, hzs⟩ : ∃ zs, (Builtin.zeroCells (Value.cells (.pointer none)) 1).toList = zs := ⟨_, rfl⟩
  have hzl : zs.length = 1 := by rw [← hzs, Array.length_toList, size_zeroCells]; simp [Value.cells]
  have hz1c : ∀ u ∈ zs, u.oneCell' = true := by
    rw [← hzs]
    intro u hu
    simp [Builtin.zeroCells, Value.cells, List.range_succ] at hu
    subst hu; rfl
  obtain ⟨r2, hr2⟩ : ∃ r2, r2 = r1.take (n - 1) ++ zs ++ r1.drop ((n - 1) + zs.length) := ⟨_, rfl⟩
  have l1 : r1.length = cap := by
    rw [hr1]
    simp only [List.length_append, List.length_take, List.length_drop, Array.length_toList, hdl, hcs]
    omega
  have l2 : r2.length = cap := by
    rw [hr2]
    simp only [List.length_append, List.length_take, List.length_drop, l1, hzl]
    omega
  have q3 : r2.take (n - 1) = xs.take (i) ++ news := by
    have e0 : cur.toList.take (i) = xs.take (i) := by rw [← hx, List.take_take]; congr 1; omega
    have l3 : (xs.take (i) ++ news).length = (n - 1) := by rw [List.length_append, List.length_take, hdl, hxl]; omega
    rw [hr2, List.append_assoc, List.take_append_of_le_length (by rw [List.length_take]; omega), List.take_take, Nat.min_self, hr1, e0, List.take_append_of_le_length (by omega), List.take_of_length_le (by omega)]
  have hap : ∀ ty, (Builtin.append_ #[186, 186] ty #[.slice (some ⟨g, 0, none⟩) i cap, .slice (some A) (n - (i + 1)) (cap - (i + 1))]).run Tryz.prog w.drew = .ok (.slice (some ⟨g, 0, none⟩) (i + (n - (i + 1))) cap) (w.drew.setRow g r1.toArray) := fun ty => by
    have h := run_append_room (P := Tryz.prog) w.drew 186 ty 128 i0 Tryz.underlying186 hi0 g i cap cur hg A (n - (i + 1)) (cap - (i + 1)) news (by rw [hz1]; omega) hsrc (fun u hu => hx1 u (List.mem_of_mem_drop (by rw [← hnews]; exact hu))) (by omega) (by rw [hz1]; omega)
    rw [hz1] at h
    try simp only [Nat.mul_one] at h
    rw [← hr1] at h
    exact h
  have hlen : i + (n - (i + 1)) = n - 1 := by omega
  rw [hlen] at hap
  have hg1 : (w.drew.setRow g r1.toArray).heap[g]? = some (.cells r1.toArray 128 (0, 0)) := setRow_heap w.drew g cur _ 128 _ hg
  have hcl : ∀ ty c, (Builtin.clear_ #[186] ty #[.slice (some ⟨g, (n - 1), none⟩) (n - (n - 1)) c]).run Tryz.prog (w.drew.setRow g r1.toArray) = .ok (.tuple #[]) (w.drew.setRow g r2.toArray) := fun ty c => by
    have h := run_clear_rowK (P := Tryz.prog) (w.drew.setRow g r1.toArray) 186 128 ty (.pointer none) Tryz.underlying186 Tryz.zeroValue128 g (n - 1) (n - (n - 1)) c r1.toArray 128 zs (by rw [show n - (n - 1) = 1 by omega]; exact hzs) (by omega) hg1 (by rw [List.size_toArray, l1, hzl]; omega) hz1c
    rw [h, setRow_setRow, hr2]
  obtain ⟨W1, hW1⟩ : ∃ W1, W1 = w.drew.setRow g r1.toArray := ⟨_, rfl⟩
  obtain ⟨W2, hW2⟩ : ∃ W2, W2 = w.drew.setRow g r2.toArray := ⟨_, rfl⟩
  rw [← hW1] at hap
  rw [← hW1, ← hW2] at hcl
  have hfin : ∀ v', v' = .slice (some ⟨g, 0, none⟩) (n - 1) cap → GrowEnd base 128 1 (.slice (some ⟨g, 0, none⟩) n cap) (n - 1) (xs.take (i) ++ xs.drop (i + 1)) w (.returned v') W2 := by
    rintro v' rfl
    rw [← hnews]
    refine ⟨_, rfl, ⟨by rw [← q3, List.length_take, l2]; omega, .inr ⟨g, cap, r2.toArray, rfl, hbg, by rw [hW2]; exact setRow_heap w.drew g cur _ 128 _ hg, by omega, hcm, by simp [l2], by rw [show (n - 1) * 1 = (n - 1) by omega]; exact q3⟩⟩, ⟨by rw [hW2]; rfl, by rw [hW2]; rfl, by rw [hW2]; rfl, by rw [hW2]; simp, fun x hx hne' => by rw [hW2]; exact setRow_other w.drew g x _ (fun e => hne' (by rw [e]; rfl))⟩, .inl rfl⟩
  have Hf := hide hfin
  have hcm' : cap ≤ 9223372036854775807 := by unfold maxLen at hcm; omega
  have hin : i ≤ n := by omega
  have hb3 : (i : Int) < (n : Int) := by omega
  have hw1 : ¬ ((i : Int) = (i : Int) + 1) := by omega
  have hic : i ≤ cap := by omega
  have hb1 : (0 : Int) ≤ (i : Int) + 1 := by omega
  have htn : ((i : Int) + 1).toNat = i + 1 := by omega
  have hb5 : (i : Int) + 1 ≤ (n : Int) := by omega
  have hb6 : (i : Int) + 1 ≤ (cap : Int) := by omega
  have hb7 : ¬ (cap = n - 1) := by omega
  have hb8 : n - 1 ≤ n := by omega
  have hb9 : n - 1 ≤ cap := by omega
  have mixed := mixedB
  clear hfin q3 hr1 hr2 hW1 hW2 hg1 hg hx hx1 hcs hxl hdl hcm hsrc hnews l1 l2 hzs hzl hz1c hlen
  go_enter Tryz.func243, Tryz.ntmps243
  go_wp2_with fail
  go_region_law_o (refine step_append_runI rfl _ _ 186 186 rfl (.slice (some ⟨g, 0, none⟩) i cap) (.slice (some A) (n - (i + 1)) (cap - (i + 1))) (by simp [Act.eval, Act.put]) (by simp [Act.eval, Act.put]) (hap _) ?_)
  go_wp2
  go_ret
  exact unhide Hf _ rfl
theorem deleteN_calls (base : Nat) (v : Value) (n i : Nat) (xs : List Value) (w : World) (ho : w.ownsRow base 128 1 v n xs) (hi : i < n) (hn : n ≤ 100) (hx1 : ∀ u ∈ xs, u.oneCell' = true) :
    Calls Tryz.prog 243 #[v, .int .i64 i, .int .i64 ((i : Int) + 1)] w fun e w' => GrowEnd base 128 1 v (n - 1) (xs.take (i) ++ xs.drop (i + 1)) w e w' := by
  rcases ho.2 with ⟨rfl, rfl⟩ | ⟨g, cap, cur, rfl, hbg, hg, hnc, hcm, hcs, hx⟩
  · omega
  · exact deleteN_row base g cap cur n i xs w hi hn hg hbg hnc hcm (by omega) (by rw [← hx, show n * 1 = n by omega]) hx1
end Go.Proofs.YtjpmomklkkifjaaGreatDoor.T
namespace Go.Proofs.YtjpmomklkkifjaaGreatDoor.T
open Go.RowKit Go.Lib
theorem row_shape {w : World} {base : Nat} {e : TypeId} {k : Nat} {v : Value} {n : Nat} {xs : List Value} (h : w.ownsRow base e k v n xs) (hn : 0 < n) : ∃ g cap, v = .slice (some ⟨g, 0, none⟩) n cap ∧ n ≤ cap ∧ cap ≤ 9223372036854775807 := by
  rcases h.2 with ⟨_, rfl⟩ | ⟨g, cap, cur, rfl, _, _, hc, hm, _⟩
  · omega
  · exact ⟨g, cap, rfl, hc, by unfold maxLen at hm; omega⟩
theorem ptrs_one (kids : List Kid) : ∀ u ∈ kids.map (fun y => ptrV y.b), u.oneCell' = true := by
  intro u hu
  obtain ⟨x, _, rfl⟩ := List.mem_map.1 hu
  rfl
theorem ptr_cell {w : World} {base g n cap : Nat} {kids : List Kid} (h : w.ownsRow base 128 1 (.slice (some ⟨g, 0, none⟩) n cap) n (kids.map fun y => ptrV y.b)) {j : Nat} {k : Kid} (hk : kids[j]? = some k) : w.cell? ⟨g, j, none⟩ = some (.pointer (some ⟨k.b, 0, none⟩)) := by
  have hl : kids.length = n := by have := h.1; simpa using this
  have hj : j < kids.length := (List.getElem?_eq_some_iff.1 hk).1
  rw [h.cellAt j (by omega), List.getElem?_map, hk]
  rfl
theorem item_cell {w : World} {base g n cap : Nat} {its : List Item} (h : w.ownsRow base 190 3 (.slice (some ⟨g, 0, none⟩) n cap) n (flat its)) {j : Nat} {x : Item} (hk : its[j]? = some x) : w.cell? ⟨g, j * 3, none⟩ = some (.string x.key) ∧ w.cell? ⟨g, j * 3 + 1, none⟩ = some (.string x.name) ∧ w.cell? ⟨g, j * 3 + 2, none⟩ = some (.int .i64 x.node) := by
  have hl : its.length * 3 = n * 3 := by rw [← h.1, flat_length]
  obtain ⟨hj, rfl⟩ := List.getElem?_eq_some_iff.1 hk
  have h1 := flat_get its j hj
  exact ⟨by rw [h.cellAt _ (by omega)]; exact h1.1, by rw [h.cellAt _ (by omega)]; exact h1.2.1, by rw [h.cellAt _ (by omega)]; exact h1.2.2⟩
section
variable {base : Nat} {w0 w : World} {K0 : Nat → Nat}
theorem Hold.low {rs : List Res} (H : Hold base w0 K0 w rs) {b : Nat} {t : TypeId} {vs : List Value} (hm : Res.cell b t vs ∈ rs) : base ≤ w.heap.size := by
  have := (H.sat _ hm).range b (by show 0 < one b b; rw [one_self]; decide)
  omega
def RowEnd (base : Nat) (w0 : World) (K0 : Nat → Nat) (n : Nat) (f : Value → List Res) (e : Ending) (w' : World) : Prop :=
  ∃ g cap, e = .returned (.slice (some ⟨g, 0, none⟩) n cap) ∧ n ≤ cap ∧ cap ≤ 9223372036854775807 ∧ Hold base w0 K0 w' (f (.slice (some ⟨g, 0, none⟩) n cap))
theorem hold_insertI (l1 : List Res) {v : Value} {a c : List Item} {l2 : List Res} {vb vc : Nat} {m : Item} (H : Hold base w0 K0 w (.cell vb 190 (cellsOf m) :: (l1 ++ rowI v (a ++ c) :: l2))) {i n : Nat} (hi : a.length = i) (hn : (a ++ c).length = n) (hl : n ≤ 100) :
    Calls Tryz.prog 211 #[v, .int .i64 i, .slice (some ⟨vb, 0, none⟩) 1 vc] w fun e w' => RowEnd base w0 K0 (n + 1) (fun v' => l1 ++ rowI v' (a ++ m :: c) :: l2) e w' := by
  have hr : w.ownsRow base 190 3 v n (flat (a ++ c)) := by rw [← hn]; exact H.rowAt (by simp [rowI])
  have hne : v.ownBlock ≠ some vb := fun e => by
    have h1 := H.uniq vb
    simp only [total_cons, total_append, rowI, foot_cell, foot_row, one_self, blkN_self e] at h1
    omega
  have hin : i ≤ n := by rw [← hn, ← hi, List.length_append]; omega
  refine (insertI_calls base v n i (flat (a ++ c)) (cellsOf m) vb vc w hr hin hl (H.low (b := vb) (t := 190) (vs := cellsOf m) (by simp)) (flat_one _) (H.sat (.cell vb 190 (cellsOf m)) (by simp)).2 rfl (fun u hu => flat_one [m] u (by simpa [flat] using hu)) hne).mono ?_
  rintro e w' ⟨v', rfl, hr', hg, ha⟩
  obtain ⟨g, cap, rfl, h1, h2⟩ := row_shape hr' (by omega)
  refine ⟨g, cap, rfl, h1, h2, ?_⟩
  have e1 : (flat (a ++ c)).take (i * 3) ++ cellsOf m ++ (flat (a ++ c)).drop (i * 3) = flat (a ++ m :: c) := by
    rw [flat_take, flat_drop, ← hi, List.take_left, List.drop_left, flat_append, show flat (m :: c) = cellsOf m ++ flat c from rfl, List.append_assoc]
  rw [e1] at hr'
  have h3 := (H.forget []).grow l1 (v := v) hg hr' ha
  have e2 : n + 1 = (a ++ m :: c).length := by rw [← hn]; simp; omega
  show Hold base w0 K0 w' (l1 ++ Res.row _ 190 3 (a ++ m :: c).length (flat (a ++ m :: c)) :: l2)
  rw [← e2]
  exact h3
theorem hold_insertN (l1 : List Res) {v : Value} {a c : List Kid} {l2 : List Res} {vb vc : Nat} {m : Kid} (H : Hold base w0 K0 w (.cell vb 128 [ptrV m.b] :: (l1 ++ rowN v (a ++ c) :: l2))) {i n : Nat} (hi : a.length = i) (hn : (a ++ c).length = n) (hl : n ≤ 100) :
    Calls Tryz.prog 212 #[v, .int .i64 i, .slice (some ⟨vb, 0, none⟩) 1 vc] w fun e w' => RowEnd base w0 K0 (n + 1) (fun v' => l1 ++ rowN v' (a ++ m :: c) :: l2) e w' := by
  have hr : w.ownsRow base 128 1 v n ((a ++ c).map fun y => ptrV y.b) := by rw [← hn]; exact H.rowAt (by simp [rowN])
  have hne : v.ownBlock ≠ some vb := fun e => by
    have h1 := H.uniq vb
    simp only [total_cons, total_append, rowN, foot_cell, foot_row, one_self, blkN_self e] at h1
    omega
  have hin : i ≤ n := by rw [← hn, ← hi, List.length_append]; omega
  refine (insertN_calls base v n i _ [ptrV m.b] vb vc w hr hin hl (H.low (b := vb) (t := 128) (vs := [ptrV m.b]) (by simp)) (ptrs_one _) (H.sat (.cell vb 128 [ptrV m.b]) (by simp)).2 rfl (fun u hu => by simp at hu; subst hu; rfl) hne).mono ?_
  rintro e w' ⟨v', rfl, hr', hg, ha⟩
  obtain ⟨g, cap, rfl, h1, h2⟩ := row_shape hr' (by omega)
  refine ⟨g, cap, rfl, h1, h2, ?_⟩
  have e1 : ((a ++ c).map fun y => ptrV y.b).take i ++ [ptrV m.b] ++ ((a ++ c).map fun y => ptrV y.b).drop i = (a ++ m :: c).map fun y => ptrV y.b := by
    rw [← List.map_take, ← List.map_drop, ← hi, List.take_left, List.drop_left]
    simp
  rw [e1] at hr'
  have h3 := (H.forget []).grow l1 (v := v) hg hr' ha
  have e2 : n + 1 = (a ++ m :: c).length := by rw [← hn]; simp; omega
  show Hold base w0 K0 w' (l1 ++ Res.row _ 128 1 (a ++ m :: c).length ((a ++ m :: c).map fun y => ptrV y.b) :: l2)
  rw [← e2]
  exact h3
theorem hold_cloneI {rs : List Res} (H : Hold base w0 K0 w rs) {g cap n : Nat} {a m c : List Item} (hm : rowI (.slice (some ⟨g, 0, none⟩) n cap) (a ++ m ++ c) ∈ rs) (hb : base ≤ w.heap.size) {o k cc : Nat} (hn : (a ++ m ++ c).length = n) (ho : a.length * 3 = o) (hk : m.length = k) (hk0 : 0 < k) (hl : k ≤ 100) :
    Calls Tryz.prog 152 #[.slice (some ⟨g, o, none⟩) k cc] w fun e w' => RowEnd base w0 K0 k (fun v' => rowI v' m :: rs) e w' := by
  have hr : w.ownsRow base 190 3 (.slice (some ⟨g, 0, none⟩) n cap) n (flat (a ++ m ++ c)) := by have := H.rowAt hm; rwa [hn] at this
  refine (cloneI_calls base g o k cc (flat m) w (by rw [flat_length, hk]) hl hb (fun j u hu => ?_) (flat_one _)).mono ?_
  · have hj := (List.getElem?_eq_some_iff.1 hu).1
    rw [flat_length] at hj
    rw [hr.cellAt (o + j) (by rw [← hn, ← ho]; simp only [List.length_append]; omega), flat_append, flat_append, List.append_assoc, List.getElem?_append_right (by rw [flat_length]; omega), List.getElem?_append_left (by rw [flat_length, flat_length]; omega), flat_length, ← ho, Nat.add_sub_cancel_left]
    exact hu
  · rintro e w' ⟨v', rfl, hr', ha, hbel⟩
    obtain ⟨g', cap', rfl, h1, h2⟩ := row_shape hr' (by omega)
    refine ⟨g', cap', rfl, h1, h2, ?_⟩
    show Hold base w0 K0 w' (Res.row _ 190 3 m.length (flat m) :: rs)
    rw [hk]
    exact H.newRow hbel hr' ha
theorem hold_cloneN {rs : List Res} (H : Hold base w0 K0 w rs) {g cap n : Nat} {a m c : List Kid} (hm : rowN (.slice (some ⟨g, 0, none⟩) n cap) (a ++ m ++ c) ∈ rs) (hb : base ≤ w.heap.size) {o k cc : Nat} (hn : (a ++ m ++ c).length = n) (ho : a.length = o) (hk : m.length = k) (hk0 : 0 < k) (hl : k ≤ 100) :
    Calls Tryz.prog 213 #[.slice (some ⟨g, o, none⟩) k cc] w fun e w' => RowEnd base w0 K0 k (fun v' => rowN v' m :: rs) e w' := by
  have hr : w.ownsRow base 128 1 (.slice (some ⟨g, 0, none⟩) n cap) n ((a ++ m ++ c).map fun y => ptrV y.b) := by have := H.rowAt hm; rwa [hn] at this
  refine (cloneN_calls base g o k cc (m.map fun y => ptrV y.b) w (by rw [List.length_map, hk, Nat.mul_one]) hl hb (fun j u hu => ?_) (ptrs_one _)).mono ?_
  · have hj := (List.getElem?_eq_some_iff.1 hu).1
    rw [List.length_map] at hj
    rw [hr.cellAt (o + j) (by rw [← hn, ← ho]; simp only [List.length_append]; omega), List.map_append, List.map_append, List.append_assoc, List.getElem?_append_right (by rw [List.length_map]; omega), List.getElem?_append_left (by rw [List.length_map, List.length_map]; omega), List.length_map, ← ho, Nat.add_sub_cancel_left]
    exact hu
  · rintro e w' ⟨v', rfl, hr', ha, hbel⟩
    obtain ⟨g', cap', rfl, h1, h2⟩ := row_shape hr' (by omega)
    refine ⟨g', cap', rfl, h1, h2, ?_⟩
    show Hold base w0 K0 w' (Res.row _ 128 1 m.length (m.map fun y => ptrV y.b) :: rs)
    rw [hk]
    exact H.newRow hbel hr' ha
theorem hold_deleteI (l1 : List Res) {g cap n : Nat} {a c : List Item} {m : Item} {l2 : List Res} (H : Hold base w0 K0 w (l1 ++ rowI (.slice (some ⟨g, 0, none⟩) n cap) (a ++ m :: c) :: l2)) {i : Nat} (hi : a.length = i) (hn : (a ++ m :: c).length = n) (hl : n ≤ 100) :
    Calls Tryz.prog 214 #[.slice (some ⟨g, 0, none⟩) n cap, .int .i64 i, .int .i64 ((i : Int) + 1)] w fun e w' => RowEnd base w0 K0 (n - 1) (fun v' => l1 ++ rowI v' (a ++ c) :: l2) e w' := by
  have hr : w.ownsRow base 190 3 (.slice (some ⟨g, 0, none⟩) n cap) n (flat (a ++ m :: c)) := by have := H.rowAt (v := .slice (some ⟨g, 0, none⟩) n cap) (e := 190) (k := 3) (n := (a ++ m :: c).length) (xs := flat (a ++ m :: c)) (by simp [rowI]); rwa [hn] at this
  have hin : i < n := by rw [← hn, ← hi, List.length_append, List.length_cons]; omega
  refine (deleteI_calls base _ n i _ w hr hin hl (flat_one _)).mono ?_
  rintro e w' ⟨v', rfl, hr', hg, ha⟩
  have e1 : (flat (a ++ m :: c)).take (i * 3) ++ (flat (a ++ m :: c)).drop ((i + 1) * 3) = flat (a ++ c) := by
    rw [flat_take, flat_drop, ← hi, List.take_left, flat_append]
    congr 2
    rw [show a ++ m :: c = (a ++ [m]) ++ c by simp, List.drop_append_of_le_length (by simp), List.drop_eq_nil_of_le (by simp), List.nil_append]
  rw [e1] at hr'
  have hblk : ∃ x, v'.ownBlock = some x := by
    rcases ha with ha | ⟨x, ha, _⟩
    · exact ⟨g, ha⟩
    · exact ⟨x, ha⟩
  obtain ⟨g', cap', rfl, h1, h2⟩ : ∃ g' cap', v' = .slice (some ⟨g', 0, none⟩) (n - 1) cap' ∧ n - 1 ≤ cap' ∧ cap' ≤ 9223372036854775807 := by
    rcases hr'.2 with ⟨rfl, _⟩ | ⟨g', cap', cur, rfl, _, _, h1, h2, _⟩
    · obtain ⟨x, hx⟩ := hblk; cases hx
    · exact ⟨g', cap', rfl, h1, by unfold maxLen at h2; omega⟩
  refine ⟨g', cap', rfl, h1, h2, ?_⟩
  have h3 := H.grow l1 hg hr' ha
  have e2 : n - 1 = (a ++ c).length := by rw [← hn]; simp only [List.length_append, List.length_cons]; omega
  show Hold base w0 K0 w' (l1 ++ Res.row _ 190 3 (a ++ c).length (flat (a ++ c)) :: l2)
  rw [← e2]
  exact h3
theorem hold_deleteN (l1 : List Res) {g cap n : Nat} {a c : List Kid} {m : Kid} {l2 : List Res} (H : Hold base w0 K0 w (l1 ++ rowN (.slice (some ⟨g, 0, none⟩) n cap) (a ++ m :: c) :: l2)) {i : Nat} (hi : a.length = i) (hn : (a ++ m :: c).length = n) (hl : n ≤ 100) :
    Calls Tryz.prog 243 #[.slice (some ⟨g, 0, none⟩) n cap, .int .i64 i, .int .i64 ((i : Int) + 1)] w fun e w' => RowEnd base w0 K0 (n - 1) (fun v' => l1 ++ rowN v' (a ++ c) :: l2) e w' := by
  have hr : w.ownsRow base 128 1 (.slice (some ⟨g, 0, none⟩) n cap) n ((a ++ m :: c).map fun y => ptrV y.b) := by have := H.rowAt (v := .slice (some ⟨g, 0, none⟩) n cap) (e := 128) (k := 1) (n := (a ++ m :: c).length) (xs := (a ++ m :: c).map fun y => ptrV y.b) (by simp [rowN]); rwa [hn] at this
  have hin : i < n := by rw [← hn, ← hi, List.length_append, List.length_cons]; omega
  refine (deleteN_calls base _ n i _ w hr hin hl (ptrs_one _)).mono ?_
  rintro e w' ⟨v', rfl, hr', hg, ha⟩
  have e1 : ((a ++ m :: c).map fun y => ptrV y.b).take i ++ ((a ++ m :: c).map fun y => ptrV y.b).drop (i + 1) = (a ++ c).map fun y => ptrV y.b := by
    rw [← List.map_take, ← List.map_drop, ← hi, List.take_left, List.map_append]
    congr 2
    rw [show a ++ m :: c = (a ++ [m]) ++ c by simp, List.drop_append_of_le_length (by simp), List.drop_eq_nil_of_le (by simp), List.nil_append]
  rw [e1] at hr'
  have hblk : ∃ x, v'.ownBlock = some x := by
    rcases ha with ha | ⟨x, ha, _⟩
    · exact ⟨g, ha⟩
    · exact ⟨x, ha⟩
  obtain ⟨g', cap', rfl, h1, h2⟩ : ∃ g' cap', v' = .slice (some ⟨g', 0, none⟩) (n - 1) cap' ∧ n - 1 ≤ cap' ∧ cap' ≤ 9223372036854775807 := by
    rcases hr'.2 with ⟨rfl, _⟩ | ⟨g', cap', cur, rfl, _, _, h1, h2, _⟩
    · obtain ⟨x, hx⟩ := hblk; cases hx
    · exact ⟨g', cap', rfl, h1, by unfold maxLen at h2; omega⟩
  refine ⟨g', cap', rfl, h1, h2, ?_⟩
  have h3 := H.grow l1 hg hr' ha
  have e2 : n - 1 = (a ++ c).length := by rw [← hn]; simp only [List.length_append, List.length_cons]; omega
  show Hold base w0 K0 w' (l1 ++ Res.row _ 128 1 (a ++ c).length ((a ++ c).map fun y => ptrV y.b) :: l2)
  rw [← e2]
  exact h3
end
end Go.Proofs.YtjpmomklkkifjaaGreatDoor.T
