import Derived.Test.YtjpmomklkkifjaaGreatDoorCBSearch
import Derived.Shelf.Spec.SlicesInsert
import Derived.Lib.AppendZerosOnto
import Derived.Lib.Overlaps
import Derived.Laws.Externs
import Derived.Lib.SliceRun
import Derived.Shelf.RegionOpenPlain
import Derived.Deep.RegionLaw
set_option maxRecDepth 100000
set_option linter.unusedVariables false
set_option linter.unusedSimpArgs false
namespace Go.Proofs.YtjpmomklkkifjaaGreatDoor.T
open Go.RowKit Go.Lib
theorem run_copy_rowK {P : Program} (w : World) (dT sT ty elem : TypeId) (g o dLen dCap : Nat) (a : Addr) (sLen sCap : Nat) (cur : Array Value) (t : TypeId) (cs : List Value) (k m : Nat)
    (hu : P.underlying dT = some (.slice elem)) (hs : ∀ w, (Go.sizeOf elem).run P w = .ok k w)
    (hg : w.heap[g]? = some (.cells cur t (0, 0))) (hm : Nat.min sLen dLen = m) (hn : cs.length = m * k)
    (hsrc : ∀ j v, cs[j]? = some v → w.cell? (a.add j) = some v) (hfit : o + cs.length ≤ cur.size) (h1 : ∀ v ∈ cs, v.oneCell' = true) :
    (Builtin.copy_ #[dT, sT] ty #[.slice (some ⟨g, o, none⟩) dLen dCap, .slice (some a) sLen sCap]).run P w =
      .ok (goInt m) (w.setRow g (cur.toList.take o ++ cs ++ cur.toList.drop (o + cs.length)).toArray) := by
  have hl := run_firstCells_some (P := P) w k m a sLen sCap cs hn hsrc
  have hst := run_storeCells_at P g o t cs 0 cur w hg (by simpa using hfit) h1
  simp [Builtin.copy_, run_underlying hu, Builtin.lenOf, hs, hm, hl, hst]
theorem run_clear_rowK {P : Program} (w : World) (t e ty : TypeId) (z : Value) (ht : P.underlying t = some (.slice e)) (hv : ∀ w, (zeroValue e).run P w = .ok z w) (g o n c : Nat) (cur : Array Value) (te : TypeId) (cs : List Value) (hcs : (Builtin.zeroCells z.cells n).toList = cs) (hn : 0 < n)
    (hg : w.heap[g]? = some (.cells cur te (0, 0))) (hfit : o + cs.length ≤ cur.size) (h1 : ∀ v ∈ cs, v.oneCell' = true) :
    (Builtin.clear_ #[t] ty #[.slice (some ⟨g, o, none⟩) n c]).run P w = .ok (.tuple #[]) (w.setRow g (cur.toList.take o ++ cs ++ cur.toList.drop (o + cs.length)).toArray) := by
  have hst := run_storeCells_at P g o te cs 0 cur w hg (by simpa using hfit) h1
  obtain ⟨n', rfl⟩ : ∃ n', n = n' + 1 := ⟨n - 1, by omega⟩
  simp [Builtin.clear_, run_underlying ht, hv, hcs, hst]
theorem row_cell {w : World} {g : Nat} {cur : Array Value} {t : TypeId} (hg : w.heap[g]? = some (.cells cur t (0, 0))) {xs : List Value} {n : Nat} (hx : cur.toList.take n = xs) {j : Nat} {u : Value} (h : xs[j]? = some u) : w.cell? ⟨g, j, none⟩ = some u := by
  rw [cell_of_row w g j cur t (0, 0) hg]
  rw [← hx, List.getElem?_take] at h
  split at h
  · simpa using h
  · cases h
def shift1 (cur xs : List Value) (a b : Nat) : List Value := cur.take b ++ xs.drop a ++ cur.drop (b + (xs.drop a).length)
def shift2 (r news : List Value) (a : Nat) : List Value := r.take a ++ news ++ r.drop (a + news.length)
theorem shift_row (cur xs news : List Value) (a N k : Nat) (hx : cur.take N = xs) (ha : a ≤ N) (hl : news.length = k) (hc : N + k ≤ cur.length) :
    (shift1 cur xs a (a + k)).length = cur.length ∧ (shift2 (shift1 cur xs a (a + k)) news a).length = cur.length ∧ (shift2 (shift1 cur xs a (a + k)) news a).take (N + k) = xs.take a ++ news ++ xs.drop a := by
  have hxl : xs.length = N := by rw [← hx, List.length_take]; omega
  have hd : (xs.drop a).length = N - a := by rw [List.length_drop, hxl]
  have l1 : (shift1 cur xs a (a + k)).length = cur.length := by
    unfold shift1
    simp only [List.length_append, List.length_take, List.length_drop, hxl]
    omega
  have l2 : (shift2 (shift1 cur xs a (a + k)) news a).length = cur.length := by
    unfold shift2
    simp only [List.length_append, List.length_take, List.length_drop, l1, hl]
    omega
  refine ⟨l1, l2, ?_⟩
  have e1 : (shift1 cur xs a (a + k)).take a = xs.take a := by
    unfold shift1
    rw [List.append_assoc, List.take_append_of_le_length (by rw [List.length_take]; omega), List.take_take, ← hx, List.take_take]
    congr 1
    omega
  have e2 : (shift1 cur xs a (a + k)).drop (a + k) = xs.drop a ++ cur.drop (N + k) := by
    unfold shift1
    rw [List.append_assoc, List.drop_append_of_le_length (by rw [List.length_take]; omega), List.drop_eq_nil_of_le (by rw [List.length_take]; omega), List.nil_append, hd]
    congr 2
    omega
  unfold shift2
  rw [e1, hl, e2, ← List.append_assoc, List.take_append_of_le_length (by simp only [List.length_append, List.length_take, hd, hl, hxl]; omega), List.take_of_length_le (by simp only [List.length_append, List.length_take, hd, hl, hxl]; omega)]
theorem grow_row (R xs news tail : List Value) (a N k : Nat) (hxl : xs.length = N) (ha : a ≤ N) (hl : news.length = k) (hR : R.length = N + k - a + tail.length) :
    (shift2 (xs.take a ++ R) news a).length = N + k + tail.length ∧ (shift1 (shift2 (xs.take a ++ R) news a) xs a (a + k)).length = N + k + tail.length ∧
      (shift1 (shift2 (xs.take a ++ R) news a) xs a (a + k)).take (N + k) = xs.take a ++ news ++ xs.drop a := by
  have h0 : (xs.take a).length = a := by rw [List.length_take]; omega
  have hd : (xs.drop a).length = N - a := by rw [List.length_drop, hxl]
  have e0 : (xs.take a ++ R).take a = xs.take a := by
    rw [List.take_append_of_le_length (by omega), List.take_take]
    congr 1
    omega
  have l1 : (shift2 (xs.take a ++ R) news a).length = N + k + tail.length := by
    unfold shift2
    simp only [List.length_append, List.length_take, List.length_drop, hl, hR, hxl]
    omega
  have e1 : (shift2 (xs.take a ++ R) news a).take (a + k) = xs.take a ++ news := by
    unfold shift2
    rw [e0, List.take_append_of_le_length (by rw [List.length_append, h0, hl]; omega), List.take_of_length_le (by rw [List.length_append, h0, hl]; omega)]
  refine ⟨l1, ?_, ?_⟩
  · unfold shift1
    simp only [List.length_append, List.length_take, List.length_drop, l1, hxl]
    omega
  · unfold shift1
    rw [e1, List.take_append_of_le_length (by simp only [List.length_append, h0, hd, hl]; omega), List.take_of_length_le (by simp only [List.length_append, h0, hd, hl]; omega)]
theorem mixedB : Tryz.prog.follows Departure.mixedOrders = true := by kernel_rfl
theorem info58 : (Tryz.prog.info? 190).map (fun i => (i.zero, i.size, i.bytes)) = some (some (.agg #[.string ⟨#[]⟩, .string ⟨#[]⟩, .int .i64 0]), 3, 40) := by kernel_rfl
theorem info49 : (Tryz.prog.info? 128).map (fun i => (i.zero, i.size, i.bytes)) = some (some (.pointer none), 1, 8) := by kernel_rfl
def GrowEnd (base : Nat) (e : TypeId) (k : Nat) (v : Value) (n : Nat) (ys : List Value) (w : World) (en : Ending) (w' : World) : Prop :=
  ∃ v', en = .returned v' ∧ w'.ownsRow base e k v' n ys ∧ w.grownBy w' v.ownBlock ∧ (v'.ownBlock = v.ownBlock ∨ ∃ x, v'.ownBlock = some x ∧ w.heap.size ≤ x)
def CloneEnd (base : Nat) (e : TypeId) (k n : Nat) (ys : List Value) (w : World) (en : Ending) (w' : World) : Prop :=
  ∃ v', en = .returned v' ∧ w'.ownsRow base e k v' n ys ∧ (∃ x, v'.ownBlock = some x ∧ w.heap.size ≤ x) ∧ Below w.heap.size w w'
theorem ownsRow_base {w : World} {base base' : Nat} {e : TypeId} {k : Nat} {v : Value} {n : Nat} {xs : List Value} (h : w.ownsRow base e k v n xs) (hb : base' ≤ base) : w.ownsRow base' e k v n xs := by
  refine ⟨h.1, ?_⟩
  rcases h.2 with h2 | ⟨g, cap, cur, hv, hg, r⟩
  · exact .inl h2
  · exact .inr ⟨g, cap, cur, hv, Nat.le_trans hb hg, r⟩
theorem step_append_runI {P : Program} {ops : Array Oper} {o : Oper} {a : Act} {w : World} {K : Act → World → Prop} {Q : Exit → Act → World → Prop} {E : Prop}
    (hg : o.guard = none) (d x : Operand) (dT sT : TypeId) (hop : o.op = Op.call { callee := Callee.builtin Builtin.append, args := #[d, x], argTypes := #[dT, sT] })
    (v u : Value) (hd : a.eval d = v) (hx : a.eval x = u) {v' : Value} {w' : World} (hr : (Builtin.append_ #[dT, sT] o.type #[v, u]).run P w = .ok v' w') (hK : K (a.put o.dst v') w') :
    if Region.wanted o (yielded ops a.tmps) = true then Oper.wp P o a w K Q else E := by
  have hw : Region.wanted o (yielded ops a.tmps) = true := by simp [Region.wanted, hg]
  rw [if_pos hw]
  unfold Oper.wp
  simp [execOp, hop, resolve, invoke, builtin, hd, hx, hr, Result.andThen]
  exact hK
end Go.Proofs.YtjpmomklkkifjaaGreatDoor.T
namespace Go.Proofs.YtjpmomklkkifjaaGreatDoor.T
open Go.RowKit Go.Lib
theorem insertI_end (base : Nat) (v : Value) (n : Nat) (xs news : List Value) (vb vc : Nat) (w : World) (ho : w.ownsRow base 190 3 v n xs) (hn : n ≤ 100) (hb : base ≤ w.heap.size)
    (hv : w.heap[vb]? = some (.cells news.toArray 190 (0, 0))) (hl : news.length = 1 * 3) (h1 : ∀ u ∈ news, u.oneCell' = true) :
    Calls Tryz.prog 211 #[v, .int .i64 n, .slice (some ⟨vb, 0, none⟩) 1 vc] w fun e w' => GrowEnd base 190 3 v (n + 1) (xs ++ news) w e w' := by
  obtain ⟨i0, hi, hz0, hz1, hz2⟩ := info_parts info58
  have hc : ∀ j u, news[j]? = some u → w.cell? ((⟨vb, 0, none⟩ : Addr).add j) = some u := fun j u hj => by
    rw [Addr.add_lit, Nat.zero_add]
    exact row_cell hv (n := news.length) (by simp) hj
  have HO := hide ho
  have HC := hide hc
  have HL := hide hl
  have H1 := hide h1
  have HB := hide hb
  rcases ho.2 with ⟨rfl, rfl⟩ | ⟨g, cap, cur, rfl, _, _, hnc, hcm, _⟩
  · clear ho hc hl h1 hv hb
    go_enter Tryz.func211, Tryz.ntmps211
    go_wp2_with (at_builtin; refine wpList_append_own_at _ rfl _ _ 185 rfl base 190 i0 (.agg #[.string ⟨#[]⟩, .string ⟨#[]⟩, .int .i64 0]) 3 40 Tryz.underlying185 hi hz0 hz1 hz2 rfl (by decide) _ _ _ rfl (unhide HO) ⟨vb, 0, none⟩ 1 vc news rfl (unhide HL) (unhide HC) (unhide H1) (by unfold maxLen; omega) (by omega) (unhide HB) ?_; intro v4 w4 hown4 hgrow4 hnil4 hat4)
    have Ho := hide hown4
    have Hg := hide hgrow4
    have Ha := hide hat4
    clear hown4 hgrow4 hnil4 hat4
    go_wp2_with fail
    go_ret
    exact ⟨v4, rfl, unhide Ho, unhide Hg, by rcases unhide Ha with h | h; exact .inl h; exact .inr ⟨_, h, Nat.le_refl _⟩⟩
  · unfold maxLen at hcm
    clear ho hc hl h1 hv hb
    go_enter Tryz.func211, Tryz.ntmps211
    go_wp2_with (at_builtin; refine wpList_append_own_at _ rfl _ _ 185 rfl base 190 i0 (.agg #[.string ⟨#[]⟩, .string ⟨#[]⟩, .int .i64 0]) 3 40 Tryz.underlying185 hi hz0 hz1 hz2 rfl (by decide) _ _ _ rfl (unhide HO) ⟨vb, 0, none⟩ 1 vc news rfl (unhide HL) (unhide HC) (unhide H1) (by unfold maxLen; omega) (by omega) (unhide HB) ?_; intro v4 w4 hown4 hgrow4 hnil4 hat4)
    all_goals
      have Ho := hide hown4
      have Hg := hide hgrow4
      have Ha := hide hat4
      clear hown4 hgrow4 hnil4 hat4
      go_wp2_with fail
      go_ret
      exact ⟨v4, rfl, unhide Ho, unhide Hg, by rcases unhide Ha with h | h; exact .inl h; exact .inr ⟨_, h, Nat.le_refl _⟩⟩
theorem insertI_shift (base : Nat) (g cap : Nat) (cur : Array Value) (n i : Nat) (xs news : List Value) (vb vc : Nat) (w : World) (hi : i < n) (hn : n ≤ 100) (hg : w.heap[g]? = some (.cells cur 190 (0, 0))) (hbg : base ≤ g) (hroom : n + 1 ≤ cap) (hcm : cap ≤ maxLen) (hcs : cur.size = cap * 3) (hx : cur.toList.take (n * 3) = xs) (hx1 : ∀ u ∈ xs, u.oneCell' = true)
    (hv : w.heap[vb]? = some (.cells news.toArray 190 (0, 0))) (hl : news.length = 1 * 3) (h1 : ∀ u ∈ news, u.oneCell' = true) (hne : vb ≠ g) :
    Calls Tryz.prog 211 #[.slice (some ⟨g, 0, none⟩) n cap, .int .i64 i, .slice (some ⟨vb, 0, none⟩) 1 vc] w fun e w' => GrowEnd base 190 3 (.slice (some ⟨g, 0, none⟩) n cap) (n + 1) (xs.take (i * 3) ++ news ++ xs.drop (i * 3)) w e w' := by
  have hsh : ∀ lb cb, (callFunc 229 #[.slice (some ⟨vb, 0, none⟩) 1 vc, .slice (some ⟨g, (i + 1) * 3, none⟩) lb cb]).run Tryz.prog w = .ok (.value (.bool false)) w := fun lb cb => by
    rw [run_callFunc_extern Tryz.func229 (by kernel_rfl) (by kernel_rfl) (by kernel_rfl) (e := Extern.SlicesOverlaps.overlaps #[185, 185] #[4]) (by kernel_rfl),
      Lib.run_overlaps_apart w 185 4 190 Tryz.underlying185 3 Tryz.sizeOf190 ⟨vb, 0, none⟩ ⟨g, (i + 1) * 3, none⟩ 1 vc lb cb hne 190 190 news.toArray.size cur.size (by simp [World.shape?, hv]) (by simp [World.shape?, hg]) (by omega) (by simp [World.frozen?, hv]) (by simp [World.frozen?, hv])]
    rfl
  have hxl : xs.length = n * 3 := by rw [← hx, List.length_take, Array.length_toList]; omega
  have hdl : (xs.drop (i * 3)).length = (n - i) * 3 := by rw [List.length_drop, hxl]; try omega
  obtain ⟨r1, hr1⟩ : ∃ r1, r1 = shift1 cur.toList xs (i * 3) ((i + 1) * 3) := ⟨_, rfl⟩
  obtain ⟨r2, hr2⟩ : ∃ r2, r2 = shift2 r1 news (i * 3) := ⟨_, rfl⟩
  have hsr := shift_row cur.toList xs news (i * 3) (n * 3) 3 hx (by omega) (by omega) (by rw [Array.length_toList]; omega)
  rw [show i * 3 + 3 = (i + 1) * 3 by omega, ← hr1, ← hr2] at hsr
  obtain ⟨q1, q2, q3⟩ := hsr
  have hcp1 : ∀ ty dc sc, (Builtin.copy_ #[185, 185] ty #[.slice (some ⟨g, (i + 1) * 3, none⟩) (n + 1 - (i + 1)) dc, .slice (some ⟨g, i * 3, none⟩) (n + 1 - i) sc]).run Tryz.prog w.drew = .ok (goInt ↑(n - i)) (w.drew.setRow g r1.toArray) := fun ty dc sc => by
    rw [run_copy_rowK w.drew 185 185 ty 190 g ((i + 1) * 3) (n + 1 - (i + 1)) dc ⟨g, i * 3, none⟩ (n + 1 - i) sc cur 190 (xs.drop (i * 3)) 3 (n - i) Tryz.underlying185 Tryz.sizeOf190 hg (by simp only [Nat.min_def]; split <;> omega) (by omega)
      (fun j u hj => by rw [Addr.add_lit]; exact row_cell (w := w.drew) hg hx (by rwa [List.getElem?_drop] at hj)) (by rw [hdl, hcs]; omega) (fun u hu => hx1 u (List.mem_of_mem_drop hu)), hr1]
    rfl
  have hg1 : (w.drew.setRow g r1.toArray).heap[g]? = some (.cells r1.toArray 190 (0, 0)) := setRow_heap w.drew g cur _ 190 _ hg
  have hv1 : (w.drew.setRow g r1.toArray).heap[vb]? = some (.cells news.toArray 190 (0, 0)) := (setRow_other w.drew g vb _ hne).trans hv
  have hcp2 : ∀ ty dc, (Builtin.copy_ #[185, 185] ty #[.slice (some ⟨g, i * 3, none⟩) (n + 1 - i) dc, .slice (some ⟨vb, 0, none⟩) 1 vc]).run Tryz.prog (w.drew.setRow g r1.toArray) = .ok (goInt ↑(1 : Nat)) (w.drew.setRow g r2.toArray) := fun ty dc => by
    rw [run_copy_rowK (w.drew.setRow g r1.toArray) 185 185 ty 190 g (i * 3) (n + 1 - i) dc ⟨vb, 0, none⟩ 1 vc r1.toArray 190 news 3 1 Tryz.underlying185 Tryz.sizeOf190 hg1 (by simp only [Nat.min_def]; split <;> omega) (by omega)
      (fun j u hj => by rw [Addr.add_lit, Nat.zero_add]; exact row_cell hv1 (n := news.length) (by simp) hj) (by simp only [List.size_toArray, q1, Array.length_toList]; omega) h1, setRow_setRow, hr2]
    rfl
  obtain ⟨W1, hW1⟩ : ∃ W1, W1 = w.drew.setRow g r1.toArray := ⟨_, rfl⟩
  obtain ⟨W2, hW2⟩ : ∃ W2, W2 = w.drew.setRow g r2.toArray := ⟨_, rfl⟩
  rw [← hW1] at hcp1
  rw [← hW1, ← hW2] at hcp2
  have hfin : ∀ v', v' = .slice (some ⟨g, 0, none⟩) (n + 1) cap → GrowEnd base 190 3 (.slice (some ⟨g, 0, none⟩) n cap) (n + 1) (xs.take (i * 3) ++ news ++ xs.drop (i * 3)) w (.returned v') W2 := by
    rintro v' rfl
    refine ⟨_, rfl, ⟨by rw [← q3, List.length_take, q2, Array.length_toList]; omega, .inr ⟨g, cap, r2.toArray, rfl, hbg, by rw [hW2]; exact setRow_heap w.drew g cur _ 190 _ hg, hroom, hcm, by simp [q2, hcs], by rw [show (n + 1) * 3 = n * 3 + 3 by omega]; exact q3⟩⟩, ⟨by rw [hW2]; rfl, by rw [hW2]; rfl, by rw [hW2]; rfl, by rw [hW2]; simp, fun x hx hne' => by rw [hW2]; exact setRow_other w.drew g x _ (fun e => hne' (by rw [e]; rfl))⟩, .inl rfl⟩
  have Hf := hide hfin
  have hcm' : cap ≤ 9223372036854775807 := by unfold maxLen at hcm; omega
  have hz1 : ¬ ((i : Int) = (n : Int)) := by omega
  have hin : i ≤ n := by omega
  have hb2 : ¬ (cap = i + 1) := by omega
  have hb4 : ¬ (cap = i) := by omega
  have hb3 : (i : Int) ≤ (n : Int) + 1 := by omega
  have hw1 : IntKind.i64.wrap ((i : Int) + 1) = (i : Int) + 1 := by rw [IntKind.wrap_i64]; omega
  have hb1 : (0 : Int) ≤ (i : Int) + 1 := by omega
  have htn : ((i : Int) + 1).toNat = i + 1 := by omega
  clear hfin q1 q2 q3 hr1 hr2 hW1 hW2 hg1 hv1 hg hv hl h1 hx hx1 hcs hxl hdl hcm
  go_enter Tryz.func211, Tryz.ntmps211
  go_wp2_with (simp only [hsh])
  have mixed := mixedB
  go_region_law_o (refine step_copy_runI rfl _ _ 185 185 rfl (.slice (some ⟨g, (i + 1) * 3, none⟩) (n + 1 - (i + 1)) (cap - (i + 1))) (.slice (some ⟨g, i * 3, none⟩) (n + 1 - i) (cap - i)) (by simp [Act.eval, Act.put]) (by simp [Act.eval, Act.put]) (hcp1 _ _ _) ?_)
  go_wp2_with (at_builtin; refine wpList_copy_runI _ rfl _ _ 185 185 rfl _ _ rfl rfl (hcp2 _ _) ?_)
  go_ret
  exact unhide Hf _ rfl
theorem insertI_grow (base : Nat) (g cap : Nat) (cur : Array Value) (n i : Nat) (xs news : List Value) (vb vc : Nat) (w : World) (hi : i < n) (hn : n ≤ 100) (hb : base ≤ w.heap.size) (hg : w.heap[g]? = some (.cells cur 190 (0, 0))) (hnc : n ≤ cap) (hroom : cap < n + 1) (hx : cur.toList.take (n * 3) = xs) (hxl : xs.length = n * 3) (hx1 : ∀ u ∈ xs, u.oneCell' = true)
    (hv : w.heap[vb]? = some (.cells news.toArray 190 (0, 0))) (hl : news.length = 1 * 3) (h1 : ∀ u ∈ news, u.oneCell' = true) :
    Calls Tryz.prog 211 #[.slice (some ⟨g, 0, none⟩) n cap, .int .i64 i, .slice (some ⟨vb, 0, none⟩) 1 vc] w fun e w' => GrowEnd base 190 3 (.slice (some ⟨g, 0, none⟩) n cap) (n + 1) (xs.take (i * 3) ++ news ++ xs.drop (i * 3)) w e w' := by
  obtain ⟨i0, hi0, hz0, hz1, hz2⟩ := info_parts info58
  have hgw : g < w.heap.size := (Array.getElem?_eq_some_iff.1 hg).1
  have hvw : vb < w.heap.size := (Array.getElem?_eq_some_iff.1 hv).1
  have hkk : (n : Int) + 1 - (i : Int) = ((n + 1 - i : Nat) : Int) := by omega
  have hik : i + (n + 1 - i) = n + 1 := by omega
  have hold : (Builtin.firstCells i0.size i (.slice (some ⟨g, 0, none⟩) i cap)).run Tryz.prog w.drew = .ok (xs.take (i * 3)).toArray w.drew := by
    rw [hz1]
    exact run_firstCells_some w.drew 3 i ⟨g, 0, none⟩ i cap (xs.take (i * 3)) (by rw [List.length_take]; omega) (fun j u hj => by
      rw [Addr.add_lit, Nat.zero_add]
      rw [List.getElem?_take] at hj
      split at hj
      · exact row_cell (w := w.drew) hg hx hj
      · cases hj)
  obtain ⟨G, hG⟩ : ∃ G, G = grownCap w (n + 1) cap 190 := ⟨_, rfl⟩
  have hGn : n + 1 ≤ G := by rw [hG]; exact grownCap_ge w _ _ _
  have hG63 : G ≤ maxLen := by rw [hG]; exact grownCap_le_maxLen w (n + 1) cap 190 (by unfold maxLen; omega)
  obtain ⟨R, hR⟩ : ∃ R : List Value, R = (Builtin.zeroCells (Value.cells (.agg #[.string ⟨#[]⟩, .string ⟨#[]⟩, .int .i64 0])) (n + 1 - i) ++ Builtin.zeroCells (Value.cells (.agg #[.string ⟨#[]⟩, .string ⟨#[]⟩, .int .i64 0])) (G - (n + 1))).toList := ⟨_, rfl⟩
  have hRl : R.length = n * 3 + 3 - i * 3 + (G - (n + 1)) * 3 := by
    rw [hR]
    simp [size_zeroCells, Value.cells]
    try omega
  have hrz : ∀ ty, (Builtin.append_ #[185, 3] ty #[.slice (some ⟨g, 0, none⟩) i cap, .int .i64 ((n : Int) + 1 - (i : Int))]).run Tryz.prog w =
      .ok (.slice (some ⟨w.heap.size, 0, none⟩) (n + 1) G) (w.drew.alloc (.cells (xs.take (i * 3) ++ R).toArray 190)) := fun ty => by
    have h := Lib.run_append_grow_zeros w 185 3 ty 190 i0 _ .i64 .i64 Tryz.underlying185 Tryz.underlying3 hi0 hz0 (some ⟨g, 0, none⟩) i cap (xs.take (i * 3)) hold (n + 1 - i) (by omega) (by omega) (by omega) (by omega) (by rw [hz2]; omega) (by rw [hz2, hik]; exact growslice_fits hroom (by omega))
    rw [hik, ← hG] at h
    rw [hkk, h, hR]
    congr 3
    apply Array.toList_inj.1
    simp
  obtain ⟨r1, hr1⟩ : ∃ r1, r1 = shift2 (xs.take (i * 3) ++ R) news (i * 3) := ⟨_, rfl⟩
  obtain ⟨r2, hr2⟩ : ∃ r2, r2 = shift1 r1 xs (i * 3) ((i + 1) * 3) := ⟨_, rfl⟩
  have hsr := grow_row R xs news (List.replicate ((G - (n + 1)) * 3) default) (i * 3) (n * 3) 3 hxl (by omega) (by omega) (by rw [List.length_replicate]; omega)
  rw [show i * 3 + 3 = (i + 1) * 3 by omega, ← hr1, ← hr2, List.length_replicate] at hsr
  obtain ⟨q1, q2, q3⟩ := hsr
  have hdl : (xs.drop (i * 3)).length = (n - i) * 3 := by rw [List.length_drop, hxl]; try omega
  obtain ⟨WA, hWA⟩ : ∃ WA, WA = w.drew.alloc (.cells (xs.take (i * 3) ++ R).toArray 190) := ⟨_, rfl⟩
  have hWs : WA.heap[w.heap.size]? = some (.cells (xs.take (i * 3) ++ R).toArray 190 (0, 0)) := by rw [hWA]; exact heap_alloc_new w.drew _
  have hWo : ∀ x, x < w.heap.size → WA.heap[x]? = w.heap[x]? := fun x hx => by rw [hWA]; exact Below.heap_alloc w.drew _ x hx
  have hcpA : ∀ (W : World), W.heap = WA.heap → ∀ ty dc, (Builtin.copy_ #[185, 185] ty #[.slice (some ⟨w.heap.size, i * 3, none⟩) (n + 1 - i) dc, .slice (some ⟨vb, 0, none⟩) 1 vc]).run Tryz.prog W = .ok (goInt ↑(1 : Nat)) (W.setRow w.heap.size r1.toArray) := fun W hW ty dc => by
    rw [run_copy_rowK W 185 185 ty 190 w.heap.size (i * 3) (n + 1 - i) dc ⟨vb, 0, none⟩ 1 vc _ 190 news 3 1 Tryz.underlying185 Tryz.sizeOf190 (by rw [hW]; exact hWs) (by simp only [Nat.min_def]; split <;> omega) (by omega)
      (fun j u hj => by rw [Addr.add_lit, Nat.zero_add]; exact row_cell (by rw [hW, hWo vb hvw]; exact hv) (n := news.length) (by simp) hj) (by simp only [List.size_toArray, List.length_append, List.length_take, hxl, hRl]; omega) h1, hr1]
    rfl
  have hcpB : ∀ (W : World), W.heap = (WA.setRow w.heap.size r1.toArray).heap → ∀ ty dc sc, (Builtin.copy_ #[185, 185] ty #[.slice (some ⟨w.heap.size, (i + 1) * 3, none⟩) (n + 1 - (i + 1)) dc, .slice (some ⟨g, i * 3, none⟩) (n - i) sc]).run Tryz.prog W = .ok (goInt ↑(n - i)) (W.setRow w.heap.size r2.toArray) := fun W hW ty dc sc => by
    rw [run_copy_rowK W 185 185 ty 190 w.heap.size ((i + 1) * 3) (n + 1 - (i + 1)) dc ⟨g, i * 3, none⟩ (n - i) sc r1.toArray 190 (xs.drop (i * 3)) 3 (n - i) Tryz.underlying185 Tryz.sizeOf190 (by rw [hW]; exact setRow_heap WA _ _ _ 190 _ hWs) (by simp only [Nat.min_def]; split <;> omega) (by omega)
      (fun j u hj => by
        rw [Addr.add_lit]
        exact row_cell (by rw [hW, setRow_other _ _ g _ (by omega), hWo g hgw]; exact hg) hx (by rwa [List.getElem?_drop] at hj))
      (by simp only [List.size_toArray, q1, hdl]; omega) (fun u hu => hx1 u (List.mem_of_mem_drop hu)), hr2]
    rfl
  have hfin : ∀ v' W', W'.heap = ((WA.setRow w.heap.size r1.toArray).setRow w.heap.size r2.toArray).heap → W'.os = w.os → W'.tape = w.tape → W'.output = w.output → v' = .slice (some ⟨w.heap.size, 0, none⟩) (n + 1) G → GrowEnd base 190 3 (.slice (some ⟨g, 0, none⟩) n cap) (n + 1) (xs.take (i * 3) ++ news ++ xs.drop (i * 3)) w (.returned v') W' := by
    rintro v' W' hW h2 h3 h4 rfl
    have hsz : W'.heap.size = w.heap.size + 1 := by rw [hW, hWA]; simp
    refine ⟨_, rfl, ⟨by rw [← q3, List.length_take, q2]; omega, .inr ⟨w.heap.size, G, r2.toArray, rfl, hb, by rw [hW, setRow_setRow]; exact setRow_heap WA _ _ _ 190 _ hWs, hGn, hG63, by simp [q2]; omega, by rw [show (n + 1) * 3 = n * 3 + 3 by omega]; exact q3⟩⟩, ⟨h2, h3, h4, by omega, fun x hx hne' => by rw [hW, setRow_setRow, setRow_other _ _ x _ (by omega), hWo x hx]⟩, .inr ⟨_, rfl, Nat.le_refl _⟩⟩
  have Hf := hide hfin
  have hG63' : G ≤ 9223372036854775807 := by unfold maxLen at hG63; omega
  have hz2' : ¬ ((i : Int) = (n : Int)) := by omega
  have hz3 : (cap : Int) < (n : Int) + 1 := by omega
  have hin : i ≤ n := by omega
  have hGi : ¬ (G = i) := by omega
  have hGim : ¬ (G = i + 1) := by omega
  have hci : ¬ (cap = i) := by omega
  have hb3 : (i : Int) ≤ (n : Int) := by omega
  have hw1 : IntKind.i64.wrap ((i : Int) + 1) = (i : Int) + 1 := by rw [IntKind.wrap_i64]; omega
  have hb1 : (0 : Int) ≤ (i : Int) + 1 := by omega
  have htn : ((i : Int) + 1).toNat = i + 1 := by omega
  obtain ⟨ROW, hROW⟩ : ∃ ROW, ROW = (xs.take (i * 3) ++ R).toArray := ⟨_, rfl⟩
  rw [← hROW] at hrz
  have HW : Hid (WA = w.drew.alloc (.cells ROW 190)) := by rw [hROW]; exact hWA
  have hA : ∀ ty dc, (Builtin.copy_ #[185, 185] ty #[.slice (some ⟨w.heap.size, i * 3, none⟩) (n + 1 - i) dc, .slice (some ⟨vb, 0, none⟩) 1 vc]).run Tryz.prog (w.alloc (.cells ROW 190)).drew = .ok (goInt ↑(1 : Nat)) ((w.alloc (.cells ROW 190)).drew.setRow w.heap.size r1.toArray) := hcpA _ (by rw [unhide HW]; rfl)
  have hB : ∀ ty dc sc, (Builtin.copy_ #[185, 185] ty #[.slice (some ⟨w.heap.size, (i + 1) * 3, none⟩) (n + 1 - (i + 1)) dc, .slice (some ⟨g, i * 3, none⟩) (n - i) sc]).run Tryz.prog ((w.alloc (.cells ROW 190)).drew.setRow w.heap.size r1.toArray).drew = .ok (goInt ↑(n - i)) (((w.alloc (.cells ROW 190)).drew.setRow w.heap.size r1.toArray).drew.setRow w.heap.size r2.toArray) := hcpB _ (by rw [unhide HW]; rfl)
  clear hfin q1 q2 q3 hr1 hr2 hg hv hl h1 hx hx1 hxl hdl hkk hik hold hR hRl hG hG63 hWs hWo hcpA hcpB hROW hWA
  go_enter Tryz.func211, Tryz.ntmps211
  go_wp2_with (first
    | (at_builtin; refine Lib.wpList_append_run _ rfl _ _ _ _ rfl _ _ rfl rfl _ _ (hrz _) ?_)
    | (at_builtin; refine wpList_copy_runI _ rfl _ _ 185 185 rfl _ _ rfl rfl (hA _ _) ?_))
  have mixed := mixedB
  go_region_law_o (refine step_copy_runI rfl _ _ 185 185 rfl (.slice (some ⟨w.heap.size, (i + 1) * 3, none⟩) (n + 1 - (i + 1)) (G - (i + 1))) (.slice (some ⟨g, i * 3, none⟩) (n - i) (cap - i)) (by simp [Act.eval, Act.put]) (by simp [Act.eval, Act.put]) (hB 3 (G - (i + 1)) (cap - i)) ?_)
  go_wp2
  go_ret
  exact unhide Hf _ _ (by rw [unhide HW]; rfl) rfl rfl rfl rfl
theorem insertI_calls (base : Nat) (v : Value) (n i : Nat) (xs news : List Value) (vb vc : Nat) (w : World) (ho : w.ownsRow base 190 3 v n xs) (hi : i ≤ n) (hn : n ≤ 100) (hb : base ≤ w.heap.size) (hx1 : ∀ u ∈ xs, u.oneCell' = true)
    (hv : w.heap[vb]? = some (.cells news.toArray 190 (0, 0))) (hl : news.length = 1 * 3) (h1 : ∀ u ∈ news, u.oneCell' = true) (hne : v.ownBlock ≠ some vb) :
    Calls Tryz.prog 211 #[v, .int .i64 i, .slice (some ⟨vb, 0, none⟩) 1 vc] w fun e w' => GrowEnd base 190 3 v (n + 1) (xs.take (i * 3) ++ news ++ xs.drop (i * 3)) w e w' := by
  have hxl : xs.length = n * 3 := by have := ho.1; omega
  rcases Nat.lt_or_ge i n with h | h
  · rcases ho.2 with ⟨rfl, rfl⟩ | ⟨g, cap, cur, rfl, hbg, hg, hnc, hcm, hcs, hx⟩
    · omega
    · have hne' : vb ≠ g := fun e => hne (by rw [e]; rfl)
      have hcs' : cur.size = cap * 3 := by omega
      have hx' : cur.toList.take (n * 3) = xs := by rw [← hx, show n * 3 = n * 3 by omega]
      rcases Nat.lt_or_ge cap (n + 1) with h2 | h2
      · exact insertI_grow base g cap cur n i xs news vb vc w h hn hb hg hnc h2 hx' hxl hx1 hv hl h1
      · exact insertI_shift base g cap cur n i xs news vb vc w h hn hg hbg h2 hcm hcs' hx' hx1 hv hl h1 hne'
  · obtain rfl : i = n := by omega
    have := insertI_end base v i xs news vb vc w ho hn hb hv hl h1
    rw [List.take_of_length_le (by omega), List.drop_eq_nil_of_le (by omega), List.append_nil]
    exact this
end Go.Proofs.YtjpmomklkkifjaaGreatDoor.T
