/-
  Go's slices.SortFunc lies in the program, at nodes and at changes. The contract of FS.Nodes: the nodes that there are, rising by their numbers. The contract of FS.Nodes: a range over the map, in whatever order; then the sort. A region that draws its order and whose callees only lay new blocks: one walk of the text's own order serves. What the entries of whole folders are like.
-/
import Derived.Test.YtjpmomklkkifjaaGreatDoorProg
import Derived.Shelf.SlSortCmp.NoneTotal
import Derived.Test.YtjpmomklkkifjaaGreatDoorCLaid
import Derived.Test.YtjpmomklkkifjaaGreatDoorCFNew
import Derived.BigQuiet
namespace Go.Proofs.YtjpmomklkkifjaaGreatDoor.T
open Go.RowKit Go.Shelf
set_option maxRecDepth 100000

def sortRenN : Go.Shelf.Ren := ⟨fun | 6 => 41 | 14 => 82 | 15 => 83 | 20 => 121 | 21 => 122 | 22 => 123 | 23 => 124 | 24 => 125 | 25 => 126 | 26 => 127 | 27 => 128 | 28 => 129 | 29 => 130 | 46 => 170 | 47 => 171 | 48 => 172 | 49 => 173 | 50 => 174 | 57 => 206 | n => n, fun | 0 => 0 | 3 => 3 | 4 => 4 | 5 => 5 | 9 => 9 | 22 => 27 | 24 => 33 | 25 => 83 | 39 => 126 | 45 => 174 | 46 => 175 | 50 => 179 | 53 => 182 | 55 => 62 | 66 => 215 | 70 => 219 | 76 => 245 | 77 => 246 | n => n, fun | n => n⟩
theorem sortLaysN : SlLaysF0.n6 Tryz.prog sortRenN := {
  mixed := by kernel_rfl
  f6 := ⟨"slices.SortFunc[[]jobcase/api.Node,jobcase/api.Node]", by kernel_rfl, Tryz.func41.trans (congrArg some (by kernel_rfl))⟩
  f14 := ⟨"slices.pdqsortCmpFunc[jobcase/api.Node]", by kernel_rfl, Tryz.func82.trans (congrArg some (by kernel_rfl))⟩
  f15 := Tryz.func83.trans (congrArg some (by kernel_rfl))
  f20 := ⟨"slices.insertionSortCmpFunc[jobcase/api.Node]", by kernel_rfl, Tryz.func121.trans (congrArg some (by kernel_rfl))⟩
  f21 := ⟨"slices.heapSortCmpFunc[jobcase/api.Node]", by kernel_rfl, Tryz.func122.trans (congrArg some (by kernel_rfl))⟩
  f22 := ⟨"slices.breakPatternsCmpFunc[jobcase/api.Node]", by kernel_rfl, Tryz.func123.trans (congrArg some (by kernel_rfl))⟩
  f23 := ⟨"slices.choosePivotCmpFunc[jobcase/api.Node]", by kernel_rfl, Tryz.func124.trans (congrArg some (by kernel_rfl))⟩
  f24 := ⟨"slices.reverseRangeCmpFunc[jobcase/api.Node]", by kernel_rfl, Tryz.func125.trans (congrArg some (by kernel_rfl))⟩
  f25 := ⟨"slices.partialInsertionSortCmpFunc[jobcase/api.Node]", by kernel_rfl, Tryz.func126.trans (congrArg some (by kernel_rfl))⟩
  f26 := ⟨"slices.partitionEqualCmpFunc[jobcase/api.Node]", by kernel_rfl, Tryz.func127.trans (congrArg some (by kernel_rfl))⟩
  f27 := ⟨"slices.partitionCmpFunc[jobcase/api.Node]", by kernel_rfl, Tryz.func128.trans (congrArg some (by kernel_rfl))⟩
  f28 := Tryz.func129.trans (congrArg some (by kernel_rfl))
  f29 := Tryz.func130.trans (congrArg some (by kernel_rfl))
  f46 := ⟨"slices.siftDownCmpFunc[jobcase/api.Node]", by kernel_rfl, Tryz.func170.trans (congrArg some (by kernel_rfl))⟩
  f47 := Tryz.func171.trans (congrArg some (by kernel_rfl))
  f48 := Tryz.func172.trans (congrArg some (by kernel_rfl))
  f49 := ⟨"slices.medianAdjacentCmpFunc[jobcase/api.Node]", by kernel_rfl, Tryz.func173.trans (congrArg some (by kernel_rfl))⟩
  f50 := ⟨"slices.medianCmpFunc[jobcase/api.Node]", by kernel_rfl, Tryz.func174.trans (congrArg some (by kernel_rfl))⟩
  f57 := ⟨"slices.order2CmpFunc[jobcase/api.Node]", by kernel_rfl, Tryz.func206.trans (congrArg some (by kernel_rfl))⟩
  t0 := Tryz.underlying0
  a0 := Tryz.isAgg0
  z0 := Tryz.sizeOf0
  v0 := Tryz.zeroValue0
  t3 := Tryz.underlying3
  a3 := Tryz.isAgg3
  z3 := Tryz.sizeOf3
  v3 := Tryz.zeroValue3
  t4 := Tryz.underlying4
  a4 := Tryz.isAgg4
  z4 := Tryz.sizeOf4
  v4 := Tryz.zeroValue4
  t5 := Tryz.underlying5
  a5 := Tryz.isAgg5
  z5 := Tryz.sizeOf5
  v5 := Tryz.zeroValue5
  t9 := Tryz.underlying9
  a9 := Tryz.isAgg9
  z9 := Tryz.sizeOf9
  v9 := Tryz.zeroValue9
  t22 := Tryz.underlying27
  a22 := Tryz.isAgg27
  z22 := Tryz.sizeOf27
  v22 := Tryz.zeroValue27
  t25 := Tryz.underlying83
  a25 := Tryz.isAgg83
  z25 := Tryz.sizeOf83
  v25 := Tryz.zeroValue83
  t39 := Tryz.underlying126
  a39 := Tryz.isAgg126
  z39 := Tryz.sizeOf126
  v39 := Tryz.zeroValue126
  t45 := Tryz.underlying174
  a45 := Tryz.isAgg174
  z45 := Tryz.sizeOf174
  v45 := Tryz.zeroValue174
  t46 := Tryz.underlying175
  a46 := Tryz.isAgg175
  z46 := Tryz.sizeOf175
  v46 := Tryz.zeroValue175
  t50 := Tryz.underlying179
  a50 := Tryz.isAgg179
  z50 := Tryz.sizeOf179
  v50 := Tryz.zeroValue179
  t53 := Tryz.underlying182
  a53 := Tryz.isAgg182
  z53 := Tryz.sizeOf182
  v53 := Tryz.zeroValue182
  t55 := Tryz.underlying62
  a55 := Tryz.isAgg62
  z55 := Tryz.sizeOf62
  v55 := Tryz.zeroValue62
  t66 := Tryz.underlying215
  a66 := Tryz.isAgg215
  z66 := Tryz.sizeOf215
  v66 := Tryz.zeroValue215
  t70 := Tryz.underlying219
  a70 := Tryz.isAgg219
  z70 := Tryz.sizeOf219
  v70 := Tryz.zeroValue219
  t76 := Tryz.underlying245
  a76 := Tryz.isAgg245
  z76 := Tryz.sizeOf245
  v76 := Tryz.zeroValue245
  t77 := Tryz.underlying246
  a77 := Tryz.isAgg246
  z77 := Tryz.sizeOf246
  v77 := Tryz.zeroValue246 }
def sortRenC : Go.Shelf.Ren := ⟨fun | 6 => 71 | 14 => 112 | 15 => 83 | 20 => 158 | 21 => 159 | 22 => 160 | 23 => 161 | 24 => 162 | 25 => 163 | 26 => 164 | 27 => 165 | 28 => 129 | 29 => 130 | 46 => 198 | 47 => 171 | 48 => 172 | 49 => 199 | 50 => 200 | 57 => 222 | n => n, fun | 0 => 0 | 3 => 3 | 4 => 4 | 5 => 5 | 9 => 9 | 22 => 54 | 24 => 69 | 25 => 113 | 39 => 126 | 45 => 174 | 46 => 175 | 50 => 179 | 53 => 182 | 55 => 62 | 66 => 215 | 70 => 219 | 76 => 245 | 77 => 246 | n => n, fun | n => n⟩
theorem sortLaysC : SlLaysF0.n6 Tryz.prog sortRenC := {
  mixed := by kernel_rfl
  f6 := ⟨"slices.SortFunc[[]jobcase/api.Change,jobcase/api.Change]", by kernel_rfl, Tryz.func71.trans (congrArg some (by kernel_rfl))⟩
  f14 := ⟨"slices.pdqsortCmpFunc[jobcase/api.Change]", by kernel_rfl, Tryz.func112.trans (congrArg some (by kernel_rfl))⟩
  f15 := Tryz.func83.trans (congrArg some (by kernel_rfl))
  f20 := ⟨"slices.insertionSortCmpFunc[jobcase/api.Change]", by kernel_rfl, Tryz.func158.trans (congrArg some (by kernel_rfl))⟩
  f21 := ⟨"slices.heapSortCmpFunc[jobcase/api.Change]", by kernel_rfl, Tryz.func159.trans (congrArg some (by kernel_rfl))⟩
  f22 := ⟨"slices.breakPatternsCmpFunc[jobcase/api.Change]", by kernel_rfl, Tryz.func160.trans (congrArg some (by kernel_rfl))⟩
  f23 := ⟨"slices.choosePivotCmpFunc[jobcase/api.Change]", by kernel_rfl, Tryz.func161.trans (congrArg some (by kernel_rfl))⟩
  f24 := ⟨"slices.reverseRangeCmpFunc[jobcase/api.Change]", by kernel_rfl, Tryz.func162.trans (congrArg some (by kernel_rfl))⟩
  f25 := ⟨"slices.partialInsertionSortCmpFunc[jobcase/api.Change]", by kernel_rfl, Tryz.func163.trans (congrArg some (by kernel_rfl))⟩
  f26 := ⟨"slices.partitionEqualCmpFunc[jobcase/api.Change]", by kernel_rfl, Tryz.func164.trans (congrArg some (by kernel_rfl))⟩
  f27 := ⟨"slices.partitionCmpFunc[jobcase/api.Change]", by kernel_rfl, Tryz.func165.trans (congrArg some (by kernel_rfl))⟩
  f28 := Tryz.func129.trans (congrArg some (by kernel_rfl))
  f29 := Tryz.func130.trans (congrArg some (by kernel_rfl))
  f46 := ⟨"slices.siftDownCmpFunc[jobcase/api.Change]", by kernel_rfl, Tryz.func198.trans (congrArg some (by kernel_rfl))⟩
  f47 := Tryz.func171.trans (congrArg some (by kernel_rfl))
  f48 := Tryz.func172.trans (congrArg some (by kernel_rfl))
  f49 := ⟨"slices.medianAdjacentCmpFunc[jobcase/api.Change]", by kernel_rfl, Tryz.func199.trans (congrArg some (by kernel_rfl))⟩
  f50 := ⟨"slices.medianCmpFunc[jobcase/api.Change]", by kernel_rfl, Tryz.func200.trans (congrArg some (by kernel_rfl))⟩
  f57 := ⟨"slices.order2CmpFunc[jobcase/api.Change]", by kernel_rfl, Tryz.func222.trans (congrArg some (by kernel_rfl))⟩
  t0 := Tryz.underlying0
  a0 := Tryz.isAgg0
  z0 := Tryz.sizeOf0
  v0 := Tryz.zeroValue0
  t3 := Tryz.underlying3
  a3 := Tryz.isAgg3
  z3 := Tryz.sizeOf3
  v3 := Tryz.zeroValue3
  t4 := Tryz.underlying4
  a4 := Tryz.isAgg4
  z4 := Tryz.sizeOf4
  v4 := Tryz.zeroValue4
  t5 := Tryz.underlying5
  a5 := Tryz.isAgg5
  z5 := Tryz.sizeOf5
  v5 := Tryz.zeroValue5
  t9 := Tryz.underlying9
  a9 := Tryz.isAgg9
  z9 := Tryz.sizeOf9
  v9 := Tryz.zeroValue9
  t22 := Tryz.underlying54
  a22 := Tryz.isAgg54
  z22 := Tryz.sizeOf54
  v22 := Tryz.zeroValue54
  t25 := Tryz.underlying113
  a25 := Tryz.isAgg113
  z25 := Tryz.sizeOf113
  v25 := Tryz.zeroValue113
  t39 := Tryz.underlying126
  a39 := Tryz.isAgg126
  z39 := Tryz.sizeOf126
  v39 := Tryz.zeroValue126
  t45 := Tryz.underlying174
  a45 := Tryz.isAgg174
  z45 := Tryz.sizeOf174
  v45 := Tryz.zeroValue174
  t46 := Tryz.underlying175
  a46 := Tryz.isAgg175
  z46 := Tryz.sizeOf175
  v46 := Tryz.zeroValue175
  t50 := Tryz.underlying179
  a50 := Tryz.isAgg179
  z50 := Tryz.sizeOf179
  v50 := Tryz.zeroValue179
  t53 := Tryz.underlying182
  a53 := Tryz.isAgg182
  z53 := Tryz.sizeOf182
  v53 := Tryz.zeroValue182
  t55 := Tryz.underlying62
  a55 := Tryz.isAgg62
  z55 := Tryz.sizeOf62
  v55 := Tryz.zeroValue62
  t66 := Tryz.underlying215
  a66 := Tryz.isAgg215
  z66 := Tryz.sizeOf215
  v66 := Tryz.zeroValue215
  t70 := Tryz.underlying219
  a70 := Tryz.isAgg219
  z70 := Tryz.sizeOf219
  v70 := Tryz.zeroValue219
  t76 := Tryz.underlying245
  a76 := Tryz.isAgg245
  z76 := Tryz.sizeOf245
  v76 := Tryz.zeroValue245
  t77 := Tryz.underlying246
  a77 := Tryz.isAgg246
  z77 := Tryz.sizeOf246
  v77 := Tryz.zeroValue246 }
end Go.Proofs.YtjpmomklkkifjaaGreatDoor.T
namespace Go.Proofs.YtjpmomklkkifjaaGreatDoor.T
open Go.RowKit Go.Shelf Go.Sort
open Go.Maps (Keyed)
set_option maxRecDepth 100000
set_option linter.unusedVariables false
set_option linter.unusedSimpArgs false

instance : Inhabited NV := ⟨NV.zero⟩
/-- A node's cells, as it is handed on. -/
def encN (u : NV) : List Value := [.int .i64 u.id, .int .i64 u.kind, .int .i64 u.up, .int .i64 u.links, .string u.text]
def flatN (L : List NV) : List Value := L.flatMap encN
theorem flatN_length (L : List NV) : (flatN L).length = L.length * 5 := by
  induction L with
  | nil => rfl
  | cons x L ih => simp [flatN, encN] at ih ⊢; omega
theorem flatN_snoc (L : List NV) (x : NV) : flatN (L ++ [x]) = flatN L ++ encN x := by simp [flatN]
theorem flatN_get : ∀ (L : List NV) (j : Nat) (u : NV), L[j]? = some u → ∀ i x, (encN u)[i]? = some x → (flatN L)[j * 5 + i]? = some x
  | y :: L, 0, u, h, i, x, hx => by
    have e : y = u := by simpa using h
    subst e
    have hi : i < (encN y).length := (List.getElem?_eq_some_iff.1 hx).1
    show (encN y ++ flatN L)[0 * 5 + i]? = some x
    rw [Nat.zero_mul, Nat.zero_add, List.getElem?_append_left hi]
    exact hx
  | y :: L, j + 1, u, h, i, x, hx => by
    have := flatN_get L j u (by simpa using h) i x hx
    show (encN y ++ flatN L)[(j + 1) * 5 + i]? = some x
    rw [List.getElem?_append_right (by simp [encN]; omega)]
    simp only [encN, List.length_cons, List.length_nil]
    rw [show (j + 1) * 5 + i - (0 + 1 + 1 + 1 + 1 + 1) = j * 5 + i by omega]
    exact this
def rowNd (v : Value) (L : List NV) : Res := .row v 33 5 L.length (flatN L)
theorem infoNode : (Tryz.prog.info? 33).map (fun i => (i.zero, i.size, i.bytes)) = some (some (.agg #[.int .i64 0, .int .i64 0, .int .i64 0, .int .i64 0, .string ⟨#[]⟩]), 5, 48) := by kernel_rfl
/-- A node in a row of nodes. -/
theorem node_cell {w : World} {base g n cap : Nat} {L : List NV} (h : w.ownsRow base 33 5 (.slice (some ⟨g, 0, none⟩) n cap) n (flatN L)) {j : Nat} {u : NV} (hk : L[j]? = some u) :
    w.cell? ⟨g, j * 5, none⟩ = some (.int .i64 u.id) ∧ w.cell? ⟨g, j * 5 + 1, none⟩ = some (.int .i64 u.kind) ∧ w.cell? ⟨g, j * 5 + 2, none⟩ = some (.int .i64 u.up) ∧ w.cell? ⟨g, j * 5 + 3, none⟩ = some (.int .i64 u.links) ∧ w.cell? ⟨g, j * 5 + 4, none⟩ = some (.string u.text) := by
  have hl : L.length * 5 = n * 5 := by rw [← h.1, flatN_length]
  obtain ⟨hj, _⟩ := List.getElem?_eq_some_iff.1 hk
  have h1 := flatN_get L j u hk
  exact ⟨by rw [h.cellAt _ (by omega)]; exact h1 0 _ rfl, by rw [h.cellAt _ (by omega)]; exact h1 1 _ rfl, by rw [h.cellAt _ (by omega)]; exact h1 2 _ rfl, by rw [h.cellAt _ (by omega)]; exact h1 3 _ rfl, by rw [h.cellAt _ (by omega)]; exact h1 4 _ rfl⟩

/-- How two numbers compare. -/
def cmpI (x y : Int) : Int := if x < y then -1 else if y < x then 1 else 0
theorem isNaN_calls (x : Int) (w : World) : Calls Tryz.prog 84 #[.int .i64 x] w fun e w' => e = .returned (.bool false) ∧ w' = w := by
  go_enter Tryz.func84, Tryz.ntmps84
  go_wp2_with fail
  go_ret
  exact ⟨by simp, rfl⟩
theorem compareI_calls (x y : Int) (w : World) : Calls Tryz.prog 43 #[.int .i64 x, .int .i64 y] w fun e w' => e = .returned (.int .i64 (cmpI x y)) ∧ w' = w := by
  have hn := fun z wx => isNaN_calls z wx
  unfold cmpI
  by_cases h1 : x < y
  · rw [if_pos h1]
    go_enter Tryz.func43, Tryz.ntmps43
    go_wp2_with fail
    refine (hn _ _).mono ?_
    rintro e wx ⟨rfl, rfl⟩
    go_wp2_with fail
    refine (hn _ _).mono ?_
    rintro e wx ⟨rfl, rfl⟩
    go_wp2_with fail
    go_ret
    exact ⟨rfl, rfl⟩
  · rw [if_neg h1]
    by_cases h2 : y < x
    · rw [if_pos h2]
      go_enter Tryz.func43, Tryz.ntmps43
      go_wp2_with fail
      refine (hn _ _).mono ?_
      rintro e wx ⟨rfl, rfl⟩
      go_wp2_with fail
      refine (hn _ _).mono ?_
      rintro e wx ⟨rfl, rfl⟩
      go_wp2_with fail
      go_ret
      exact ⟨rfl, rfl⟩
    · rw [if_neg h2]
      go_enter Tryz.func43, Tryz.ntmps43
      go_wp2_with fail
      refine (hn _ _).mono ?_
      rintro e wx ⟨rfl, rfl⟩
      go_wp2_with fail
      refine (hn _ _).mono ?_
      rintro e wx ⟨rfl, rfl⟩
      go_wp2_with fail
      go_ret
      exact ⟨rfl, rfl⟩
theorem byId_calls (x y : NV) (W : World) : Calls Tryz.prog 42 #[.agg (encN x).toArray, .agg (encN y).toArray] W fun e w' => e = .returned (.int .i64 (cmpI x.id y.id)) ∧ ∃ q os', w' = grow (W.drewN q) os' := by
  have hc := fun wx => compareI_calls x.id y.id wx
  generalize cmpI x.id y.id = r at hc ⊢
  have HC := hide hc
  clear hc
  simp only [encN]
  go_enter Tryz.func42, Tryz.ntmps42
  go_wp2_with fail
  refine (unhide HC _).mono ?_
  rintro e wx ⟨rfl, hwx⟩
  have hwx := hwx.symm
  subst hwx
  go_wp2_with fail
  go_ret
  exact ⟨rfl, 0, _, by rw [alloc_eq_grow, alloc_eq_grow, grow_grow]; rfl⟩
theorem cmpI_lt (x y : NV) : ltOf (fun a b : NV => cmpI a.id b.id) x y = decide (x.id < y.id) := by
  show decide (cmpI x.id y.id < 0) = decide (x.id < y.id)
  unfold cmpI
  by_cases h1 : x.id < y.id
  · simp [h1]
  · rw [if_neg h1]
    by_cases h2 : y.id < x.id
    · simp [h1, h2]
    · simp [h1, h2]
theorem swoI : SWO (ltOf fun a b : NV => cmpI a.id b.id) where
  irrefl x := by rw [cmpI_lt]; simp
  trans x y z h1 h2 := by rw [cmpI_lt] at *; simp at *; omega
  ntrans x y z h1 h2 := by rw [cmpI_lt] at *; simp at *; omega

theorem flatK_flatN (L : List NV) : flatK encN 5 L.toArray = (flatN L).toArray := by
  apply Array.ext_getElem?
  intro t
  by_cases ht : t < L.length * 5
  · have hk : t / 5 < L.length := by omega
    have hr : t % 5 < 5 := Nat.mod_lt _ (by omega)
    have h0 : t < (flatK encN 5 L.toArray).size := by simpa using ht
    have h1 := get_flatK encN 5 L.toArray t (by simpa using ht)
    rw [getElem!_pos (flatK encN 5 L.toArray) t h0] at h1
    rw [Array.getElem?_eq_getElem h0, h1]
    have h2 : L.toArray[t / 5]! = L[t / 5] := by
      simp only [List.getElem!_toArray]
      rw [getElem!_pos L _ hk]
    rw [h2]
    have h3 : (encN L[t / 5]).length = 5 := rfl
    have h5 : t % 5 < (encN L[t / 5]).length := by rw [h3]; exact hr
    have h4 := flatN_get L (t / 5) L[t / 5] (List.getElem?_eq_getElem hk) (t % 5) ((encN L[t / 5])[t % 5]!) (by rw [getElem!_pos (encN L[t / 5]) (t % 5) h5]; exact List.getElem?_eq_getElem h5)
    rw [show t / 5 * 5 + t % 5 = t by omega] at h4
    rw [List.getElem?_toArray]
    exact h4.symm
  · rw [Array.getElem?_eq_none (by simp; omega), Array.getElem?_eq_none (by simp [flatN_length]; omega)]
/-- A row that was sorted. -/
theorem row_put {w : World} {base g n cap : Nat} {t : TypeId} {k : Nat} {xs ys : List Value} (h : w.ownsRow base t k (.slice (some ⟨g, 0, none⟩) n cap) n xs) (hl : ys.length = xs.length) (m : Nat) (os : Array Obj) :
    (grow (putRow id (Go.Sort.ahead w m) g 0 ys.toArray) os).ownsRow base t k (.slice (some ⟨g, 0, none⟩) n cap) n ys ∧ w.grownBy (grow (putRow id (Go.Sort.ahead w m) g 0 ys.toArray) os) (some g) := by
  obtain ⟨hx, h2⟩ := h
  rcases h2 with ⟨hh, _⟩ | ⟨g', cap', cur, hv, hb, hg, hn, hm, hc, ht⟩
  · cases hh
  injection hv with hv1 _ hv2
  injection hv1 with hv1
  injection hv1 with hv1
  subst hv1 hv2
  have hlt : g < w.heap.size := (Array.getElem?_eq_some_iff.1 hg).1
  have hsz : (putRow id (Go.Sort.ahead w m) g 0 ys.toArray).heap.size = w.heap.size := by simp [putRow, mapBlock, Go.Sort.ahead]
  have hblk : (putRow id (Go.Sort.ahead w m) g 0 ys.toArray).heap[g]? = some (.cells (putCells id 0 ys.toArray cur) t (0, 0)) := by
    unfold putRow mapBlock
    show ((w.heap.modify g _))[g]? = _
    rw [Array.getElem?_modify, if_pos rfl, hg]
    rfl
  have hle : n * k ≤ cur.size := by rw [hc]; exact Nat.mul_le_mul_right k hn
  refine ⟨⟨by rw [hl]; exact hx, .inr ⟨g, cap, putCells id 0 ys.toArray cur, rfl, hb, ?_, hn, hm, by simp [putCells, hc], ?_⟩⟩, ⟨rfl, rfl, rfl, ?_, fun i hi hne => ?_⟩⟩
  · show ((putRow id (Go.Sort.ahead w m) g 0 ys.toArray).heap ++ os)[g]? = _
    rw [Array.getElem?_append_left (by rw [hsz]; exact hlt)]
    exact hblk
  · apply List.ext_getElem?
    intro j
    by_cases hj : j < n * k
    · have hjy : j < ys.length := by omega
      rw [List.getElem?_take_of_lt hj, Array.getElem?_toList]
      unfold putCells
      rw [Array.getElem?_mapIdx, Array.getElem?_eq_getElem (by omega)]
      simp only [Option.map_some, List.size_toArray, Nat.zero_le, Nat.zero_add, true_and, if_pos hjy, Nat.sub_zero, id, List.getElem!_toArray]
      rw [getElem!_pos ys j hjy, List.getElem?_eq_getElem hjy]
    · rw [List.getElem?_eq_none (by rw [List.length_take]; omega), List.getElem?_eq_none (by omega)]
  · show w.heap.size ≤ ((putRow id (Go.Sort.ahead w m) g 0 ys.toArray).heap ++ os).size
    rw [Array.size_append, hsz]
    omega
  · show ((putRow id (Go.Sort.ahead w m) g 0 ys.toArray).heap ++ os)[i]? = _
    rw [Array.getElem?_append_left (by rw [hsz]; exact hi)]
    unfold putRow mapBlock
    show ((w.heap.modify g _))[i]? = _
    rw [Array.getElem?_modify, if_neg (fun e => hne (by rw [e]))]
theorem holds_row {w : World} {base g n cap : Nat} {t : TypeId} {k : Nat} {xs : List Value} (h : w.ownsRow base t k (.slice (some ⟨g, 0, none⟩) n cap) n xs) : Holds id w g 0 xs.toArray := by
  intro j hj
  have hj' : j < xs.length := by simpa using hj
  rw [Nat.zero_add]
  refine ⟨?_, h.frozenAt j⟩
  rw [h.cellAt j (by have := h.1; omega)]
  simp only [id, List.getElem!_toArray]
  rw [getElem!_pos xs j hj', List.getElem?_eq_getElem hj']

set_option maxHeartbeats 1000000 in
theorem sortNodes_calls {w : World} {base g n cap : Nat} {L : List NV} (h : w.ownsRow base 33 5 (.slice (some ⟨g, 0, none⟩) n cap) n (flatN L)) (hl : L.length = n) (hn : n ≤ 1000) :
    Calls Tryz.prog 41 #[.slice (some ⟨g, 0, none⟩) n cap, .func (.func 42) #[] #[]] w fun e w' => e = .returned (.tuple #[]) ∧ ∃ L', L'.Perm L ∧ L'.Pairwise (fun a b => a.id ≤ b.id) ∧ w'.ownsRow base 33 5 (.slice (some ⟨g, 0, none⟩) n cap) n (flatN L') ∧ w.grownBy w' (some g) := by
  have eg : ∀ args w, (callFunc 42 args).run Tryz.prog w = .ok (.enter 42 args) w := enters_of Tryz.func42 (by kernel_rfl) rfl
  have hH : HoldsK encN 5 w g 0 L.toArray := by
    unfold HoldsK
    rw [flatK_flatN]
    exact holds_row h
  have hlt : g < w.heap.size := by
    rcases h.2 with ⟨hh, _⟩ | ⟨g', cap', cur, hv, hb, hg, _⟩
    · cases hh
    · injection hv with hv1 _ _
      injection hv1 with hv1
      injection hv1 with hv1
      subst hv1
      exact (Array.getElem?_eq_some_iff.1 hg).1
  have hc := AnyQ.slices_SortFunc sortLaysN 5 Tryz.isAgg33 Tryz.sizeOf33 encN (fun _ => rfl) (fun x v hv => by simp [encN] at hv; rcases hv with rfl | rfl | rfl | rfl | rfl <;> rfl) (fun a b : NV => cmpI a.id b.id) swoI 42 #[] g 0 cap L.toArray w eg (fun _ _ _ _ x y => byId_calls x y _) hH hlt (by simp; omega)
  have e1 : L.toArray.size = n := by simp [hl]
  rw [e1] at hc
  refine Calls.mono (show Calls Tryz.prog 41 _ _ _ from hc) ?_
  rintro e w' ⟨he, d', m, os, ⟨hs, _, hp⟩, hsort, rfl⟩
  have hs' : d'.size = n := by rw [hs, e1]
  have hd : d'.toList.length = n := by simpa using hs'
  have hex : (d'.extract 0 n).toList = d'.toList := by rw [← hs']; simp
  have hex2 : (L.toArray.extract 0 n).toList = L := by rw [← hl]; simp
  rw [hex, hex2] at hp
  have hk : flatK encN 5 d' = (flatN d'.toList).toArray := by
    have := flatK_flatN d'.toList
    simpa using this
  have hr := row_put h (ys := flatN d'.toList) (by rw [flatN_length, flatN_length, hd, hl]) m os
  have hw : sortWorldK encN 5 w g 0 m d' os = grow (putRow id (Go.Sort.ahead w m) g 0 (flatN d'.toList).toArray) os := by
    unfold sortWorldK putRowK
    rw [hk]
  rw [hw]
  refine ⟨he, d'.toList, hp, ?_, hr⟩
  rw [List.pairwise_iff_getElem]
  intro i j hi hj hij
  have h1 := hsort i j (by omega) hij (by omega)
  rw [cmpI_lt] at h1
  have hi' : i < d'.size := by simpa using hi
  have hj' : j < d'.size := by simpa using hj
  rw [getElem!_pos d' i hi', getElem!_pos d' j hj'] at h1
  have h2 : ¬ d'[j].id < d'[i].id := of_decide_eq_false h1
  have : d'.toList[i].id ≤ d'.toList[j].id := by
    rw [Array.getElem_toList, Array.getElem_toList]
    omega
  exact this
end Go.Proofs.YtjpmomklkkifjaaGreatDoor.T
namespace Go.Proofs.YtjpmomklkkifjaaGreatDoor.T
open Go.RowKit
open Go.Maps (Keyed)
set_option maxRecDepth 100000
set_option linter.unusedVariables false
set_option linter.unusedSimpArgs false

variable {w0 w w' : World} {fb mb : Nat} {N : List NV} {F : Forest} {next : Int} {l2 : List Res}
/-- Some block, by itself. -/
abbrev someB (b : Nat) : Res := .obj b (fun _ => True)
theorem FSIn.foundObj (h : FSIn w0 w fb mb N F next l2) (hb : Below w.heap.size w w') {b : Nat} (h1 : w.heap.size ≤ b) (h2 : b < w'.heap.size) : FSIn w0 w' fb mb N F next (someB b :: l2) := by
  obtain ⟨rs, hr, H⟩ := h
  have hs := Hold.size H
  have H1 := Hold.new (r := someB b) H (Kept.of_below hb) ⟨by omega, _, Array.getElem?_eq_getElem h2, trivial⟩ (fun x hx => by obtain rfl := one_pos.1 hx; exact h1) (one_le b)
  refine ⟨rs, hr, Hold.conv H1 (fun x => ?_) fun r hr => Hold.sat H1 r ?_⟩
  · simp only [total_cons, total_append]; omega
  · simp only [List.mem_cons, List.mem_append] at hr ⊢
    rcases hr with h | h | h | h | h <;> simp [h]
/-- That block turns. -/
theorem FSIn.turned (l1 : List Res) {b : Nat} (h : FSIn w0 w fb mb N F next (l1 ++ someB b :: l2)) (hg : w.grownBy w' (some b)) : FSIn w0 w' fb mb N F next (l1 ++ someB b :: l2) := by
  obtain ⟨rs, hr, H⟩ := h
  have e : (.cell fb 77 [.map (some mb), .int .i64 next] :: .obj mb (IsMapN N) :: (rs ++ (l1 ++ someB b :: l2)) : List Res) = (.cell fb 77 [.map (some mb), .int .i64 next] :: .obj mb (IsMapN N) :: (rs ++ l1)) ++ someB b :: l2 := by simp
  rw [e] at H
  refine ⟨rs, hr, ?_⟩
  rw [e]
  have hs := Hold.sat H (someB b) (by simp)
  obtain ⟨hb1, o, ho, _⟩ := hs
  have hlt : b < w.heap.size := (Array.getElem?_eq_some_iff.1 ho).1
  exact Hold.put _ H ((Kept.refl _ w).grown hg fun x hx _ => by cases hx; show 0 < one b b; rw [one_self]; decide) ⟨hb1, _, Array.getElem?_eq_getElem (Nat.lt_of_lt_of_le hlt hg.size), trivial⟩ (fun x _ => Nat.le_refl _) (one_le b)
/-- A row turns. -/
theorem FSIn.grow (l1 : List Res) {v v' : Value} {e : TypeId} {k n n' : Nat} {xs ys : List Value} (h : FSIn w0 w fb mb N F next (l1 ++ .row v e k n xs :: l2)) (hg : w.grownBy w' v.ownBlock) (hr : w'.ownsRow w0.heap.size e k v' n' ys) (ha : v'.ownBlock = v.ownBlock ∨ ∃ x, v'.ownBlock = some x ∧ w.heap.size ≤ x) : FSIn w0 w' fb mb N F next (l1 ++ .row v' e k n' ys :: l2) := by
  obtain ⟨rs, hr2, H⟩ := h
  have e1 : ∀ q : Res, (.cell fb 77 [.map (some mb), .int .i64 next] :: .obj mb (IsMapN N) :: (rs ++ (l1 ++ q :: l2)) : List Res) = (.cell fb 77 [.map (some mb), .int .i64 next] :: .obj mb (IsMapN N) :: (rs ++ l1)) ++ q :: l2 := fun q => by simp
  rw [e1] at H
  refine ⟨rs, hr2, ?_⟩
  rw [e1]
  exact Hold.grow _ H hg hr ha
/-- A row lies apart from the map, and from another block. -/
theorem FSIn.apart {v : Value} {e : TypeId} {k n : Nat} {xs : List Value} {b : Nat} (h : FSIn w0 w fb mb N F next (.row v e k n xs :: someB b :: l2)) : some mb ≠ v.ownBlock ∧ some b ≠ v.ownBlock := by
  obtain ⟨rs, _, H⟩ := h
  constructor
  · intro e1
    have h1 := Hold.uniq H mb
    have h2 : 0 < blkN v mb := blkN_pos.2 e1.symm
    simp only [total_cons, total_append, foot_row] at h1
    have h3 : (Res.obj mb (IsMapN N)).foot mb = 1 := by show one mb mb = 1; rw [one_self]
    omega
  · intro e1
    have h1 := Hold.uniq H b
    have h2 : 0 < blkN v b := blkN_pos.2 e1.symm
    simp only [total_cons, total_append, foot_row] at h1
    have h3 : (someB b).foot b = 1 := by show one b b = 1; rw [one_self]
    omega
theorem FSIn.low (h : FSIn w0 w fb mb N F next l2) : w0.heap.size ≤ w.heap.size := h.size

/-- What has come so far. -/
structure Came (N : List NV) (acc : List NV) (left : Lit → Bool) : Prop where
  sub : ∀ u ∈ acc, u ∈ N
  nodup : (acc.map NV.id).Nodup
  left : ∀ i, WfI i → (left (.int .i64 i) = true ↔ (findN N i).isSome = true ∧ i ∉ acc.map NV.id)
theorem Came.all {acc : List NV} {left : Lit → Bool} (h : Came N acc left) (hn : (N.map NV.id).Nodup) (hw : ∀ v ∈ N, WfI v.id) (h0 : ∀ kl, left kl = false) : acc.Perm N := by
  have hsub : ∀ v ∈ N, v ∈ acc := fun v hv => by
    have h1 := h.left v.id (hw v hv)
    rw [h0] at h1
    have h2 : v.id ∈ acc.map NV.id := by
      apply Classical.byContradiction
      intro hno
      have := h1.2 ⟨by rw [findN_mem hn hv]; rfl, hno⟩
      cases this
    obtain ⟨u, hu, e⟩ := List.mem_map.1 h2
    have : u = v := by
      have a := findN_mem hn (h.sub u hu)
      have b := findN_mem hn hv
      rw [e, b] at a
      exact (Option.some.inj a).symm
    rw [← this]; exact hu
  have hna : acc.Nodup := (List.pairwise_map.1 h.nodup).imp fun hne e => hne (by rw [e])
  have hnN : N.Nodup := (List.pairwise_map.1 hn).imp fun hne e => hne (by rw [e])
  exact (List.perm_ext_iff_of_nodup hna hnN).2 fun v => ⟨fun hv => h.sub v hv, hsub v⟩
theorem Came.more {acc : List NV} {left : Lit → Bool} (h : Came N acc left) {u : NV} (hw : WfI u.id) (hu : findN N u.id = some u) (hl : left (.int .i64 u.id) = true) : Came N (acc ++ [u]) (fun z => left z && !z.sameKey (.int .i64 u.id)) := by
  have h1 := (h.left u.id hw).1 hl
  refine ⟨fun x hx => ?_, ?_, fun i hi => ?_⟩
  · rcases List.mem_append.1 hx with hx | hx
    · exact h.sub x hx
    · rw [List.mem_singleton.1 hx]; exact (findN_some hu).1
  · rw [List.map_append, List.nodup_append]
    refine ⟨h.nodup, by simp, fun a ha b hb e => ?_⟩
    simp at hb
    subst hb
    rw [e] at ha
    exact h1.2 ha
  · have hs : (Lit.int .i64 i).sameKey (.int .i64 u.id) = decide (i = u.id) := by
      simp [Lit.sameKey]
    simp only [hs]
    rw [List.map_append, List.mem_append]
    by_cases e : i = u.id
    · subst e; simp
    · have := h.left i hi
      simp [e, this]

theorem nodup_subN {acc : List NV} (h1 : (acc.map NV.id).Nodup) (h2 : ∀ u ∈ acc, u ∈ N) (hn : (N.map NV.id).Nodup) : acc.length ≤ N.length := by
  have := nodup_sub h1 (m := N.map NV.id) fun x hx => by
    obtain ⟨u, hu, rfl⟩ := List.mem_map.1 hx
    exact List.mem_map.2 ⟨u, h2 u hu, rfl⟩
  rwa [List.length_map, List.length_map] at this
theorem cell_list_new (w : World) (vs : List Value) (t : TypeId) : ∀ j u, vs[j]? = some u → (w.alloc (.cells vs.toArray t)).cell? ((⟨w.heap.size, 0, none⟩ : Addr).add j) = some u := by
  intro j u hj
  rw [Addr.add_lit, Nat.zero_add, cell_of_row _ _ j _ t (0, 0) (heap_alloc_new w _)]
  simpa using hj
set_option maxHeartbeats 8000000 in
theorem nodes_calls (h : FSIn w0 w fb mb N F next l2) (hF : Fits N F next) (hn : (N.map NV.id).Nodup) (hne : N ≠ []) :
    Calls Tryz.prog 15 #[.pointer (some ⟨fb, 0, none⟩)] w fun e w' => ∃ v L, e = .returned (.tuple #[v, .int .i64 next]) ∧ L.Perm N ∧ L.Pairwise (fun a b => a.id ≤ b.id) ∧ FSIn w0 w' fb mb N F next (rowNd v L :: l2) := by
  obtain ⟨i0, hi, hz0, hz1, hz2⟩ := info_parts infoNode
  have hwf : ∀ v ∈ N, WfI v.id := fun v hv => by have := hF.id v hv; exact wfI_of (by omega) (by omega)
  obtain ⟨D, hown, hm⟩ := sat_owns h.mapSat
  have q0 := h.map0
  have h16 := hF.few
  have H1 := hide h
  have HN := hide hn
  have HW := hide hwf
  have HM := hide hm
  have hcame : Came N [] (Maps.has D) := ⟨by simp, by simp, fun i hi => by rw [hm.has hi]; simp⟩
  have hsz : Maps.size D = N.length := hm.size
  have HC := hide hcame
  have Hsz := hide hsz
  clear h hn hwf hF hm hcame hsz
  go_enter Tryz.func15, Tryz.ntmps15
  go_wp2_with (first | (at_range; refine wpList_range_own _ rfl _ 75 rfl 3 80 kI Tryz.underlying75 Rv mb N.length D rfl hown ?_; intro w1 hrg1 hg1 hs1) | go_in)
  go_frame
  have hb1 : Below w.heap.size w w1 := (Below.refl _ w).grown hg1 (Nat.le_refl _) (fun j hj => by cases hj)
  have h2 := ((unhide H1).foundObj hb1 (b := w.heap.size) (Nat.le_refl _) (by omega)).nilRow 33 5
  have H2 : Hid (FSIn w0 w1 fb mb N F next (rowNd (.slice none 0 0) [] :: someB w.heap.size :: l2)) := h2
  have Hrg := hide hrg1
  clear h2 hb1 hg1 hs1 hown hrg1 q0 H1
  go_wp2_with fail
  go_loopg [2, 5] (N.length + 1) (fun k v2 v5 wr => ∃ (acc : List NV) (left : Lit → Bool) (cnt : Nat), cnt < k ∧ acc.length ≤ 16 ∧ Hid (wr.ranges Tryz.prog 3 Rv mb w.heap.size N.length D left cnt) ∧ Hid (FSIn w0 wr fb mb N F next (rowNd v2 acc :: someB w.heap.size :: l2)) ∧ Hid (Came N acc left))
  case atStart => exact ⟨[], _, _, by have := unhide Hsz; omega, by simp, Hrg, H2, HC⟩
  case round =>
    obtain ⟨acc, left, cnt, hk, hacc, Hrg3, HI, HC3⟩ := hrel
    clear Hrg H2 HC Hsz
    have hrg := unhide Hrg3
    go_wp2_with (first | (at_next; refine wpList_next_ranges _ rfl _ rfl 3 kI Rv (Value.int .i64) id (fun key kl hkey => (by obtain ⟨x, hx, _⟩ := Maps.keyOf_int_inv Tryz.underlying3 hkey; exact ⟨x, hx⟩)) (fun v y hv => ⟨v, rfl⟩) mb w.heap.size N.length D left cnt rfl hrg ?_ ?_) | go_in)
    · intro hc0 hl0
      have hperm := (unhide HC3).all (unhide HN) (unhide HW) hl0
      have hlen : acc.length = N.length := hperm.length_eq
      have hpos : 0 < acc.length := by rw [hlen]; exact List.length_pos_iff.2 hne
      have hrow := (unhide HI).rowAt (.head _)
      obtain ⟨g, cap, rfl, hc1, hc2⟩ := row_shape hrow hpos
      have hso := sortNodes_calls hrow rfl (by omega)
      have HSo := hide hso
      have Hp := hide hperm
      clear hrow hso hperm hc0 hl0 hrg hlen hpos hc1 hc2
      obtain ⟨n, hnn⟩ : ∃ n, acc.length = n := ⟨_, rfl⟩
      rw [hnn] at HSo
      have Hnn := hide hnn
      rw [hnn]
      clear hnn
      go_wp2_with fail
      refine (unhide HSo).mono ?_
      rintro e w5 ⟨rfl, L', hp', hsorted, hrow5, hgrow5⟩
      have hLl : L'.length = n := by rw [hp'.length_eq, unhide Hnn]
      have h5 : FSIn w0 w5 fb mb N F next (rowNd (.slice (some ⟨g, 0, none⟩) n cap) L' :: someB w.heap.size :: l2) := by
        unfold rowNd
        rw [hLl]
        exact FSIn.grow [] (unhide HI) hgrow5 hrow5 (.inl rfl)
      have q1 := h5.next1
      have H5 := hide h5
      have Hs := hide hsorted
      have Hp2 := hide (hp'.trans (unhide Hp))
      clear h5 hrow5 hgrow5 hp' hsorted Hp HSo HI hLl Hnn
      go_wp2_with fail
      go_region
      all_goals go_wp2_with fail
      all_goals refine bodyPost_ret (results_tmp2 rfl _ _ _) rfl ?_
      all_goals exact ⟨_, L', rfl, unhide Hp2, unhide Hs, ((unhide H5).forget [_]).drew⟩
    · intro x c kl y1 y2 w2 cnt2 hkey hlk hv hat hrg2 hlt hgr hsz2 hen
      obtain ⟨x', ex, hkl, hwx⟩ := Maps.keyOf_int_inv Tryz.underlying3 hkey
      cases ex
      subst hkl
      have hy : y1 = .held c := by
        have : some ((.held c, []) : DataW Value × List MemPlace) = some (y1, y2) := hv
        exact (congrArg Prod.fst (Option.some.inj this)).symm
      subst hy
      obtain ⟨u, hu, hcu⟩ : ∃ u, findN N x = some u ∧ c = u.val := by
        have hl := fun z => (unhide HM).look x z hwx
        cases hf : findN N x with
        | none =>
          exfalso
          have h1 := hl (.lit (.bool true))
          rw [hat, hf] at h1
          cases h1
        | some u =>
          refine ⟨u, rfl, ?_⟩
          have h1 := hl (.lit (.bool true))
          rw [hat, hf] at h1
          exact DataW.held.inj h1
      subst hcu
      have hid : u.id = x := (findN_some hu).2
      subst hid
      have hmore := (unhide HC3).more hwx hu hlk
      have hsub16 : (acc ++ [u]).length ≤ 16 := by
        have := (nodup_subN hmore.nodup hmore.sub (unhide HN))
        omega
      have h3 := FSIn.turned [_] (unhide HI) hgr
      have hap := h3.apart
      have hlow := h3.low
      have hr3 := h3.rowAt (.head _)
      have hr4 := (hr3.alloc (.cells #[.int .i64 u.id, .int .i64 u.kind, .int .i64 u.up, .int .i64 u.links, .string u.text, .pointer u.ptr] 80)).alloc (.cells #[.int .i64 u.id, .int .i64 u.kind, .int .i64 u.up, .int .i64 u.links, .string u.text] 33)
      have h4 := (h3.alloc (.cells #[.int .i64 u.id, .int .i64 u.kind, .int .i64 u.up, .int .i64 u.links, .string u.text, .pointer u.ptr] 80)).alloc (.cells #[.int .i64 u.id, .int .i64 u.kind, .int .i64 u.up, .int .i64 u.links, .string u.text] 33)
      have hrg4 := (hrg2.alloc (.cells #[.int .i64 u.id, .int .i64 u.kind, .int .i64 u.up, .int .i64 u.links, .string u.text, .pointer u.ptr] 80)).alloc (.cells #[.int .i64 u.id, .int .i64 u.kind, .int .i64 u.up, .int .i64 u.links, .string u.text] 33)
      have hcells := cell_list_new (w2.alloc (.cells #[.int .i64 u.id, .int .i64 u.kind, .int .i64 u.up, .int .i64 u.links, .string u.text, .pointer u.ptr] 80)) [.int .i64 u.id, .int .i64 u.kind, .int .i64 u.up, .int .i64 u.links, .string u.text] 33
      rw [World.size_alloc] at hcells
      have Hr4 := hide hr4
      have H4 := hide h4
      have Hrg4 := hide hrg4
      have Hap := hide hap
      have Hmore := hide hmore
      have Hcl := hide hcells
      obtain ⟨n, hnn⟩ : ∃ n, acc.length = n := ⟨_, rfl⟩
      rw [hnn] at Hr4 hacc
      have Hnn := hide hnn
      unfold NV.val at hen
      clear hkey hv hat hrg2 hgr hsz2 hlk hrg hr3 hr4 h3 h4 hrg4 hap hmore hcells HI HC3 Hrg3 hu hwx hnn
      go_wp2_with (at_builtin; refine wpList_append_own_at _ rfl _ _ 27 rfl w0.heap.size 33 i0 (.agg #[.int .i64 0, .int .i64 0, .int .i64 0, .int .i64 0, .string ⟨#[]⟩]) 5 48 Tryz.underlying27 hi hz0 hz1 hz2 rfl (by decide) _ _ _ rfl (unhide Hr4) ⟨w2.heap.size + 1, 0, none⟩ 1 1 [.int .i64 u.id, .int .i64 u.kind, .int .i64 u.up, .int .i64 u.links, .string u.text] rfl rfl (unhide Hcl) (fun y hy => by simp at hy; rcases hy with rfl | rfl | rfl | rfl | rfl <;> rfl) (by unfold maxLen; omega) (by omega) (by simp; omega) ?_; intro v4 w4 hown4 hgrow4 hnil4 hat4)
      have h5 := FSIn.grow [] (v' := v4) (unhide H4) hgrow4 hown4 (by rcases hat4 with h | h; exact .inl h; exact .inr ⟨_, h, Nat.le_refl _⟩)
      have hrg5 := (unhide Hrg4).kept hgrow4 (unhide Hap).1 (unhide Hap).2
      have H5 : Hid (FSIn w0 w4 fb mb N F next (rowNd v4 (acc ++ [u]) :: someB w.heap.size :: l2)) := by
        show FSIn _ _ _ _ _ _ _ _
        unfold rowNd
        rw [List.length_append, unhide Hnn, flatN_snoc]
        exact h5
      have Hrg5 := hide hrg5
      clear h5 hrg5 hown4 hgrow4 hnil4 hat4 H4 Hrg4 Hr4 Hap Hcl
      go_wp2_with fail
      go_roundg cnt
      case measure => omega
      case rel => exact ⟨acc ++ [u], _, cnt2, hlt, hsub16, Hrg5, H5, Hmore⟩
end Go.Proofs.YtjpmomklkkifjaaGreatDoor.T
namespace Go.Proofs.YtjpmomklkkifjaaGreatDoor.T
open Go.RowKit Go.Lib
set_option maxRecDepth 100000
set_option linter.unusedVariables false
set_option linter.unusedSimpArgs false

structure Later (w : World) where
  wld : World
  bel : Below w.heap.size w wld
instance (w : World) : Nonempty (Later w) := ⟨⟨w, Below.refl _ _⟩⟩
theorem wp_region_later {P : Program} {id : Nat} {Q : Exit → Act → World → Prop} {a : Act} {w : World} {l : List Oper} (hm : P.follows .mixedOrders = true) (hB : Region.lexB .any l.toArray = true)
    (h : wpQuiet P l.toArray (fun w' => ∃ u : Later w, w' = u.wld) (fun a' => ∀ w', (∃ u : Later w, w' = u.wld) → Q .normal a' w') l a) : (Code.region id l.toArray true).wp P Q a w :=
  wp_region_quiet (C := fun w' => ∃ u : Later w, w' = u.wld) hm hB ⟨⟨_, (Below.refl _ _).drew⟩, rfl⟩ (by simpa using h)
theorem Calls.later {P : Program} {f : FuncId} {args : Array Value} {w : World} {u : Later w} {v : Value}
    (h : Calls P f args u.wld fun e w' => e = .returned v ∧ Below u.wld.heap.size u.wld w') : Calls P f args u.wld fun e w'' => e = .returned v ∧ ∃ u' : Later w, w'' = u'.wld :=
  h.mono fun _ w' ⟨he, hb⟩ => ⟨he, ⟨w', u.bel.trans (hb.mono u.bel.size)⟩, rfl⟩

variable {k : Nat} {N : List NV} {F : Forest} {next : Int}
/-- How two names compare. -/
theorem compareS_calls {a b : ByteArray} (ha : checkP a = none) (hb : checkP b = none) (w : World) (hR : Ready w) :
    Calls Tryz.prog 18 #[.string a, .string b] w fun e w' => e = .returned (.int .i64 (cmpB (keyS a) (keyS b))) ∧ Below w.heap.size w w' := by
  obtain ⟨na, ea, _⟩ := name_of_check ha
  obtain ⟨nb, eb, _⟩ := name_of_check hb
  have := Go.Proofs.YtjpmomklkkifjaaGreatDoor.compare_calls (signsOf a) (signsOf b) w hR na.keyed nb.keyed
  rw [← ea, ← eb] at this
  exact this
/-- A node's entries. -/
structure EntsOk (N : List NV) (es : List Item) : Prop where
  key : ∀ x ∈ es, x.key = keyS x.name
  name : ∀ x ∈ es, checkP x.name = none
  node : ∀ x ∈ es, x.node ≠ 1 ∧ ∃ v ∈ N, v.id = x.node
  sorted : Sorted es
  few : es.length ≤ 900
theorem Whole.ents (h : Whole N F next) (hF : Fits N F next) {u : NV} (hu : u ∈ N) : EntsOk N (entsK F u) := by
  unfold entsK
  split
  · rename_i hk
    obtain ⟨tb, htb, ht⟩ := h.tree u hu hk
    have he : entsOf F u = lookF F tb := by unfold entsOf; rw [htb]
    obtain ⟨h1, h2⟩ := h.trees.look ht
    rw [he]
    refine ⟨fun x hx => (h2 x hx).1, fun x hx => (h2 x hx).2, fun x hx => ?_, h1, (show Few 900 F from hF.many).look tb⟩
    have hp : (u.id, x) ∈ pairs N F := List.mem_flatMap.2 ⟨u, hu, List.mem_map.2 ⟨x, by rw [entsK_folder hk htb]; exact hx, rfl⟩⟩
    exact h.linked.named _ hp
  · exact ⟨by simp, by simp, by simp, List.Pairwise.nil, by simp⟩
end Go.Proofs.YtjpmomklkkifjaaGreatDoor.T
