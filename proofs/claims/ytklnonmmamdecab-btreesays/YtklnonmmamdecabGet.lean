/-
  The contract of Tree.Get, over the seat's program: the entry of a key.
-/
import Derived.Test.YtklnonmmamdecabMany
import Derived.Laws.ResultCell
namespace Go.Proofs.Ytklnonmmamdecab
open Go.RowKit Go.Lib
set_option linter.unusedVariables false
set_option linter.unusedSimpArgs false

theorem getL_some {L : List Item} {x : Item} (hs : Sorted L) (hx : x ∈ L) : getL L x.key = some x := by
  unfold getL
  induction L with
  | nil => simp at hx
  | cons y L ih =>
    have h := List.pairwise_cons.1 hs
    rw [List.find?_cons]
    rcases List.mem_cons.1 hx with rfl | h1
    · simp
    · have h2 : ¬ (y.key = x.key) := kLt_ne (h.1 x h1)
      simp only [h2, decide_false]
      exact ih h.2 h1
theorem getL_none {L : List Item} {key : ByteArray} (h : ∀ x ∈ L, x.key ≠ key) : getL L key = none := by
  unfold getL
  rw [List.find?_eq_none]
  intro x hx
  simp [h x hx]
theorem getL_mid {A M C : List Item} {key : ByteArray} (ha : ∀ x ∈ A, kLt x.key key) (hc : ∀ x ∈ C, kLt key x.key) : getL (A ++ M ++ C) key = getL M key := by
  have e1 : A.find? (fun x => decide (x.key = key)) = none := by
    rw [List.find?_eq_none]
    intro x hx
    simp [kLt_ne (ha x hx)]
  have e2 : C.find? (fun x => decide (x.key = key)) = none := by
    rw [List.find?_eq_none]
    intro x hx
    simp [(kLt_ne (hc x hx)).symm]
  unfold getL
  rw [List.find?_append, List.find?_append, e1, e2]
  simp

/-- What Get hands back. -/
def getV : Option Item → Value
  | some x => .tuple #[.agg #[.string x.name, .int .i64 x.node], .bool true]
  | none => .tuple #[.agg #[.string ⟨#[]⟩, .int .i64 0], .bool false]

theorem results_two {fn : Func} {p u : Tmp} (h : fn.results = #[.cell p 33, .tmp u]) (tmps : Array Value) (w : World) (g : Nat) (t : TypeId) (a b : Value) {v : Value}
    (hp : tmps.getD p undef = .pointer (some ⟨g, 0, none⟩)) (hu2 : tmps.getD u undef = v) (hg : w.heap[g]? = some (.cells #[a, b] t (0, 0))) :
    (results fn tmps).run Try.prog w = .ok (.tuple #[.agg #[a, b], v]) w := by
  have hr := run_loadVar_row (P := Try.prog) w g t 33 #[a, b] (0, 0) _ hg Try.underlying33 rfl (by kernel_rfl)
  rw [results_cell_tmp h, hp, hu2]
  simp [asAddr, hr]

/-- What the reading of a node gives. -/
theorem Sub.cells {base : Nat} {w : World} {h : Nat} {k : Kid} (hs : Sub base w h k) : ∃ its kids v0 v1, k.c = its.length ∧ k.L = inter its (kids.map Kid.L) ∧ Shape h its kids ∧ (∀ x ∈ kids, Fit x ∧ Sub base w (h - 1) x) ∧ w.cell? ⟨k.b, 0, none⟩ = some v0 ∧ w.cell? ⟨k.b, 1, none⟩ = some v1 ∧ w.ownsRow base 58 3 v0 its.length (flat its) ∧ w.ownsRow base 49 1 v1 kids.length (kids.map fun y => ptrV y.b) := by
  obtain ⟨its, kids, v0, v1, hn, hk, hf⟩ := hs.open
  refine ⟨its, kids, v0, v1, hn.c, hn.L, ?_, ?_, ?_, ?_, hn.items, hn.below⟩
  · cases h with
    | zero => exact .inl ⟨rfl, hk⟩
    | succ h => exact .inr ⟨by omega, hk.1⟩
  · intro x hx
    cases h with
    | zero => obtain rfl : kids = [] := hk; simp at hx
    | succ h => exact ⟨hf x hx, hk.2 x hx⟩
  · rw [cell_of_row w k.b 0 _ 53 (0, 0) hn.cell]; rfl
  · rw [cell_of_row w k.b 1 _ 53 (0, 0) hn.cell]; rfl

/-- How Get ends. -/
def GetEnd (base : Nat) (w0 : World) (K0 : Nat → Nat) (tb : Nat) (L : List Item) (key : ByteArray) (l2 : List Res) (e : Ending) (w' : World) : Prop :=
  e = .returned (getV (getL L key)) ∧ TreeIn base w0 K0 w' tb L l2

set_option maxRecDepth 100000 in
set_option maxHeartbeats 4000000 in
theorem get_calls (base : Nat) (w0 : World) (K0 : Nat → Nat) (w : World) (tb : Nat) (L : List Item) (l2 : List Res) (key : ByteArray) (HT : TreeIn base w0 K0 w tb L l2) :
    Calls Try.prog 15 #[.pointer (some ⟨tb, 0, none⟩), .string key] w fun e w' => GetEnd base w0 K0 tb L key l2 e w' := by
  obtain ⟨hs, h, k, hL, hc, hc1, H⟩ := HT
  have hbw : base ≤ w.heap.size := H.low (b := tb) (t := 55) (vs := [ptrV k.b]) (by simp)
  have H1 := H.made hbw 33 [.string ⟨#[]⟩, .int .i64 0]
  have q0 : w.cell? ⟨tb, 0, none⟩ = some (.pointer (some ⟨k.b, 0, none⟩)) := H.cellAt (t := 55) (vs := [ptrV k.b]) (by simp) rfl
  have hca : ∀ o, (w.alloc o).cell? ⟨tb, 0, none⟩ = some (.pointer (some ⟨k.b, 0, none⟩)) := fun o => Lib.cell?_alloc_some _ q0
  have hfin : ∀ wx, Hold base w0 K0 wx (.cell w.heap.size 33 [.string ⟨#[]⟩, .int .i64 0] :: .cell tb 55 [ptrV k.b] :: .sub h k :: l2) → TreeIn base w0 K0 wx tb L l2 := fun wx hx => ⟨hs, h, k, hL, hc, hc1, hx.forget []⟩
  obtain ⟨gb, hgb⟩ : ∃ gb, w.heap.size = gb := ⟨_, rfl⟩
  have Hfin : Hid (∀ wx a b, Hold base w0 K0 wx (.cell gb 33 [a, b] :: .cell tb 55 [ptrV k.b] :: .sub h k :: l2) → TreeIn base w0 K0 wx tb L l2) := fun wx a b hx => ⟨hs, h, k, hL, hc, hc1, hx.forget []⟩
  have hsub : Sub base (w.alloc (.cells #[.string ⟨#[]⟩, .int .i64 0] 33)) h k := H1.subAt (by simp)
  have Hst : Hid (Sub base (w.alloc (.cells #[.string ⟨#[]⟩, .int .i64 0] 33)) h k ∧ Sorted k.L ∧ k.c ≤ 3 ∧ getL L key = getL k.L key) := ⟨hsub, by rw [hL]; exact hs, hc, by rw [hL]⟩
  rw [hgb] at H1
  have HH1 := hide H1
  clear H H1 hs hL hc1 hfin hsub hc
  go_enter Try.func15, Try.ntmps15
  go_wp2_with fail
  clear hgb
  go_loopg [6] (h + 2) (fun g v6 wr => ∃ (h' : Nat) (k' : Kid), h' < g ∧ v6 = .pointer (some ⟨k'.b, 0, none⟩) ∧ Hid (Sub base wr h' k' ∧ Sorted k'.L ∧ k'.c ≤ 3 ∧ getL L key = getL k'.L key) ∧ Hid (Hold base w0 K0 wr (.cell gb 33 [.string ⟨#[]⟩, .int .i64 0] :: .cell tb 55 [ptrV k.b] :: .sub h k :: l2)))
  case atStart => exact ⟨h, k, by omega, rfl, Hst, HH1⟩
  case round =>
    obtain ⟨h', k', hg', rfl, HS, HR⟩ := hrel
    obtain ⟨hsub, hsrt, hc3, hget⟩ := unhide HS
    obtain ⟨its, kids, v0, v1, hcc, hkL, hsh, hkid, c0, c1, r0, r1⟩ := hsub.cells
    rw [hkL] at hsrt hget
    have e1 := find_calls k'.b v0 its key wr c0 base r0 (hsh.sorted hsrt) (by omega)
    have E1 := hide e1
    have R0 := hide r0
    have R1 := hide r1
    have C0 := hide c0
    have C1 := hide c1
    have Hsrt := hide hsrt
    have Hget := hide hget
    have Hsh := hide hsh
    have Hkid := hide hkid
    have Hcc := hide hcc
    clear e1 hsub r0 r1 c0 c1 hsrt hget hsh hkid hkL HS
    go_wp2_with fail
    refine (unhide E1).mono ?_
    rintro e w2 ⟨at', is', rfl, hF, hB⟩
    have kp : Kept (fun _ => False) wr w2 := Kept.of_below hB
    have r0 := kp.row (unhide R0) (fun _ _ h => h)
    have r1 := kp.row (unhide R1) (fun _ _ h => h)
    have c0 := (hB.cell (p := ⟨k'.b, 0, none⟩) (World.block_lt_of_cell? _ _ (unhide C0))).trans (unhide C0)
    have c1 := (hB.cell (p := ⟨k'.b, 1, none⟩) (World.block_lt_of_cell? _ _ (unhide C1))).trans (unhide C1)
    have HR2 := hide ((unhide HR).below hB)
    have Hkp := hide kp
    obtain ⟨n, hn⟩ : ∃ n, its.length = n := ⟨_, rfl⟩
    rw [hn] at r0
    clear HR E1 hB kp R0 R1 C0 C1
    rcases hF.split with ⟨rfl, a, x, c, hits, ha, hx, hlow⟩ | ⟨rfl, a, c, hits, ha, hlow, hhigh⟩
    · have han : at' < n := by rw [← hn, hits, ← ha]; simp
      obtain ⟨g0, cap0, rfl, _, _⟩ := row_shape r0 (by omega)
      obtain ⟨s1, s2, s3⟩ := item_cell r0 (j := at') (x := x) (by rw [hits, ← ha]; simp)
      have haz : (at' : Int) < (n : Int) := by omega
      have hh := unhide HR2
      have k0 : w2.cell? ⟨gb, 0, none⟩ = some (.string ⟨#[]⟩) := hh.cellAt (t := 33) (vs := [.string ⟨#[]⟩, .int .i64 0]) (by simp) rfl
      have k1 : w2.cell? ⟨gb, 1, none⟩ = some (.int .i64 0) := hh.cellAt (t := 33) (vs := [.string ⟨#[]⟩, .int .i64 0]) (by simp) rfl
      have f0 : w2.frozen? ⟨gb, 0, none⟩ = false := hh.frozenAt (t := 33) (vs := [.string ⟨#[]⟩, .int .i64 0]) (by simp) 0
      have f1 : w2.frozen? ⟨gb, 1, none⟩ = false := hh.frozenAt (t := 33) (vs := [.string ⟨#[]⟩, .int .i64 0]) (by simp) 1
      have h5 := hide ((hh.store [] 0 (.string x.name) _ rfl).store [] 1 (.int .i64 x.node) _ rfl)
      have hres : getL L key = some x := by
        rw [unhide Hget, ← hx]
        refine getL_some (unhide Hsrt) ?_
        rw [hits]
        have hsub' := inter_sub its (kids.map Kid.L) (by rcases unhide Hsh with ⟨_, h0⟩ | ⟨_, h0⟩; exact .inl (by rw [h0]; rfl); exact .inr (by simpa using h0))
        rw [hits] at hsub'
        exact hsub'.subset (by simp)
      have Hres := hide hres
      clear hF hits ha hx hlow hh r0 r1 hres hn
      go_wp2_with fail
      have h6 := unhide h5
      simp only [List.nil_append, List.set_cons_zero, List.set_cons_succ] at h6
      refine bodyPost_ret (results_two (p := 4) (u := 5) rfl _ _ gb 33 (.string x.name) (.int .i64 x.node) (v := .bool true) rfl rfl (h6.sat (.cell gb 33 [.string x.name, .int .i64 x.node]) (by simp)).2) rfl ?_
      exact ⟨by rw [unhide Hres]; rfl, unhide Hfin _ _ _ h6⟩
    · have hle := leaf_calls k'.b v0 v1 kids.length w2 c1 base _ r1 (by rcases unhide Hsh with ⟨_, h0⟩ | ⟨_, h0⟩; rw [h0]; simp; have := unhide Hcc; omega)
      have E2 := hide hle
      have Hits := hide hits
      have Ha := hide ha
      have Hlow := hide hlow
      have Hhigh := hide hhigh
      clear hle hF hits ha hlow hhigh
      rcases unhide Hsh with ⟨h0, hk0⟩ | ⟨h0, hk0⟩
      · have hd : decide (kids.length = 0) = true := by rw [hk0]; rfl
        rw [hd] at E2
        have hh := unhide HR2
        have k0 : w2.cell? ⟨gb, 0, none⟩ = some (.string ⟨#[]⟩) := hh.cellAt (t := 33) (vs := [.string ⟨#[]⟩, .int .i64 0]) (by simp) rfl
        have k1 : w2.cell? ⟨gb, 1, none⟩ = some (.int .i64 0) := hh.cellAt (t := 33) (vs := [.string ⟨#[]⟩, .int .i64 0]) (by simp) rfl
        have f0 : w2.frozen? ⟨gb, 0, none⟩ = false := hh.frozenAt (t := 33) (vs := [.string ⟨#[]⟩, .int .i64 0]) (by simp) 0
        have f1 : w2.frozen? ⟨gb, 1, none⟩ = false := hh.frozenAt (t := 33) (vs := [.string ⟨#[]⟩, .int .i64 0]) (by simp) 1
        have h5 := hide ((hh.store [] 0 (.string ⟨#[]⟩) _ rfl).store [] 1 (.int .i64 0) _ rfl)
        have hres : getL L key = none := by
          rw [unhide Hget, hk0, List.map_nil, inter_nil, unhide Hits]
          refine getL_none (fun x hx => ?_)
          rcases List.mem_append.1 hx with h1 | h1
          · exact kLt_ne (unhide Hlow x h1)
          · exact (kLt_ne (unhide Hhigh x h1)).symm
        have Hres := hide hres
        clear hd hk0 hh hres r0 r1 c0 hn
        go_wp2_with fail
        refine (unhide E2).mono ?_
        rintro e w3 ⟨rfl, rfl⟩
        go_wp2_with fail
        have h6 := unhide h5
        simp only [List.nil_append, List.set_cons_zero, List.set_cons_succ] at h6
        refine bodyPost_ret (results_two (p := 4) (u := 5) rfl _ _ gb 33 (.string ⟨#[]⟩) (.int .i64 0) (v := .bool false) rfl rfl (h6.sat (.cell gb 33 [.string ⟨#[]⟩, .int .i64 0]) (by simp)).2) rfl ?_
        exact ⟨by rw [unhide Hres]; rfl, unhide Hfin _ _ _ h6⟩
      · have hd : decide (kids.length = 0) = false := by simp; intro h1; rw [h1] at hk0; simp at hk0
        rw [hd] at E2
        have hat : at' < kids.length := by have := unhide Ha; rw [hk0, unhide Hits, List.length_append]; omega
        obtain ⟨ks1, kk, ks2, hkids, hks1⟩ : ∃ ks1 kk ks2, kids = ks1 ++ kk :: ks2 ∧ ks1.length = at' := ⟨kids.take at', kids[at'], kids.drop (at' + 1), by rw [← List.drop_eq_getElem_cons hat, List.take_append_drop], by rw [List.length_take]; omega⟩
        obtain ⟨N, hN⟩ : ∃ N, kids.length = N := ⟨_, rfl⟩
        rw [hN] at r1 hat
        obtain ⟨g1, cap1, rfl, _, _⟩ := row_shape r1 (by omega)
        have p1 := ptr_cell r1 (j := at') (k := kk) (by rw [hkids, ← hks1]; simp)
        have haz : (at' : Int) < (N : Int) := by omega
        have hkk := unhide Hkid kk (by rw [hkids]; simp)
        have hl12 : a.length = (ks1.map Kid.L).length ∧ c.length = (ks2.map Kid.L).length := by
          have h1 := unhide Ha
          rw [hkids, unhide Hits] at hk0
          simp only [List.length_append, List.length_cons] at hk0
          simp only [List.length_map]
          omega
        have hnext : Sub base w2 (h' - 1) kk ∧ Sorted kk.L ∧ kk.c ≤ 3 ∧ getL L key = getL kk.L key := by
          have hs1 := unhide Hsrt
          have hg1 := unhide Hget
          rw [unhide Hits, hkids, List.map_append, List.map_cons] at hs1 hg1
          rw [inter_split a _ c kk.L _ hl12.1 hl12.2] at hs1 hg1
          refine ⟨hkk.2.kept (unhide Hkp) (fun _ _ h => h), hs1.mid, hkk.1.2, ?_⟩
          rw [hg1]
          exact getL_mid (pre_low hl12.1 (t := kk.L ++ post c (ks2.map Kid.L)) (by rw [← List.append_assoc]; exact hs1) (unhide Hlow)) (post_high hl12.2 hs1 (unhide Hhigh))
        have Hnext := hide hnext
        clear hd hk0 hkids hks1 hN hkk hl12 hnext r0 r1 c0 hn
        go_wp2_with fail
        refine (unhide E2).mono ?_
        rintro e w3 ⟨rfl, rfl⟩
        go_wp2_with fail
        go_roundg h'
        case measure => omega
        case rel => exact ⟨h' - 1, kk, by omega, rfl, Hnext, HR2⟩

#print axioms get_calls
end Go.Proofs.Ytklnonmmamdecab
