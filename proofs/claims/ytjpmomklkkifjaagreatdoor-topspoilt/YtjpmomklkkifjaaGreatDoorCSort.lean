import Derived.Test.YtjpmomklkkifjaaGreatDoorCBMany
import Derived.Laws.ResultCell
import Derived.Test.YtjpmomklkkifjaaGreatDoorCBSearch
import Derived.Test.YtjpmomklkkifjaaGreatDoorCBTree
import Derived.Outline
import Derived.Test.YtjpmomklkkifjaaGreatDoorProg
import Derived.WalkKit
import Derived.WalkLawsBesides
import Derived.WalkSpells
import Derived.Shelf.SlSortCmp.Insertion
set_option maxRecDepth 100000
set_option linter.unusedVariables false
set_option linter.unusedSimpArgs false
namespace Go.Proofs.YtjpmomklkkifjaaGreatDoor.T
open Go.RowKit Go.Lib
theorem getL_some {L : List Item} {x : Item} (hs : Sorted L) (hx : x ∈ L) : getL L x.key = some x := by
  unfold getL
  induction L with
  | nil => simp at hx
  | cons y L ih =>
    have h := List.pairwise_cons.1 hs
    rw [List.find?_cons]
    rcases List.mem_cons.1 hx with rfl | h1
    · simp
    · have h2 : ¬ (y.key = x.key) := kLt_ne (h.1 x h1)
      simp only [h2, decide_false]
      exact ih h.2 h1
theorem getL_none {L : List Item} {key : ByteArray} (h : ∀ x ∈ L, x.key ≠ key) : getL L key = none := by
  unfold getL
  rw [List.find?_eq_none]
  intro x hx
  simp [h x hx]
theorem getL_mid {A M C : List Item} {key : ByteArray} (ha : ∀ x ∈ A, kLt x.key key) (hc : ∀ x ∈ C, kLt key x.key) : getL (A ++ M ++ C) key = getL M key := by
  have e1 : A.find? (fun x => decide (x.key = key)) = none := by
    rw [List.find?_eq_none]
    intro x hx
    simp [kLt_ne (ha x hx)]
  have e2 : C.find? (fun x => decide (x.key = key)) = none := by
    rw [List.find?_eq_none]
    intro x hx
    simp [(kLt_ne (hc x hx)).symm]
  unfold getL
  rw [List.find?_append, List.find?_append, e1, e2]
  simp
def getV : Option Item → Value
  | some x => .tuple #[.agg #[.string x.name, .int .i64 x.node], .bool true]
  | none => .tuple #[.agg #[.string ⟨#[]⟩, .int .i64 0], .bool false]
theorem results_two {fn : Func} {p u : Tmp} (h : fn.results = #[.cell p 38, .tmp u]) (tmps : Array Value) (w : World) (g : Nat) (t : TypeId) (a b : Value) {v : Value}
    (hp : tmps.getD p undef = .pointer (some ⟨g, 0, none⟩)) (hu2 : tmps.getD u undef = v) (hg : w.heap[g]? = some (.cells #[a, b] t (0, 0))) :
    (results fn tmps).run Tryz.prog w = .ok (.tuple #[.agg #[a, b], v]) w := by
  have hr := run_loadVar_row (P := Tryz.prog) w g t 38 #[a, b] (0, 0) _ hg Tryz.underlying38 rfl (by kernel_rfl)
  rw [results_cell_tmp h, hp, hu2]
  simp [asAddr, hr]
theorem Sub.cells {base : Nat} {w : World} {h : Nat} {k : Kid} (hs : Sub base w h k) : ∃ its kids v0 v1, k.c = its.length ∧ k.L = inter its (kids.map Kid.L) ∧ Shape h its kids ∧ (∀ x ∈ kids, Fit x ∧ Sub base w (h - 1) x) ∧ w.cell? ⟨k.b, 0, none⟩ = some v0 ∧ w.cell? ⟨k.b, 1, none⟩ = some v1 ∧ w.ownsRow base 190 3 v0 its.length (flat its) ∧ w.ownsRow base 128 1 v1 kids.length (kids.map fun y => ptrV y.b) := by
  obtain ⟨its, kids, v0, v1, hn, hk, hf⟩ := hs.open
  refine ⟨its, kids, v0, v1, hn.c, hn.L, ?_, ?_, ?_, ?_, hn.items, hn.below⟩
  · cases h with
    | zero => exact .inl ⟨rfl, hk⟩
    | succ h => exact .inr ⟨by omega, hk.1⟩
  · intro x hx
    cases h with
    | zero => obtain rfl : kids = [] := hk; simp at hx
    | succ h => exact ⟨hf x hx, hk.2 x hx⟩
  · rw [cell_of_row w k.b 0 _ 188 (0, 0) hn.cell]; rfl
  · rw [cell_of_row w k.b 1 _ 188 (0, 0) hn.cell]; rfl
def GetEnd (base : Nat) (w0 : World) (K0 : Nat → Nat) (tb : Nat) (L : List Item) (key : ByteArray) (l2 : List Res) (e : Ending) (w' : World) : Prop :=
  e = .returned (getV (getL L key)) ∧ TreeIn base w0 K0 w' tb L l2
set_option maxRecDepth 100000 in
set_option maxHeartbeats 4000000 in
theorem get_calls (base : Nat) (w0 : World) (K0 : Nat → Nat) (w : World) (tb : Nat) (L : List Item) (l2 : List Res) (key : ByteArray) (HT : TreeIn base w0 K0 w tb L l2) :
    Calls Tryz.prog 107 #[.pointer (some ⟨tb, 0, none⟩), .string key] w fun e w' => GetEnd base w0 K0 tb L key l2 e w' := by
  obtain ⟨hs, h, k, hL, hc, hc1, H⟩ := HT
  have hbw : base ≤ w.heap.size := H.low (b := tb) (t := 130) (vs := [ptrV k.b]) (by simp)
  have H1 := H.made hbw 38 [.string ⟨#[]⟩, .int .i64 0]
  have q0 : w.cell? ⟨tb, 0, none⟩ = some (.pointer (some ⟨k.b, 0, none⟩)) := H.cellAt (t := 130) (vs := [ptrV k.b]) (by simp) rfl
  have hca : ∀ o, (w.alloc o).cell? ⟨tb, 0, none⟩ = some (.pointer (some ⟨k.b, 0, none⟩)) := fun o => Lib.cell?_alloc_some _ q0
  have hfin : ∀ wx, Hold base w0 K0 wx (.cell w.heap.size 38 [.string ⟨#[]⟩, .int .i64 0] :: .cell tb 130 [ptrV k.b] :: .sub h k :: l2) → TreeIn base w0 K0 wx tb L l2 := fun wx hx => ⟨hs, h, k, hL, hc, hc1, hx.forget []⟩
  obtain ⟨gb, hgb⟩ : ∃ gb, w.heap.size = gb := ⟨_, rfl⟩
  have Hfin : Hid (∀ wx a b, Hold base w0 K0 wx (.cell gb 38 [a, b] :: .cell tb 130 [ptrV k.b] :: .sub h k :: l2) → TreeIn base w0 K0 wx tb L l2) := fun wx a b hx => ⟨hs, h, k, hL, hc, hc1, hx.forget []⟩
  have hsub : Sub base (w.alloc (.cells #[.string ⟨#[]⟩, .int .i64 0] 38)) h k := H1.subAt (by simp)
  have Hst : Hid (Sub base (w.alloc (.cells #[.string ⟨#[]⟩, .int .i64 0] 38)) h k ∧ Sorted k.L ∧ k.c ≤ 3 ∧ getL L key = getL k.L key) := ⟨hsub, by rw [hL]; exact hs, hc, by rw [hL]⟩
  rw [hgb] at H1
  have HH1 := hide H1
  clear H H1 hs hL hc1 hfin hsub hc
  go_enter Tryz.func107, Tryz.ntmps107
  go_wp2_with fail
  clear hgb
  go_loopg [6] (h + 2) (fun g v6 wr => ∃ (h' : Nat) (k' : Kid), h' < g ∧ v6 = .pointer (some ⟨k'.b, 0, none⟩) ∧ Hid (Sub base wr h' k' ∧ Sorted k'.L ∧ k'.c ≤ 3 ∧ getL L key = getL k'.L key) ∧ Hid (Hold base w0 K0 wr (.cell gb 38 [.string ⟨#[]⟩, .int .i64 0] :: .cell tb 130 [ptrV k.b] :: .sub h k :: l2)))
  case atStart => exact ⟨h, k, by omega, rfl, Hst, HH1⟩
  case round =>
    obtain ⟨h', k', hg', rfl, HS, HR⟩ := hrel
    obtain ⟨hsub, hsrt, hc3, hget⟩ := unhide HS
    obtain ⟨its, kids, v0, v1, hcc, hkL, hsh, hkid, c0, c1, r0, r1⟩ := hsub.cells
    rw [hkL] at hsrt hget
    have e1 := find_calls k'.b v0 its key wr c0 base r0 (hsh.sorted hsrt) (by omega)
    have E1 := hide e1
    have R0 := hide r0
    have R1 := hide r1
    have C0 := hide c0
    have C1 := hide c1
    have Hsrt := hide hsrt
    have Hget := hide hget
    have Hsh := hide hsh
    have Hkid := hide hkid
    have Hcc := hide hcc
    clear e1 hsub r0 r1 c0 c1 hsrt hget hsh hkid hkL HS
    go_wp2_with fail
    refine (unhide E1).mono ?_
    rintro e w2 ⟨at', is', rfl, hF, hB⟩
    have kp : Kept (fun _ => False) wr w2 := Kept.of_below hB
    have r0 := kp.row (unhide R0) (fun _ _ h => h)
    have r1 := kp.row (unhide R1) (fun _ _ h => h)
    have c0 := (hB.cell (p := ⟨k'.b, 0, none⟩) (World.block_lt_of_cell? _ _ (unhide C0))).trans (unhide C0)
    have c1 := (hB.cell (p := ⟨k'.b, 1, none⟩) (World.block_lt_of_cell? _ _ (unhide C1))).trans (unhide C1)
    have HR2 := hide ((unhide HR).below hB)
    have Hkp := hide kp
    obtain ⟨n, hn⟩ : ∃ n, its.length = n := ⟨_, rfl⟩
    rw [hn] at r0
    clear HR E1 hB kp R0 R1 C0 C1
    rcases hF.split with ⟨rfl, a, x, c, hits, ha, hx, hlow⟩ | ⟨rfl, a, c, hits, ha, hlow, hhigh⟩
    · have han : at' < n := by rw [← hn, hits, ← ha]; simp
      obtain ⟨g0, cap0, rfl, _, _⟩ := row_shape r0 (by omega)
      obtain ⟨s1, s2, s3⟩ := item_cell r0 (j := at') (x := x) (by rw [hits, ← ha]; simp)
      have haz : (at' : Int) < (n : Int) := by omega
      have hh := unhide HR2
      have k0 : w2.cell? ⟨gb, 0, none⟩ = some (.string ⟨#[]⟩) := hh.cellAt (t := 38) (vs := [.string ⟨#[]⟩, .int .i64 0]) (by simp) rfl
      have k1 : w2.cell? ⟨gb, 1, none⟩ = some (.int .i64 0) := hh.cellAt (t := 38) (vs := [.string ⟨#[]⟩, .int .i64 0]) (by simp) rfl
      have f0 : w2.frozen? ⟨gb, 0, none⟩ = false := hh.frozenAt (t := 38) (vs := [.string ⟨#[]⟩, .int .i64 0]) (by simp) 0
      have f1 : w2.frozen? ⟨gb, 1, none⟩ = false := hh.frozenAt (t := 38) (vs := [.string ⟨#[]⟩, .int .i64 0]) (by simp) 1
      have h5 := hide ((hh.store [] 0 (.string x.name) _ rfl).store [] 1 (.int .i64 x.node) _ rfl)
      have hres : getL L key = some x := by
        rw [unhide Hget, ← hx]
        refine getL_some (unhide Hsrt) ?_
        rw [hits]
        have hsub' := inter_sub its (kids.map Kid.L) (by rcases unhide Hsh with ⟨_, h0⟩ | ⟨_, h0⟩; exact .inl (by rw [h0]; rfl); exact .inr (by simpa using h0))
        rw [hits] at hsub'
        exact hsub'.subset (by simp)
      have Hres := hide hres
      clear hF hits ha hx hlow hh r0 r1 hres hn
      go_wp2_with fail
      have h6 := unhide h5
      simp only [List.nil_append, List.set_cons_zero, List.set_cons_succ] at h6
      refine bodyPost_ret (results_two (p := 4) (u := 5) rfl _ _ gb 38 (.string x.name) (.int .i64 x.node) (v := .bool true) rfl rfl (h6.sat (.cell gb 38 [.string x.name, .int .i64 x.node]) (by simp)).2) rfl ?_
      exact ⟨by rw [unhide Hres]; rfl, unhide Hfin _ _ _ h6⟩
    · have hle := leaf_calls k'.b v0 v1 kids.length w2 c1 base _ r1 (by rcases unhide Hsh with ⟨_, h0⟩ | ⟨_, h0⟩; rw [h0]; simp; have := unhide Hcc; omega)
      have E2 := hide hle
      have Hits := hide hits
      have Ha := hide ha
      have Hlow := hide hlow
      have Hhigh := hide hhigh
      clear hle hF hits ha hlow hhigh
      rcases unhide Hsh with ⟨h0, hk0⟩ | ⟨h0, hk0⟩
      · have hd : decide (kids.length = 0) = true := by rw [hk0]; rfl
        rw [hd] at E2
        have hh := unhide HR2
        have k0 : w2.cell? ⟨gb, 0, none⟩ = some (.string ⟨#[]⟩) := hh.cellAt (t := 38) (vs := [.string ⟨#[]⟩, .int .i64 0]) (by simp) rfl
        have k1 : w2.cell? ⟨gb, 1, none⟩ = some (.int .i64 0) := hh.cellAt (t := 38) (vs := [.string ⟨#[]⟩, .int .i64 0]) (by simp) rfl
        have f0 : w2.frozen? ⟨gb, 0, none⟩ = false := hh.frozenAt (t := 38) (vs := [.string ⟨#[]⟩, .int .i64 0]) (by simp) 0
        have f1 : w2.frozen? ⟨gb, 1, none⟩ = false := hh.frozenAt (t := 38) (vs := [.string ⟨#[]⟩, .int .i64 0]) (by simp) 1
        have h5 := hide ((hh.store [] 0 (.string ⟨#[]⟩) _ rfl).store [] 1 (.int .i64 0) _ rfl)
        have hres : getL L key = none := by
          rw [unhide Hget, hk0, List.map_nil, inter_nil, unhide Hits]
          refine getL_none (fun x hx => ?_)
          rcases List.mem_append.1 hx with h1 | h1
          · exact kLt_ne (unhide Hlow x h1)
          · exact (kLt_ne (unhide Hhigh x h1)).symm
        have Hres := hide hres
        clear hd hk0 hh hres r0 r1 c0 hn
        go_wp2_with fail
        refine (unhide E2).mono ?_
        rintro e w3 ⟨rfl, rfl⟩
        go_wp2_with fail
        have h6 := unhide h5
        simp only [List.nil_append, List.set_cons_zero, List.set_cons_succ] at h6
        refine bodyPost_ret (results_two (p := 4) (u := 5) rfl _ _ gb 38 (.string ⟨#[]⟩) (.int .i64 0) (v := .bool false) rfl rfl (h6.sat (.cell gb 38 [.string ⟨#[]⟩, .int .i64 0]) (by simp)).2) rfl ?_
        exact ⟨by rw [unhide Hres]; rfl, unhide Hfin _ _ _ h6⟩
      · have hd : decide (kids.length = 0) = false := by simp; intro h1; rw [h1] at hk0; simp at hk0
        rw [hd] at E2
        have hat : at' < kids.length := by have := unhide Ha; rw [hk0, unhide Hits, List.length_append]; omega
        obtain ⟨ks1, kk, ks2, hkids, hks1⟩ : ∃ ks1 kk ks2, kids = ks1 ++ kk :: ks2 ∧ ks1.length = at' := ⟨kids.take at', kids[at'], kids.drop (at' + 1), by rw [← List.drop_eq_getElem_cons hat, List.take_append_drop], by rw [List.length_take]; omega⟩
        obtain ⟨N, hN⟩ : ∃ N, kids.length = N := ⟨_, rfl⟩
        rw [hN] at r1 hat
        obtain ⟨g1, cap1, rfl, _, _⟩ := row_shape r1 (by omega)
        have p1 := ptr_cell r1 (j := at') (k := kk) (by rw [hkids, ← hks1]; simp)
        have haz : (at' : Int) < (N : Int) := by omega
        have hkk := unhide Hkid kk (by rw [hkids]; simp)
        have hl12 : a.length = (ks1.map Kid.L).length ∧ c.length = (ks2.map Kid.L).length := by
          have h1 := unhide Ha
          rw [hkids, unhide Hits] at hk0
          simp only [List.length_append, List.length_cons] at hk0
          simp only [List.length_map]
          omega
        have hnext : Sub base w2 (h' - 1) kk ∧ Sorted kk.L ∧ kk.c ≤ 3 ∧ getL L key = getL kk.L key := by
          have hs1 := unhide Hsrt
          have hg1 := unhide Hget
          rw [unhide Hits, hkids, List.map_append, List.map_cons] at hs1 hg1
          rw [inter_split a _ c kk.L _ hl12.1 hl12.2] at hs1 hg1
          refine ⟨hkk.2.kept (unhide Hkp) (fun _ _ h => h), hs1.mid, hkk.1.2, ?_⟩
          rw [hg1]
          exact getL_mid (pre_low hl12.1 (t := kk.L ++ post c (ks2.map Kid.L)) (by rw [← List.append_assoc]; exact hs1) (unhide Hlow)) (post_high hl12.2 hs1 (unhide Hhigh))
        have Hnext := hide hnext
        clear hd hk0 hkids hks1 hN hkk hl12 hnext r0 r1 c0 hn
        go_wp2_with fail
        refine (unhide E2).mono ?_
        rintro e w3 ⟨rfl, rfl⟩
        go_wp2_with fail
        go_roundg h'
        case measure => omega
        case rel => exact ⟨h' - 1, kk, by omega, rfl, Hnext, HR2⟩
end Go.Proofs.YtjpmomklkkifjaaGreatDoor.T
namespace Go.Proofs.YtjpmomklkkifjaaGreatDoor.T
open Go.RowKit
abbrev Forest := List (Nat × List Item)
def lookF (F : Forest) (tb : Nat) : List Item := ((F.find? fun x => x.1 == tb).map (·.2)).getD []
def entsOf (F : Forest) (v : NV) : List Item := match v.tb with | none => [] | some tb => lookF F tb
def setF (F : Forest) (tb : Nat) (L : List Item) : Forest := F.map fun x => if x.1 == tb then (tb, L) else x
inductive ForR : Forest → List Res → Prop
  | nil : ForR [] []
  | cons {F : Forest} {rs : List Res} (tb : Nat) (L : List Item) (h : Nat) (k : Kid) : Sorted L → k.L = L → k.c ≤ 3 → (h = 0 ∨ 1 ≤ k.c) → ForR F rs → ForR ((tb, L) :: F) (.cell tb 130 [ptrV k.b] :: .sub h k :: rs)
abbrev H0 (w0 w : World) (rs : List Res) : Prop := Hold w0.heap.size w0 (fun _ => 0) w rs
theorem H0.below {w0 w : World} {rs : List Res} (h : H0 w0 w rs) : Below w0.heap.size w0 w := h.kept.below (Nat.le_refl _) (fun x hx => absurd hx (by omega))
theorem H0.start (w0 : World) : H0 w0 w0 [] := ⟨by simp, fun x => by rw [total_nil]; omega, fun x _ => by rw [total_nil]; omega, Kept.refl _ _⟩
theorem H0.step {w0 w w' : World} {rs : List Res} (h : H0 w0 w rs) (hb : Below w.heap.size w w') : H0 w0 w' rs := h.keep (Kept.of_below hb)
def FSIn (w0 w : World) (fb mb : Nat) (N : List NV) (F : Forest) (next : Int) (l2 : List Res) : Prop :=
  ∃ rs, ForR F rs ∧ H0 w0 w (.cell fb 77 [.map (some mb), .int .i64 next] :: .obj mb (IsMapN N) :: (rs ++ l2))
structure Fits (N : List NV) (F : Forest) (next : Int) : Prop where
  tree : ∀ v ∈ N, v.kind = 1 → ∃ tb, v.tb = some tb ∧ tb ∈ F.map (·.1)
  few : N.length ≤ 16
  id : ∀ v ∈ N, 0 ≤ v.id ∧ v.id ≤ 999
  up : ∀ v ∈ N, 0 ≤ v.up ∧ v.up ≤ 999
  ents : ∀ x ∈ F, ∀ it ∈ x.2, 0 ≤ it.node ∧ it.node ≤ 999
  full : ∀ x ∈ F, ∀ it ∈ x.2, it.key.toList.isEmpty = false
  next : 1 ≤ next ∧ next ≤ 1000
  many : ∀ x ∈ F, x.2.length ≤ 900
theorem ForR.split {F : Forest} {rs : List Res} (h : ForR F rs) {tb : Nat} (ht : tb ∈ F.map (·.1)) :
    ∃ h' k rs1 rs2, rs = rs1 ++ .cell tb 130 [ptrV k.b] :: .sub h' k :: rs2 ∧ Sorted (lookF F tb) ∧ k.L = lookF F tb ∧ k.c ≤ 3 ∧ (h' = 0 ∨ 1 ≤ k.c) ∧
      ∀ (h2 : Nat) (k2 : Kid) (L : List Item), Sorted L → k2.L = L → k2.c ≤ 3 → (h2 = 0 ∨ 1 ≤ k2.c) → (∀ x ∈ rs1 ++ rs2, ∀ t vs, x ≠ .cell tb t vs) → ForR (setF F tb L) (rs1 ++ .cell tb 130 [ptrV k2.b] :: .sub h2 k2 :: rs2) := by
  induction h with
  | nil => simp at ht
  | @cons F rs tb' L' h' k' hs hL hc h1 hr ih =>
    by_cases he : tb' = tb
    · subst he
      have e : lookF ((tb', L') :: F) tb' = L' := by simp [lookF]
      refine ⟨h', k', [], rs, rfl, by rw [e]; exact hs, by rw [e]; exact hL, hc, h1, fun h2 k2 L hs2 hL2 hc2 h12 hno => ?_⟩
      have e2 : setF ((tb', L') :: F) tb' L = (tb', L) :: F := by
        have : ∀ x ∈ F, x.1 ≠ tb' := by
          intro x hx e3
          have key : ∀ {F : Forest} {rs : List Res}, ForR F rs → ∀ x ∈ F, ∃ k : Kid, Res.cell x.1 130 [ptrV k.b] ∈ rs := by
            intro F rs hr
            induction hr with
            | nil => simp
            | cons tb L h k _ _ _ _ _ ih =>
              intro x hx
              rcases List.mem_cons.1 hx with rfl | hx
              · exact ⟨k, by simp⟩
              · obtain ⟨k, hk⟩ := ih x hx; exact ⟨k, by simp [hk]⟩
          obtain ⟨k, hk⟩ := key hr x hx
          rw [e3] at hk
          exact hno _ (by simpa using hk) _ _ rfl
        simp only [setF, List.map_cons, beq_self_eq_true, if_true]
        congr 1
        have : ∀ x ∈ F, (if (x.1 == tb') = true then (tb', L) else x) = x := fun x hx => by
          rw [if_neg]; simpa using this x hx
        exact (List.map_congr_left this).trans (List.map_id _)
      rw [e2]
      exact .cons tb' L h2 k2 hs2 hL2 hc2 h12 hr
    · have ht' : tb ∈ F.map (·.1) := by simp at ht; rcases ht with e | h; exact absurd e.symm he; simpa using h
      obtain ⟨h2, k2, rs1, rs2, e, a1, a2, a3, a4, a5⟩ := ih ht'
      have el : lookF ((tb', L') :: F) tb = lookF F tb := by
        have : (tb' == tb) = false := by simpa using he
        simp [lookF, List.find?_cons, this]
      refine ⟨h2, k2, .cell tb' 130 [ptrV k'.b] :: .sub h' k' :: rs1, rs2, by rw [e]; rfl, by rw [el]; exact a1, by rw [el]; exact a2, a3, a4, fun h3 k3 L b1 b2 b3 b4 b5 => ?_⟩
      have e2 : setF ((tb', L') :: F) tb L = (tb', L') :: setF F tb L := by
        simp [setF, he]
      rw [e2]
      exact .cons tb' L' h' k' hs hL hc h1 (a5 h3 k3 L b1 b2 b3 b4 fun x hx => b5 x (by simp at hx ⊢; rcases hx with h | h <;> simp [h]))
theorem FSIn.tree {w0 w : World} {fb mb : Nat} {N : List NV} {F : Forest} {next : Int} {l2 : List Res} (h : FSIn w0 w fb mb N F next l2) {tb : Nat} (ht : tb ∈ F.map (·.1)) :
    ∃ rest : List Res, TreeIn w0.heap.size w0 (fun _ => 0) w tb (lookF F tb) rest ∧
      ∀ w' L, TreeIn w0.heap.size w0 (fun _ => 0) w' tb L rest → FSIn w0 w' fb mb N (setF F tb L) next l2 := by
  obtain ⟨rs, hr, H⟩ := h
  obtain ⟨h', k, rs1, rs2, rfl, a1, a2, a3, a4, a5⟩ := hr.split ht
  refine ⟨.cell fb 77 [.map (some mb), .int .i64 next] :: .obj mb (IsMapN N) :: (rs1 ++ rs2 ++ l2), ⟨a1, h', k, a2, a3, a4, ?_⟩, fun w' L hT => ?_⟩
  · refine H.conv (fun x => ?_) (fun r hr => H.sat r ?_)
    · simp only [total_append, total_cons]; omega
    · simp only [List.mem_append, List.mem_cons] at hr ⊢
      rcases hr with h | h | h | h | (h | h) | h <;> simp [h]
  · obtain ⟨s1, h2, k2, b1, b2, b3, H2⟩ := hT
    refine ⟨rs1 ++ .cell tb 130 [ptrV k2.b] :: .sub h2 k2 :: rs2, a5 h2 k2 L s1 b1 b2 b3 fun x hx t vs e => ?_, ?_⟩
    · have h3 := H2.uniq tb
      subst e
      have h4 : 1 ≤ total (rs1 ++ rs2) tb := by
        have := total_mem hx tb
        rw [foot_cell, one_self] at this
        exact this
      simp only [total_append, total_cons, foot_cell, one_self] at h3 h4
      omega
    · refine H2.conv (fun x => ?_) (fun r hr => H2.sat r ?_)
      · simp only [total_append, total_cons]; omega
      · simp only [List.mem_append, List.mem_cons] at hr ⊢
        rcases hr with h | h | (h | h | h | h) | h <;> simp [h]
theorem lookF_set (F : Forest) (tb : Nat) (L : List Item) (h : tb ∈ F.map (·.1)) : lookF (setF F tb L) tb = L := by
  induction F with
  | nil => simp at h
  | cons x F ih =>
    by_cases e : (x.1 == tb) = true
    · have ex : x.1 = tb := by simpa using e
      simp [lookF, setF, ex]
    · have e' : (x.1 == tb) = false := by simpa using e
      have h' : tb ∈ F.map (·.1) := by
        simp at h e
        rcases h with h | h
        · exact absurd h.symm e
        · simpa using h
      have := ih h'
      simp only [lookF, setF, List.map_cons, e', List.find?_cons] at this ⊢
      simpa [e'] using this
theorem lookF_set_other (F : Forest) (tb t2 : Nat) (L : List Item) (h : t2 ≠ tb) : lookF (setF F tb L) t2 = lookF F t2 := by
  induction F with
  | nil => rfl
  | cons x F ih =>
    simp only [lookF, setF, List.map_cons, List.find?_cons] at ih ⊢
    by_cases e : (x.1 == tb) = true
    · have ex : x.1 = tb := by simpa using e
      have h1 : (tb == t2) = false := by simpa using fun e => h e.symm
      have h2 : (x.1 == t2) = false := by rw [ex]; exact h1
      simp only [e, if_true, h1, h2]
      exact ih
    · simp only [if_neg e]
      cases (x.1 == t2)
      · exact ih
      · rfl
theorem setF_keys (F : Forest) (tb : Nat) (L : List Item) : (setF F tb L).map (·.1) = F.map (·.1) := by
  unfold setF
  rw [List.map_map]
  refine List.map_congr_left fun x _ => ?_
  show (if (x.1 == tb) = true then (tb, L) else x).1 = x.1
  split
  · rename_i h; simp at h; exact h.symm
  · rfl
theorem setF_same (F : Forest) (tb : Nat) (hu : ∀ x ∈ F, x.1 = tb → x.2 = lookF F tb) : setF F tb (lookF F tb) = F := by
  unfold setF
  refine (List.map_congr_left fun x hx => ?_).trans (List.map_id _)
  show (if (x.1 == tb) = true then (tb, lookF F tb) else x) = x
  split
  · rename_i h
    have e : x.1 = tb := by simpa using h
    rw [← hu x hx e, ← e]
  · rfl
theorem ForR.cellIn {F : Forest} {rs : List Res} (h : ForR F rs) : ∀ x ∈ F, ∃ k : Kid, Res.cell x.1 130 [ptrV k.b] ∈ rs := by
  induction h with
  | nil => simp
  | cons tb L h k _ _ _ _ _ ih =>
    intro x hx
    rcases List.mem_cons.1 hx with rfl | hx
    · exact ⟨k, by simp⟩
    · obtain ⟨k, hk⟩ := ih x hx; exact ⟨k, by simp [hk]⟩
theorem ForR.nodup {F : Forest} {rs : List Res} (h : ForR F rs) (hu : ∀ x, total rs x ≤ 1) : (F.map (·.1)).Nodup := by
  induction h with
  | nil => simp
  | @cons F rs tb L h k _ _ _ _ hr ih =>
    rw [List.map_cons, List.nodup_cons]
    refine ⟨fun hm => ?_, ih fun x => by have := hu x; simp only [total_cons] at this; omega⟩
    obtain ⟨x, hx, e⟩ := List.mem_map.1 hm
    obtain ⟨k2, hk⟩ := hr.cellIn x hx
    have h1 := total_mem hk tb
    have h2 := hu tb
    rw [foot_cell, e, one_self] at h1
    simp only [total_cons, foot_cell, one_self] at h2
    omega
theorem FSIn.nodup {w0 w : World} {fb mb : Nat} {N : List NV} {F : Forest} {next : Int} {l2 : List Res} (h : FSIn w0 w fb mb N F next l2) : (F.map (·.1)).Nodup := by
  obtain ⟨rs, hr, H⟩ := h
  refine hr.nodup fun x => ?_
  have := H.uniq x
  simp only [total_cons, total_append] at this
  omega
theorem lookF_mem {F : Forest} (hn : (F.map (·.1)).Nodup) {x : Nat × List Item} (hx : x ∈ F) : lookF F x.1 = x.2 := by
  induction F with
  | nil => simp at hx
  | cons y F ih =>
    rw [List.map_cons, List.nodup_cons] at hn
    rcases List.mem_cons.1 hx with rfl | hx
    · simp [lookF]
    · have hne : (y.1 == x.1) = false := by
        have : y.1 ≠ x.1 := fun e => hn.1 (by rw [e]; exact List.mem_map.2 ⟨x, hx, rfl⟩)
        simpa using this
      have := ih hn.2 hx
      unfold lookF at this ⊢
      rw [List.find?_cons, hne]
      exact this
theorem lookF_in {F : Forest} {tb : Nat} (h : tb ∈ F.map (·.1)) : (tb, lookF F tb) ∈ F := by
  induction F with
  | nil => simp at h
  | cons y F ih =>
    unfold lookF
    rw [List.find?_cons]
    by_cases e : (y.1 == tb) = true
    · have e' : y.1 = tb := by simpa using e
      simp [e, ← e']
    · have e' : (y.1 == tb) = false := by simpa using e
      rw [e']
      have h' : tb ∈ F.map (·.1) := by
        simp at h e
        rcases h with h | h
        · exact absurd h.symm e
        · simpa using h
      exact List.mem_cons_of_mem _ (ih h')
theorem FSIn.treeSame {w0 w : World} {fb mb : Nat} {N : List NV} {F : Forest} {next : Int} {l2 : List Res} (h : FSIn w0 w fb mb N F next l2) {tb : Nat} (ht : tb ∈ F.map (·.1)) :
    ∃ rest : List Res, TreeIn w0.heap.size w0 (fun _ => 0) w tb (lookF F tb) rest ∧ ∀ w', TreeIn w0.heap.size w0 (fun _ => 0) w' tb (lookF F tb) rest → FSIn w0 w' fb mb N F next l2 := by
  obtain ⟨rest, h1, h2⟩ := h.tree ht
  refine ⟨rest, h1, fun w' hT => ?_⟩
  have := h2 w' _ hT
  rw [setF_same F tb fun x hx e => by rw [← e, lookF_mem h.nodup hx]] at this
  exact this
end Go.Proofs.YtjpmomklkkifjaaGreatDoor.T
namespace Go.Proofs.YtjpmomklkkifjaaGreatDoor.T
open Go.RowKit
theorem folder_calls (v : NV) (w : World) : Calls Tryz.prog 44 #[v.val] w fun e w' => e = .returned (.bool (v.kind == 1)) ∧ Below w.heap.size w w' := by
  unfold NV.val
  generalize v.ptr = p
  generalize v.kind = k
  go_enter Tryz.func44, Tryz.ntmps44
  go_wp2
  go_ret
  exact ⟨rfl, (Below.refl _ _).alloc (Nat.le_refl _) _⟩
end Go.Proofs.YtjpmomklkkifjaaGreatDoor.T
namespace Go.Proofs.YtjpmomklkkifjaaGreatDoor
open Go.RowKit
def classZ (r : Int) : Int := if r = 768 ∨ r = 769 ∨ r = 776 then 230 else if r = 807 then 202 else 0
def baseZ (r : Int) : Bool := decide (r = 32 ∨ r = 45 ∨ r = 46 ∨ r = 95 ∨ r = 963 ∨ r = 962 ∨ r = 931 ∨ (97 ≤ r ∧ r ≤ 122) ∨ (65 ≤ r ∧ r ≤ 90) ∨ (48 ≤ r ∧ r ≤ 57))
def foldZ (r : Int) : Int := if 65 ≤ r ∧ r ≤ 90 then r + 32 else if r = 962 ∨ r = 931 then 963 else r
theorem within_calls (r a b : Int) (w : World) :
    Calls Tryz.prog 177 #[.int .i32 r, .int .i32 a, .int .i32 b] w fun e w' => e = .returned (.bool (decide (a ≤ r ∧ r ≤ b))) ∧ w' = w := by
  by_cases h1 : a ≤ r
  · by_cases h2 : r ≤ b
    · go_enter Tryz.func177, Tryz.ntmps177
      go_wp2
      go_ret
      refine ⟨?_, rfl⟩
      first | (simp; done) | (simp; omega)
    · go_enter Tryz.func177, Tryz.ntmps177
      go_wp2
      go_ret
      refine ⟨?_, rfl⟩
      first | (simp; done) | (simp; omega)
  · go_enter Tryz.func177, Tryz.ntmps177
    go_wp2
    go_ret
    refine ⟨?_, rfl⟩
    first | (simp; done) | (simp; omega)
theorem class_calls (r : Int) (w : World) :
    Calls Tryz.prog 91 #[.int .i32 r] w fun e w' => e = .returned (.int .i64 (classZ r)) ∧ w' = w := by
  go_enter Tryz.func91, Tryz.ntmps91
  go_wp2
  all_goals go_ret
  all_goals refine ⟨?_, rfl⟩
  all_goals (simp_all [classZ])
theorem base_calls (r : Int) (w : World) :
    Calls Tryz.prog 134 #[.int .i32 r] w fun e w' => e = .returned (.bool (baseZ r)) ∧ w' = w := by
  go_enter Tryz.func134, Tryz.ntmps134
  go_wp2_with (go_at_call 177; refine (within_calls _ _ _ _).mono ?_; rintro e w1 ⟨rfl, rfl⟩)
  all_goals go_ret
  all_goals refine ⟨?_, rfl⟩
  all_goals (simp_all [baseZ, Bool.or_assoc])
theorem fold_calls (r : Int) (w : World) (h0 : -2147483648 ≤ r) (h1 : r ≤ 2147483647) :
    Calls Tryz.prog 143 #[.int .i32 r] w fun e w' => e = .returned (.int .i32 (foldZ r)) ∧ w' = w := by
  go_enter Tryz.func143, Tryz.ntmps143
  go_wp2_with (go_at_call 177; refine (within_calls _ _ _ _).mono ?_; rintro e w1 ⟨rfl, rfl⟩)
  all_goals go_ret
  all_goals refine ⟨?_, rfl⟩
  all_goals (try simp_all [foldZ])
  all_goals omega
end Go.Proofs.YtjpmomklkkifjaaGreatDoor
namespace Go.Proofs.YtjpmomklkkifjaaGreatDoor
open Go.Shelf Go.RowKit Go.Lib Go.Sort
def insRen : Go.Shelf.Ren := ⟨fun | 20 => 207 | n => n, fun | 22 => 93 | 24 => 21 | 25 => 196 | n => n, fun n => n⟩
theorem insLays : SlLaysF.n20 Tryz.prog insRen := {
  mixed := by kernel_rfl
  f20 := ⟨Tryz.f207.name, by decide +kernel, Tryz.func207.trans (congrArg some (by kernel_rfl))⟩
  t0 := Tryz.underlying0
  a0 := Tryz.isAgg0
  z0 := Tryz.sizeOf0
  v0 := Tryz.zeroValue0
  t3 := Tryz.underlying3
  a3 := Tryz.isAgg3
  z3 := Tryz.sizeOf3
  v3 := Tryz.zeroValue3
  t4 := Tryz.underlying4
  a4 := Tryz.isAgg4
  z4 := Tryz.sizeOf4
  v4 := Tryz.zeroValue4
  t22 := Tryz.underlying93
  a22 := Tryz.isAgg93
  z22 := Tryz.sizeOf93
  v22 := Tryz.zeroValue93
  a24 := Tryz.isAgg21
  z24 := Tryz.sizeOf21
  t25 := Tryz.underlying196
  a25 := Tryz.isAgg196
  z25 := Tryz.sizeOf196
  v25 := Tryz.zeroValue196 }
def cmpZ (x y : Int) : Int := classZ x - classZ y
theorem class_range (r : Int) : 0 ≤ classZ r ∧ classZ r ≤ 230 := by
  unfold classZ
  split
  · omega
  · split <;> omega
theorem cmp_calls (x y : Int) (w : World) :
    Calls Tryz.prog 137 #[.int .i32 x, .int .i32 y] w fun e w' => e = .returned (.int .i64 (cmpZ x y)) ∧ w' = w := by
  have hx := class_range x
  have hy := class_range y
  have h1 := fun wx => class_calls x wx
  have h2 := fun wx => class_calls y wx
  unfold cmpZ
  generalize classZ x = a at *
  generalize classZ y = b at *
  go_enter Tryz.func137, Tryz.ntmps137
  go_wp2_with fail
  refine (h1 w).mono ?_
  rintro e wx ⟨rfl, hwx⟩
  have hwx := hwx.symm
  subst hwx
  go_wp2_with fail
  refine (h2 w).mono ?_
  rintro e wx ⟨rfl, hwx⟩
  have hwx := hwx.symm
  subst hwx
  go_wp2
  go_ret
  exact ⟨rfl, rfl⟩
theorem enter47 : ∀ args w, (callFunc 137 args).run Tryz.prog w = .ok (.enter 137 args) w := fun args w => by kernel_rfl
theorem ins_calls (blk off cap : Nat) (d : Array Int) (w : World) (hH : Holds (Value.int .i32) w blk off d) (hsz : d.size < 4611686018427387904) :
    Calls Tryz.prog 207 #[.slice (some ⟨blk, off, none⟩) d.size cap, .int .i64 (0 : Nat), .int .i64 d.size, .func (.func 137) #[] #[]] w fun e w' =>
      e = .returned (.tuple #[]) ∧ ∃ n, w' = (putRow (Value.int .i32) w blk off (Sort.insertionSort (ltOf cmpZ) d 0 d.size)).drewN n :=
  Any.insertionSortCmpFunc_one insLays (Value.int .i32) (fun _ => rfl) cmpZ 137 #[] blk off cap 0 d.size d w enter47
    (fun m os dk _ x y => (cmp_calls x y _).mono fun e w' ⟨he, hw⟩ => ⟨he, 0, hw⟩) hH (Nat.zero_le _) (Nat.le_refl _) hsz
def sorted (d : Array Int) : Array Int := Sort.insertionSort (ltOf cmpZ) d 0 d.size
theorem stable_calls (blk off cap : Nat) (d : Array Int) (w : World) (hH : Holds (Value.int .i32) w blk off d) (hn : d.size < 20) :
    Calls Tryz.prog 178 #[.slice (some ⟨blk, off, none⟩) d.size cap, .int .i64 d.size, .func (.func 137) #[] #[]] w fun e w' =>
      e = .returned (.tuple #[]) ∧ ∃ n, w' = (putRow (Value.int .i32) w blk off (sorted d)).drewN n := by
  have hi := ins_calls blk off cap d w hH (by omega)
  unfold sorted
  generalize Sort.insertionSort (ltOf cmpZ) d 0 d.size = ds at *
  generalize d.size = n at *
  have h1 : ¬ (20 : Int) ≤ (n : Int) := by omega
  have h2 : ¬ (20 : Int) < (n : Int) := by omega
  go_enter Tryz.func178, Tryz.ntmps178
  go_wp2_with fail
  refine wp_loop_rounds 1 ?_
  rw [rounds_succ]
  go_wp2_with fail
  refine hi.mono ?_
  rintro e w1 ⟨rfl, m, hw1⟩
  go_wp2_with fail
  refine wp_loop_rounds 1 ?_
  rw [rounds_succ]
  go_wp2
  go_end0
  exact ⟨rfl, m, rfl⟩
theorem sort_calls (blk off cap : Nat) (d : Array Int) (w : World) (hH : Holds (Value.int .i32) w blk off d) (hn : d.size < 20) :
    Calls Tryz.prog 136 #[.slice (some ⟨blk, off, none⟩) d.size cap, .func (.func 137) #[] #[]] w fun e w' =>
      e = .returned (.tuple #[]) ∧ ∃ n, w' = (putRow (Value.int .i32) w blk off (sorted d)).drewN n := by
  have hi := stable_calls blk off cap d w hH hn
  generalize sorted d = ds at *
  generalize d.size = n at *
  go_enter Tryz.func136, Tryz.ntmps136
  go_wp2_with fail
  refine hi.mono ?_
  rintro e w1 ⟨rfl, m, hw1⟩
  go_wp2
  go_end0
  exact ⟨rfl, m, rfl⟩
theorem ins_none (p : Option Addr) (cap : Nat) (w : World) :
    Calls Tryz.prog 207 #[.slice p 0 cap, .int .i64 0, .int .i64 0, .func (.func 137) #[] #[]] w fun e w' => e = .returned (.tuple #[]) ∧ w' = w := by
  go_enter Tryz.func207, Tryz.ntmps207
  go_wp2_with fail
  refine wp_loop_rounds 1 ?_
  rw [rounds_succ]
  go_wp2
  go_end0
  exact ⟨rfl, rfl⟩
theorem stable_none (p : Option Addr) (cap : Nat) (w : World) :
    Calls Tryz.prog 178 #[.slice p 0 cap, .int .i64 0, .func (.func 137) #[] #[]] w fun e w' => e = .returned (.tuple #[]) ∧ w' = w := by
  have hi := ins_none p cap w
  go_enter Tryz.func178, Tryz.ntmps178
  go_wp2_with fail
  refine wp_loop_rounds 1 ?_
  rw [rounds_succ]
  go_wp2_with fail
  refine hi.mono ?_
  rintro e wx ⟨rfl, hwx⟩
  have hwx := hwx.symm
  subst hwx
  go_wp2_with fail
  refine wp_loop_rounds 1 ?_
  rw [rounds_succ]
  go_wp2
  go_end0
  exact ⟨rfl, rfl⟩
theorem sort_none (p : Option Addr) (cap : Nat) (w : World) :
    Calls Tryz.prog 136 #[.slice p 0 cap, .func (.func 137) #[] #[]] w fun e w' => e = .returned (.tuple #[]) ∧ w' = w := by
  have hi := stable_none p cap w
  go_enter Tryz.func136, Tryz.ntmps136
  go_wp2_with fail
  refine hi.mono ?_
  rintro e wx ⟨rfl, hwx⟩
  have hwx := hwx.symm
  subst hwx
  go_wp2
  go_end0
  exact ⟨rfl, rfl⟩
end Go.Proofs.YtjpmomklkkifjaaGreatDoor
