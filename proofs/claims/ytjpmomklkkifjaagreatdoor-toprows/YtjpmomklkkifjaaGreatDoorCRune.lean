/-
  Folders and files as plain data: nodes, the trees of folders, and what each call makes of them. The contract of node.folder, over the seat's program. The contracts of package sign's functions, over the seat's program: within, Class, Base, Fold; no Go text is changed. The contract of slices.SortStableFunc at marks, over the seat's program: fewer than twenty are sorted by their classes, those of one class as they stood. What the sort leaves of marks: those of class 202, then the others, each as they stood. Plain facts. Frames: a builder, a row of marks and what else there is stand apart; the sort of a row of marks. Over the seat's program. Texts as lists of signs: what their bytes are, and how they are read. Plain facts; no Go text. Laid by hand: the shelf's contract of (*strings.Builder).WriteRune, at the seat's program: its bodies and types are those that the contract was proved of.
-/
import Derived.Test.YtjpmomklkkifjaaGreatDoorCFSort
import Derived.Test.YtjpmomklkkifjaaGreatDoorCBTree
import Derived.Test.YtjpmomklkkifjaaGreatDoorCBGet
import Derived.Outline
import Derived.Test.YtjpmomklkkifjaaGreatDoorProg
import Derived.WalkKit
import Derived.WalkLawsBesides
import Derived.WalkSpells
import Derived.Shelf.SlSortCmp.Insertion
import Derived.Lib.OthersKept
import Derived.Laws.AppendOwn
import Derived.Lib.MapLaws
import Derived.Lib.RuneBytes
import Derived.Shelf.Strings.BuilderRune
namespace Go.Proofs.YtjpmomklkkifjaaGreatDoor.T
open Go.RowKit
set_option maxRecDepth 100000
set_option linter.unusedVariables false
set_option linter.unusedSimpArgs false

abbrev Forest := List (Nat × List Item)
def lookF (F : Forest) (tb : Nat) : List Item := ((F.find? fun x => x.1 == tb).map (·.2)).getD []
def entsOf (F : Forest) (v : NV) : List Item := match v.tb with | none => [] | some tb => lookF F tb
def setF (F : Forest) (tb : Nat) (L : List Item) : Forest := F.map fun x => if x.1 == tb then (tb, L) else x

inductive ForR : Forest → List Res → Prop
  | nil : ForR [] []
  | cons {F : Forest} {rs : List Res} (tb : Nat) (L : List Item) (h : Nat) (k : Kid) : Sorted L → k.L = L → k.c ≤ 3 → (h = 0 ∨ 1 ≤ k.c) → ForR F rs → ForR ((tb, L) :: F) (.cell tb 130 [ptrV k.b] :: .sub h k :: rs)

abbrev H0 (w0 w : World) (rs : List Res) : Prop := Hold w0.heap.size w0 (fun _ => 0) w rs
theorem H0.below {w0 w : World} {rs : List Res} (h : H0 w0 w rs) : Below w0.heap.size w0 w := h.kept.below (Nat.le_refl _) (fun x hx => absurd hx (by omega))
theorem H0.start (w0 : World) : H0 w0 w0 [] := ⟨by simp, fun x => by rw [total_nil]; omega, fun x _ => by rw [total_nil]; omega, Kept.refl _ _⟩
theorem H0.step {w0 w w' : World} {rs : List Res} (h : H0 w0 w rs) (hb : Below w.heap.size w w') : H0 w0 w' rs := h.keep (Kept.of_below hb)

def FSIn (w0 w : World) (fb mb : Nat) (N : List NV) (F : Forest) (next : Int) (l2 : List Res) : Prop :=
  ∃ rs, ForR F rs ∧ H0 w0 w (.cell fb 77 [.map (some mb), .int .i64 next] :: .obj mb (IsMapN N) :: (rs ++ l2))

structure Fits (N : List NV) (F : Forest) (next : Int) : Prop where
  tree : ∀ v ∈ N, v.kind = 1 → ∃ tb, v.tb = some tb ∧ tb ∈ F.map (·.1)
  few : N.length ≤ 16
  id : ∀ v ∈ N, 0 ≤ v.id ∧ v.id ≤ 999
  up : ∀ v ∈ N, 0 ≤ v.up ∧ v.up ≤ 999
  ents : ∀ x ∈ F, ∀ it ∈ x.2, 0 ≤ it.node ∧ it.node ≤ 999
  full : ∀ x ∈ F, ∀ it ∈ x.2, it.key.toList.isEmpty = false
  next : 1 ≤ next ∧ next ≤ 1000
  many : ∀ x ∈ F, x.2.length ≤ 900

theorem ForR.split {F : Forest} {rs : List Res} (h : ForR F rs) {tb : Nat} (ht : tb ∈ F.map (·.1)) :
    ∃ h' k rs1 rs2, rs = rs1 ++ .cell tb 130 [ptrV k.b] :: .sub h' k :: rs2 ∧ Sorted (lookF F tb) ∧ k.L = lookF F tb ∧ k.c ≤ 3 ∧ (h' = 0 ∨ 1 ≤ k.c) ∧
      ∀ (h2 : Nat) (k2 : Kid) (L : List Item), Sorted L → k2.L = L → k2.c ≤ 3 → (h2 = 0 ∨ 1 ≤ k2.c) → (∀ x ∈ rs1 ++ rs2, ∀ t vs, x ≠ .cell tb t vs) → ForR (setF F tb L) (rs1 ++ .cell tb 130 [ptrV k2.b] :: .sub h2 k2 :: rs2) := by
  induction h with
  | nil => simp at ht
  | @cons F rs tb' L' h' k' hs hL hc h1 hr ih =>
    by_cases he : tb' = tb
    · subst he
      have e : lookF ((tb', L') :: F) tb' = L' := by simp [lookF]
      refine ⟨h', k', [], rs, rfl, by rw [e]; exact hs, by rw [e]; exact hL, hc, h1, fun h2 k2 L hs2 hL2 hc2 h12 hno => ?_⟩
      have e2 : setF ((tb', L') :: F) tb' L = (tb', L) :: F := by
        have : ∀ x ∈ F, x.1 ≠ tb' := by
          intro x hx e3
          have key : ∀ {F : Forest} {rs : List Res}, ForR F rs → ∀ x ∈ F, ∃ k : Kid, Res.cell x.1 130 [ptrV k.b] ∈ rs := by
            intro F rs hr
            induction hr with
            | nil => simp
            | cons tb L h k _ _ _ _ _ ih =>
              intro x hx
              rcases List.mem_cons.1 hx with rfl | hx
              · exact ⟨k, by simp⟩
              · obtain ⟨k, hk⟩ := ih x hx; exact ⟨k, by simp [hk]⟩
          obtain ⟨k, hk⟩ := key hr x hx
          rw [e3] at hk
          exact hno _ (by simpa using hk) _ _ rfl
        simp only [setF, List.map_cons, beq_self_eq_true, if_true]
        congr 1
        have : ∀ x ∈ F, (if (x.1 == tb') = true then (tb', L) else x) = x := fun x hx => by
          rw [if_neg]; simpa using this x hx
        exact (List.map_congr_left this).trans (List.map_id _)
      rw [e2]
      exact .cons tb' L h2 k2 hs2 hL2 hc2 h12 hr
    · have ht' : tb ∈ F.map (·.1) := by simp at ht; rcases ht with e | h; exact absurd e.symm he; simpa using h
      obtain ⟨h2, k2, rs1, rs2, e, a1, a2, a3, a4, a5⟩ := ih ht'
      have el : lookF ((tb', L') :: F) tb = lookF F tb := by
        have : (tb' == tb) = false := by simpa using he
        simp [lookF, List.find?_cons, this]
      refine ⟨h2, k2, .cell tb' 130 [ptrV k'.b] :: .sub h' k' :: rs1, rs2, by rw [e]; rfl, by rw [el]; exact a1, by rw [el]; exact a2, a3, a4, fun h3 k3 L b1 b2 b3 b4 b5 => ?_⟩
      have e2 : setF ((tb', L') :: F) tb L = (tb', L') :: setF F tb L := by
        simp [setF, he]
      rw [e2]
      exact .cons tb' L' h' k' hs hL hc h1 (a5 h3 k3 L b1 b2 b3 b4 fun x hx => b5 x (by simp at hx ⊢; rcases hx with h | h <;> simp [h]))

theorem FSIn.tree {w0 w : World} {fb mb : Nat} {N : List NV} {F : Forest} {next : Int} {l2 : List Res} (h : FSIn w0 w fb mb N F next l2) {tb : Nat} (ht : tb ∈ F.map (·.1)) :
    ∃ rest : List Res, TreeIn w0.heap.size w0 (fun _ => 0) w tb (lookF F tb) rest ∧
      ∀ w' L, TreeIn w0.heap.size w0 (fun _ => 0) w' tb L rest → FSIn w0 w' fb mb N (setF F tb L) next l2 := by
  obtain ⟨rs, hr, H⟩ := h
  obtain ⟨h', k, rs1, rs2, rfl, a1, a2, a3, a4, a5⟩ := hr.split ht
  refine ⟨.cell fb 77 [.map (some mb), .int .i64 next] :: .obj mb (IsMapN N) :: (rs1 ++ rs2 ++ l2), ⟨a1, h', k, a2, a3, a4, ?_⟩, fun w' L hT => ?_⟩
  · refine H.conv (fun x => ?_) (fun r hr => H.sat r ?_)
    · simp only [total_append, total_cons]; omega
    · simp only [List.mem_append, List.mem_cons] at hr ⊢
      rcases hr with h | h | h | h | (h | h) | h <;> simp [h]
  · obtain ⟨s1, h2, k2, b1, b2, b3, H2⟩ := hT
    refine ⟨rs1 ++ .cell tb 130 [ptrV k2.b] :: .sub h2 k2 :: rs2, a5 h2 k2 L s1 b1 b2 b3 fun x hx t vs e => ?_, ?_⟩
    · have h3 := H2.uniq tb
      subst e
      have h4 : 1 ≤ total (rs1 ++ rs2) tb := by
        have := total_mem hx tb
        rw [foot_cell, one_self] at this
        exact this
      simp only [total_append, total_cons, foot_cell, one_self] at h3 h4
      omega
    · refine H2.conv (fun x => ?_) (fun r hr => H2.sat r ?_)
      · simp only [total_append, total_cons]; omega
      · simp only [List.mem_append, List.mem_cons] at hr ⊢
        rcases hr with h | h | (h | h | h | h) | h <;> simp [h]

theorem lookF_set (F : Forest) (tb : Nat) (L : List Item) (h : tb ∈ F.map (·.1)) : lookF (setF F tb L) tb = L := by
  induction F with
  | nil => simp at h
  | cons x F ih =>
    by_cases e : (x.1 == tb) = true
    · have ex : x.1 = tb := by simpa using e
      simp [lookF, setF, ex]
    · have e' : (x.1 == tb) = false := by simpa using e
      have h' : tb ∈ F.map (·.1) := by
        simp at h e
        rcases h with h | h
        · exact absurd h.symm e
        · simpa using h
      have := ih h'
      simp only [lookF, setF, List.map_cons, e', List.find?_cons] at this ⊢
      simpa [e'] using this
theorem lookF_set_other (F : Forest) (tb t2 : Nat) (L : List Item) (h : t2 ≠ tb) : lookF (setF F tb L) t2 = lookF F t2 := by
  induction F with
  | nil => rfl
  | cons x F ih =>
    simp only [lookF, setF, List.map_cons, List.find?_cons] at ih ⊢
    by_cases e : (x.1 == tb) = true
    · have ex : x.1 = tb := by simpa using e
      have h1 : (tb == t2) = false := by simpa using fun e => h e.symm
      have h2 : (x.1 == t2) = false := by rw [ex]; exact h1
      simp only [e, if_true, h1, h2]
      exact ih
    · simp only [if_neg e]
      cases (x.1 == t2)
      · exact ih
      · rfl
theorem setF_keys (F : Forest) (tb : Nat) (L : List Item) : (setF F tb L).map (·.1) = F.map (·.1) := by
  unfold setF
  rw [List.map_map]
  refine List.map_congr_left fun x _ => ?_
  show (if (x.1 == tb) = true then (tb, L) else x).1 = x.1
  split
  · rename_i h; simp at h; exact h.symm
  · rfl
theorem setF_same (F : Forest) (tb : Nat) (hu : ∀ x ∈ F, x.1 = tb → x.2 = lookF F tb) : setF F tb (lookF F tb) = F := by
  unfold setF
  refine (List.map_congr_left fun x hx => ?_).trans (List.map_id _)
  show (if (x.1 == tb) = true then (tb, lookF F tb) else x) = x
  split
  · rename_i h
    have e : x.1 = tb := by simpa using h
    rw [← hu x hx e, ← e]
  · rfl

theorem ForR.cellIn {F : Forest} {rs : List Res} (h : ForR F rs) : ∀ x ∈ F, ∃ k : Kid, Res.cell x.1 130 [ptrV k.b] ∈ rs := by
  induction h with
  | nil => simp
  | cons tb L h k _ _ _ _ _ ih =>
    intro x hx
    rcases List.mem_cons.1 hx with rfl | hx
    · exact ⟨k, by simp⟩
    · obtain ⟨k, hk⟩ := ih x hx; exact ⟨k, by simp [hk]⟩
theorem ForR.nodup {F : Forest} {rs : List Res} (h : ForR F rs) (hu : ∀ x, total rs x ≤ 1) : (F.map (·.1)).Nodup := by
  induction h with
  | nil => simp
  | @cons F rs tb L h k _ _ _ _ hr ih =>
    rw [List.map_cons, List.nodup_cons]
    refine ⟨fun hm => ?_, ih fun x => by have := hu x; simp only [total_cons] at this; omega⟩
    obtain ⟨x, hx, e⟩ := List.mem_map.1 hm
    obtain ⟨k2, hk⟩ := hr.cellIn x hx
    have h1 := total_mem hk tb
    have h2 := hu tb
    rw [foot_cell, e, one_self] at h1
    simp only [total_cons, foot_cell, one_self] at h2
    omega
theorem FSIn.nodup {w0 w : World} {fb mb : Nat} {N : List NV} {F : Forest} {next : Int} {l2 : List Res} (h : FSIn w0 w fb mb N F next l2) : (F.map (·.1)).Nodup := by
  obtain ⟨rs, hr, H⟩ := h
  refine hr.nodup fun x => ?_
  have := H.uniq x
  simp only [total_cons, total_append] at this
  omega
theorem lookF_mem {F : Forest} (hn : (F.map (·.1)).Nodup) {x : Nat × List Item} (hx : x ∈ F) : lookF F x.1 = x.2 := by
  induction F with
  | nil => simp at hx
  | cons y F ih =>
    rw [List.map_cons, List.nodup_cons] at hn
    rcases List.mem_cons.1 hx with rfl | hx
    · simp [lookF]
    · have hne : (y.1 == x.1) = false := by
        have : y.1 ≠ x.1 := fun e => hn.1 (by rw [e]; exact List.mem_map.2 ⟨x, hx, rfl⟩)
        simpa using this
      have := ih hn.2 hx
      unfold lookF at this ⊢
      rw [List.find?_cons, hne]
      exact this
theorem lookF_in {F : Forest} {tb : Nat} (h : tb ∈ F.map (·.1)) : (tb, lookF F tb) ∈ F := by
  induction F with
  | nil => simp at h
  | cons y F ih =>
    unfold lookF
    rw [List.find?_cons]
    by_cases e : (y.1 == tb) = true
    · have e' : y.1 = tb := by simpa using e
      simp [e, ← e']
    · have e' : (y.1 == tb) = false := by simpa using e
      rw [e']
      have h' : tb ∈ F.map (·.1) := by
        simp at h e
        rcases h with h | h
        · exact absurd h.symm e
        · simpa using h
      exact List.mem_cons_of_mem _ (ih h')
theorem FSIn.treeSame {w0 w : World} {fb mb : Nat} {N : List NV} {F : Forest} {next : Int} {l2 : List Res} (h : FSIn w0 w fb mb N F next l2) {tb : Nat} (ht : tb ∈ F.map (·.1)) :
    ∃ rest : List Res, TreeIn w0.heap.size w0 (fun _ => 0) w tb (lookF F tb) rest ∧ ∀ w', TreeIn w0.heap.size w0 (fun _ => 0) w' tb (lookF F tb) rest → FSIn w0 w' fb mb N F next l2 := by
  obtain ⟨rest, h1, h2⟩ := h.tree ht
  refine ⟨rest, h1, fun w' hT => ?_⟩
  have := h2 w' _ hT
  rw [setF_same F tb fun x hx e => by rw [← e, lookF_mem h.nodup hx]] at this
  exact this

end Go.Proofs.YtjpmomklkkifjaaGreatDoor.T
namespace Go.Proofs.YtjpmomklkkifjaaGreatDoor.T
open Go.RowKit
set_option maxRecDepth 100000
set_option linter.unusedVariables false
set_option linter.unusedSimpArgs false

theorem folder_calls (v : NV) (w : World) : Calls Tryz.prog 44 #[v.val] w fun e w' => e = .returned (.bool (v.kind == 1)) ∧ Below w.heap.size w w' := by
  unfold NV.val
  generalize v.ptr = p
  generalize v.kind = k
  go_enter Tryz.func44, Tryz.ntmps44
  go_wp2
  go_ret
  exact ⟨rfl, (Below.refl _ _).alloc (Nat.le_refl _) _⟩
end Go.Proofs.YtjpmomklkkifjaaGreatDoor.T
namespace Go.Proofs.YtjpmomklkkifjaaGreatDoor
open Go.RowKit
set_option maxRecDepth 100000
set_option linter.unusedVariables false

def classZ (r : Int) : Int := if r = 768 ∨ r = 769 ∨ r = 776 then 230 else if r = 807 then 202 else 0
def baseZ (r : Int) : Bool := decide (r = 32 ∨ r = 45 ∨ r = 46 ∨ r = 95 ∨ r = 963 ∨ r = 962 ∨ r = 931 ∨ (97 ≤ r ∧ r ≤ 122) ∨ (65 ≤ r ∧ r ≤ 90) ∨ (48 ≤ r ∧ r ≤ 57))
def foldZ (r : Int) : Int := if 65 ≤ r ∧ r ≤ 90 then r + 32 else if r = 962 ∨ r = 931 then 963 else r

theorem within_calls (r a b : Int) (w : World) :
    Calls Tryz.prog 177 #[.int .i32 r, .int .i32 a, .int .i32 b] w fun e w' => e = .returned (.bool (decide (a ≤ r ∧ r ≤ b))) ∧ w' = w := by
  by_cases h1 : a ≤ r
  · by_cases h2 : r ≤ b
    · go_enter Tryz.func177, Tryz.ntmps177
      go_wp2
      go_ret
      refine ⟨?_, rfl⟩
      first | (simp; done) | (simp; omega)
    · go_enter Tryz.func177, Tryz.ntmps177
      go_wp2
      go_ret
      refine ⟨?_, rfl⟩
      first | (simp; done) | (simp; omega)
  · go_enter Tryz.func177, Tryz.ntmps177
    go_wp2
    go_ret
    refine ⟨?_, rfl⟩
    first | (simp; done) | (simp; omega)

theorem class_calls (r : Int) (w : World) :
    Calls Tryz.prog 91 #[.int .i32 r] w fun e w' => e = .returned (.int .i64 (classZ r)) ∧ w' = w := by
  go_enter Tryz.func91, Tryz.ntmps91
  go_wp2
  all_goals go_ret
  all_goals refine ⟨?_, rfl⟩
  all_goals (simp_all [classZ])

theorem base_calls (r : Int) (w : World) :
    Calls Tryz.prog 134 #[.int .i32 r] w fun e w' => e = .returned (.bool (baseZ r)) ∧ w' = w := by
  go_enter Tryz.func134, Tryz.ntmps134
  go_wp2_with (go_at_call 177; refine (within_calls _ _ _ _).mono ?_; rintro e w1 ⟨rfl, rfl⟩)
  all_goals go_ret
  all_goals refine ⟨?_, rfl⟩
  all_goals (simp_all [baseZ, Bool.or_assoc])

theorem fold_calls (r : Int) (w : World) (h0 : -2147483648 ≤ r) (h1 : r ≤ 2147483647) :
    Calls Tryz.prog 143 #[.int .i32 r] w fun e w' => e = .returned (.int .i32 (foldZ r)) ∧ w' = w := by
  go_enter Tryz.func143, Tryz.ntmps143
  go_wp2_with (go_at_call 177; refine (within_calls _ _ _ _).mono ?_; rintro e w1 ⟨rfl, rfl⟩)
  all_goals go_ret
  all_goals refine ⟨?_, rfl⟩
  all_goals (try simp_all [foldZ])
  all_goals omega
end Go.Proofs.YtjpmomklkkifjaaGreatDoor
namespace Go.Proofs.YtjpmomklkkifjaaGreatDoor
open Go.Shelf Go.RowKit Go.Lib Go.Sort
set_option maxRecDepth 100000
set_option linter.unusedVariables false

def insRen : Go.Shelf.Ren := ⟨fun | 20 => 207 | n => n, fun | 22 => 93 | 24 => 21 | 25 => 196 | n => n, fun n => n⟩
theorem insLays : SlLaysF.n20 Tryz.prog insRen := {
  mixed := by kernel_rfl
  f20 := ⟨Tryz.f207.name, by decide +kernel, Tryz.func207.trans (congrArg some (by kernel_rfl))⟩
  t0 := Tryz.underlying0
  a0 := Tryz.isAgg0
  z0 := Tryz.sizeOf0
  v0 := Tryz.zeroValue0
  t3 := Tryz.underlying3
  a3 := Tryz.isAgg3
  z3 := Tryz.sizeOf3
  v3 := Tryz.zeroValue3
  t4 := Tryz.underlying4
  a4 := Tryz.isAgg4
  z4 := Tryz.sizeOf4
  v4 := Tryz.zeroValue4
  t22 := Tryz.underlying93
  a22 := Tryz.isAgg93
  z22 := Tryz.sizeOf93
  v22 := Tryz.zeroValue93
  a24 := Tryz.isAgg21
  z24 := Tryz.sizeOf21
  t25 := Tryz.underlying196
  a25 := Tryz.isAgg196
  z25 := Tryz.sizeOf196
  v25 := Tryz.zeroValue196 }

def cmpZ (x y : Int) : Int := classZ x - classZ y

theorem class_range (r : Int) : 0 ≤ classZ r ∧ classZ r ≤ 230 := by
  unfold classZ
  split
  · omega
  · split <;> omega

theorem cmp_calls (x y : Int) (w : World) :
    Calls Tryz.prog 137 #[.int .i32 x, .int .i32 y] w fun e w' => e = .returned (.int .i64 (cmpZ x y)) ∧ w' = w := by
  have hx := class_range x
  have hy := class_range y
  have h1 := fun wx => class_calls x wx
  have h2 := fun wx => class_calls y wx
  unfold cmpZ
  generalize classZ x = a at *
  generalize classZ y = b at *
  go_enter Tryz.func137, Tryz.ntmps137
  go_wp2_with fail
  refine (h1 w).mono ?_
  rintro e wx ⟨rfl, hwx⟩
  have hwx := hwx.symm
  subst hwx
  go_wp2_with fail
  refine (h2 w).mono ?_
  rintro e wx ⟨rfl, hwx⟩
  have hwx := hwx.symm
  subst hwx
  go_wp2
  go_ret
  exact ⟨rfl, rfl⟩

theorem enter47 : ∀ args w, (callFunc 137 args).run Tryz.prog w = .ok (.enter 137 args) w := fun args w => by kernel_rfl

theorem ins_calls (blk off cap : Nat) (d : Array Int) (w : World) (hH : Holds (Value.int .i32) w blk off d) (hsz : d.size < 4611686018427387904) :
    Calls Tryz.prog 207 #[.slice (some ⟨blk, off, none⟩) d.size cap, .int .i64 (0 : Nat), .int .i64 d.size, .func (.func 137) #[] #[]] w fun e w' =>
      e = .returned (.tuple #[]) ∧ ∃ n, w' = (putRow (Value.int .i32) w blk off (Sort.insertionSort (ltOf cmpZ) d 0 d.size)).drewN n :=
  Any.insertionSortCmpFunc_one insLays (Value.int .i32) (fun _ => rfl) cmpZ 137 #[] blk off cap 0 d.size d w enter47
    (fun m os dk _ x y => (cmp_calls x y _).mono fun e w' ⟨he, hw⟩ => ⟨he, 0, hw⟩) hH (Nat.zero_le _) (Nat.le_refl _) hsz

def sorted (d : Array Int) : Array Int := Sort.insertionSort (ltOf cmpZ) d 0 d.size

theorem stable_calls (blk off cap : Nat) (d : Array Int) (w : World) (hH : Holds (Value.int .i32) w blk off d) (hn : d.size < 20) :
    Calls Tryz.prog 178 #[.slice (some ⟨blk, off, none⟩) d.size cap, .int .i64 d.size, .func (.func 137) #[] #[]] w fun e w' =>
      e = .returned (.tuple #[]) ∧ ∃ n, w' = (putRow (Value.int .i32) w blk off (sorted d)).drewN n := by
  have hi := ins_calls blk off cap d w hH (by omega)
  unfold sorted
  generalize Sort.insertionSort (ltOf cmpZ) d 0 d.size = ds at *
  generalize d.size = n at *
  have h1 : ¬ (20 : Int) ≤ (n : Int) := by omega
  have h2 : ¬ (20 : Int) < (n : Int) := by omega
  go_enter Tryz.func178, Tryz.ntmps178
  go_wp2_with fail
  refine wp_loop_rounds 1 ?_
  rw [rounds_succ]
  go_wp2_with fail
  refine hi.mono ?_
  rintro e w1 ⟨rfl, m, hw1⟩
  go_wp2_with fail
  refine wp_loop_rounds 1 ?_
  rw [rounds_succ]
  go_wp2
  go_end0
  exact ⟨rfl, m, rfl⟩

theorem sort_calls (blk off cap : Nat) (d : Array Int) (w : World) (hH : Holds (Value.int .i32) w blk off d) (hn : d.size < 20) :
    Calls Tryz.prog 136 #[.slice (some ⟨blk, off, none⟩) d.size cap, .func (.func 137) #[] #[]] w fun e w' =>
      e = .returned (.tuple #[]) ∧ ∃ n, w' = (putRow (Value.int .i32) w blk off (sorted d)).drewN n := by
  have hi := stable_calls blk off cap d w hH hn
  generalize sorted d = ds at *
  generalize d.size = n at *
  go_enter Tryz.func136, Tryz.ntmps136
  go_wp2_with fail
  refine hi.mono ?_
  rintro e w1 ⟨rfl, m, hw1⟩
  go_wp2
  go_end0
  exact ⟨rfl, m, rfl⟩

theorem ins_none (p : Option Addr) (cap : Nat) (w : World) :
    Calls Tryz.prog 207 #[.slice p 0 cap, .int .i64 0, .int .i64 0, .func (.func 137) #[] #[]] w fun e w' => e = .returned (.tuple #[]) ∧ w' = w := by
  go_enter Tryz.func207, Tryz.ntmps207
  go_wp2_with fail
  refine wp_loop_rounds 1 ?_
  rw [rounds_succ]
  go_wp2
  go_end0
  exact ⟨rfl, rfl⟩
theorem stable_none (p : Option Addr) (cap : Nat) (w : World) :
    Calls Tryz.prog 178 #[.slice p 0 cap, .int .i64 0, .func (.func 137) #[] #[]] w fun e w' => e = .returned (.tuple #[]) ∧ w' = w := by
  have hi := ins_none p cap w
  go_enter Tryz.func178, Tryz.ntmps178
  go_wp2_with fail
  refine wp_loop_rounds 1 ?_
  rw [rounds_succ]
  go_wp2_with fail
  refine hi.mono ?_
  rintro e wx ⟨rfl, hwx⟩
  have hwx := hwx.symm
  subst hwx
  go_wp2_with fail
  refine wp_loop_rounds 1 ?_
  rw [rounds_succ]
  go_wp2
  go_end0
  exact ⟨rfl, rfl⟩
theorem sort_none (p : Option Addr) (cap : Nat) (w : World) :
    Calls Tryz.prog 136 #[.slice p 0 cap, .func (.func 137) #[] #[]] w fun e w' => e = .returned (.tuple #[]) ∧ w' = w := by
  have hi := stable_none p cap w
  go_enter Tryz.func136, Tryz.ntmps136
  go_wp2_with fail
  refine hi.mono ?_
  rintro e wx ⟨rfl, hwx⟩
  have hwx := hwx.symm
  subst hwx
  go_wp2
  go_end0
  exact ⟨rfl, rfl⟩
end Go.Proofs.YtjpmomklkkifjaaGreatDoor
namespace Go.Proofs.YtjpmomklkkifjaaGreatDoor
open Go.Sort
set_option maxRecDepth 100000

def Mark (r : Int) : Prop := classZ r = 202 ∨ classZ r = 230
def sortM (l : List Int) : List Int := l.filter (fun r => classZ r == 202) ++ l.filter (fun r => !(classZ r == 202))

theorem last_or (l : List Int) : l = [] ∨ ∃ A a, l = A ++ [a] := by
  rcases List.eq_nil_or_concat l with h | ⟨A, a, h⟩
  · exact .inl h
  · exact .inr ⟨A, a, by rw [h, List.concat_eq_append]⟩
theorem get_list (A R : List Int) (b : Int) : (A ++ b :: R).toArray[A.length]! = b := by
  simp
theorem swp_list (A R : List Int) (b x : Int) : swp (A ++ b :: x :: R).toArray (A.length + 1) A.length = (A ++ x :: b :: R).toArray := by
  unfold swp
  have h1 : (A ++ b :: x :: R).toArray[A.length]! = b := get_list _ _ _
  have h2 : (A ++ b :: x :: R).toArray[A.length + 1]! = x := by
    simp
  rw [h1, h2]
  simp

theorem bubble (x : Int) (hx : classZ x = 202) (A : List Int) (hA : ∀ a ∈ A, classZ a = 202) : ∀ (n : Nat) (B R : List Int), B.length = n → (∀ b ∈ B, classZ b = 230) →
    insInner (ltOf cmpZ) 0 (A.length + B.length) (A ++ B ++ x :: R).toArray = (A ++ x :: B ++ R).toArray := by
  intro n
  induction n with
  | zero =>
    intro B R hn _
    have : B = [] := List.eq_nil_of_length_eq_zero hn
    subst this
    simp only [List.append_nil, List.length_nil, Nat.add_zero]
    rcases last_or A with rfl | ⟨A', a, rfl⟩
    · rw [insInner_stop _ _ _ _ (.inl (by simp))]
      simp
    · rw [insInner_stop]
      · simp
      · right
        have e1 : ((A' ++ [a]) ++ x :: R).toArray[(A' ++ [a]).length]! = x := get_list _ _ _
        have e2 : ((A' ++ [a]) ++ x :: R).toArray[(A' ++ [a]).length - 1]! = a := by
          simp
        rw [e1, e2]
        have ha := hA a (by simp)
        simp [ltOf, cmpZ, hx, ha]
  | succ n ih =>
    intro B R hn hB
    rcases last_or B with rfl | ⟨B', b, rfl⟩
    · simp at hn
    · have hl : A.length + (B' ++ [b]).length = (A ++ B').length + 1 := by simp; omega
      have hb := hB b (by simp)
      have e0 : A ++ (B' ++ [b]) ++ x :: R = (A ++ B') ++ b :: x :: R := by simp
      rw [hl, e0, insInner_go]
      · rw [Nat.add_sub_cancel, swp_list]
        have := ih B' (b :: R) (by simpa using hn) (fun c hc => hB c (by simp [hc]))
        rw [List.length_append, this]
        simp
      · omega
      · have e1 : ((A ++ B') ++ b :: x :: R).toArray[(A ++ B').length + 1]! = x := by
          have e : (A ++ B') ++ b :: x :: R = (A ++ B' ++ [b]) ++ x :: R := by simp
          have el : (A ++ B').length + 1 = (A ++ B' ++ [b]).length := by simp; omega
          rw [e, el]
          exact get_list _ _ _
        have e2 : ((A ++ B') ++ b :: x :: R).toArray[(A ++ B').length + 1 - 1]! = b := get_list _ _ _
        rw [e1, e2]
        simp [ltOf, cmpZ, hx, hb]

theorem stays (x : Int) (S R : List Int) (hx : classZ x = 230) (hS : ∀ a ∈ S, Mark a) : insInner (ltOf cmpZ) 0 S.length (S ++ x :: R).toArray = (S ++ x :: R).toArray := by
  rcases last_or S with rfl | ⟨A', a, rfl⟩
  · rw [insInner_stop _ _ _ _ (.inl (by simp))]
  · rw [insInner_stop]
    right
    have e1 : ((A' ++ [a]) ++ x :: R).toArray[(A' ++ [a]).length]! = x := get_list _ _ _
    have e2 : ((A' ++ [a]) ++ x :: R).toArray[(A' ++ [a]).length - 1]! = a := by
      simp
    rw [e1, e2]
    rcases hS a (by simp) with ha | ha <;> simp [ltOf, cmpZ, hx, ha]

theorem sortM_mem (l : List Int) (a : Int) : a ∈ sortM l ↔ a ∈ l := by
  unfold sortM
  rw [List.mem_append, List.mem_filter, List.mem_filter]
  cases h : classZ a == 202 <;> simp
theorem sortM_length (l : List Int) : (sortM l).length = l.length := by
  induction l with
  | nil => rfl
  | cons x l ih =>
    unfold sortM at ih ⊢
    rw [List.length_append] at ih ⊢
    rw [List.filter_cons, List.filter_cons]
    cases h : classZ x == 202 <;> simp <;> omega

theorem step (pre R : List Int) (x : Int) (hp : ∀ a ∈ pre, Mark a) (hx : Mark x) : insInner (ltOf cmpZ) 0 pre.length (sortM pre ++ x :: R).toArray = (sortM (pre ++ [x]) ++ R).toArray := by
  rw [← sortM_length pre]
  rcases hx with hx | hx
  · have h1 : sortM (pre ++ [x]) = pre.filter (fun r => classZ r == 202) ++ x :: pre.filter (fun r => !(classZ r == 202)) := by
      simp [sortM, List.filter_append, hx]
    rw [h1]
    have := bubble x hx (pre.filter (fun r => classZ r == 202)) (fun a ha => by simpa using (List.mem_filter.1 ha).2) _ (pre.filter (fun r => !(classZ r == 202))) R rfl (fun b hb => by
      have hb1 := List.mem_filter.1 hb
      rcases hp b hb1.1 with h | h
      · simp [h] at hb1
      · exact h)
    have e : (sortM pre).length = (pre.filter (fun r => classZ r == 202)).length + (pre.filter (fun r => !(classZ r == 202))).length := by
      unfold sortM
      rw [List.length_append]
    rw [e]
    unfold sortM
    rw [this]
  · have h1 : sortM (pre ++ [x]) = sortM pre ++ [x] := by simp [sortM, List.filter_append, hx]
    rw [h1, stays x _ R hx (fun a ha => hp a ((sortM_mem _ _).1 ha))]
    simp

theorem outer : ∀ (R pre : List Int), (∀ a ∈ pre, Mark a) → (∀ a ∈ R, Mark a) → insOuter (ltOf cmpZ) 0 (pre.length + R.length) pre.length (sortM pre ++ R).toArray = (sortM (pre ++ R)).toArray
  | [], pre, _, _ => by
    rw [insOuter_stop _ _ _ _ _ (by simp)]
    simp
  | x :: R, pre, hp, hR => by
    rw [insOuter_go _ _ _ _ _ (by simp), step pre R x hp (hR x (by simp))]
    have := outer R (pre ++ [x]) (fun a ha => by
      rcases List.mem_append.1 ha with h | h
      · exact hp a h
      · simp at h; subst h; exact hR a (by simp)) (fun a ha => hR a (by simp [ha]))
    simp only [List.length_append, List.length_cons, List.length_nil] at this ⊢
    rw [show pre.length + (R.length + 1) = pre.length + (0 + 1) + R.length by omega, show pre.length + 1 = pre.length + (0 + 1) by omega, this]
    simp

theorem sorted_marks (l : List Int) (h : ∀ a ∈ l, Mark a) : sorted l.toArray = (sortM l).toArray := by
  unfold sorted insertionSort
  cases l with
  | nil =>
    rw [insOuter_stop _ _ _ _ _ (by simp)]
    rfl
  | cons x l =>
    have h1 : sortM [x] = [x] := by
      unfold sortM
      cases h : classZ x == 202 <;> simp [h]
    have := outer l [x] (fun a ha => by simp at ha; subst ha; exact h a (by simp)) (fun a ha => h a (by simp [ha]))
    rw [h1] at this
    simpa [Nat.add_comm] using this
end Go.Proofs.YtjpmomklkkifjaaGreatDoor
namespace Go.Proofs.YtjpmomklkkifjaaGreatDoor
open Go.RowKit Go.Sort
set_option maxRecDepth 100000

theorem builder_grown {T e : TypeId} {B b : Nat} {bs : List Value} {w w' : World} {row : Option Nat} (h : Lib.IsBuilderF T e B b bs w) (hg : w.grownBy w' row)
    (hrow : ∀ g, row = some g → ∃ c t fz, w.heap[g]? = some (.cells c t fz) ∧ t ≠ T ∧ t ≠ e) : Lib.IsBuilderF T e B b bs w' := by
  have core : ∀ p, Lib.BuilderAtF T e B b p bs w → Lib.BuilderAtF T e B b p bs w' := by
    intro p h
    have hlt := h.lt
    obtain ⟨hB, v, hb, hown, hne⟩ := h
    refine ⟨hB, v, ?_, ?_, hne⟩
    · rw [hg.block b hlt ?_]
      · exact hb
      · intro hbr
        obtain ⟨c, t, fz, hc, ht, _⟩ := hrow b hbr.symm
        rw [hb] at hc
        simp only [Option.some.injEq, Obj.cells.injEq] at hc
        exact ht hc.2.1.symm
    · refine hown.kept hg ?_
      rcases hown.2 with ⟨rfl, _⟩ | ⟨g, cap, cur, fz, rfl, _, hgg, _⟩
      · left; rfl
      · right
        intro hbr
        obtain ⟨c, t, fz', hc, _, ht⟩ := hrow g (by rw [← hbr]; rfl)
        rw [hgg] at hc
        simp only [Option.some.injEq, Obj.cells.injEq] at hc
        exact ht hc.2.1.symm
  exact h.elim (fun x => .inl (core _ x)) (fun x => .inr (core _ x))

theorem owns_kind {w : World} {B : Nat} {e : TypeId} {v : Value} {n : Nat} {xs : List Value} (h : w.ownsRow B e 1 v n xs) : ∀ g, v.ownBlock = some g → ∃ c, w.heap[g]? = some (.cells c e (0, 0)) := by
  intro g hg
  rcases h.2 with ⟨rfl, _⟩ | ⟨g', cap, cur, rfl, _, hgg, _⟩
  · simp [Value.ownBlock] at hg
  · simp [Value.ownBlock] at hg
    subst hg
    exact ⟨cur, hgg⟩

theorem owns_others {w w' : World} {B b : Nat} {e f : TypeId} {v : Value} {n : Nat} {xs : List Value} (h : w.ownsRow B f 1 v n xs) (k : Lib.OthersKept e (some b) w w') (hb : v.ownBlock ≠ some b) (hfe : f ≠ e) : w'.ownsRow B f 1 v n xs := by
  refine ⟨h.1, ?_⟩
  rcases h.2 with hn | ⟨g, cap, cur, rfl, hbg, hgg, rest⟩
  · exact .inl hn
  · refine .inr ⟨g, cap, cur, rfl, hbg, ?_, rest⟩
    refine k g _ hgg ?_ ?_
    · intro hgb
      exact hb hgb
    · intro c fz hc
      simp only [Obj.cells.injEq] at hc
      exact hfe hc.2.1

theorem owns_ne_builder {w : World} {B b : Nat} {T e f : TypeId} {v : Value} {n : Nat} {xs bs : List Value} (h : w.ownsRow B f 1 v n xs) (hI : Lib.IsBuilderF T e B b bs w) (hfT : f ≠ T) : v.ownBlock ≠ some b := by
  intro hb
  obtain ⟨c, hc⟩ := owns_kind h b hb
  rcases hI with ⟨_, _, hbb, _⟩ | ⟨_, _, hbb, _⟩
  all_goals
    rw [hc] at hbb
    simp only [Option.some.injEq, Obj.cells.injEq] at hbb
    exact hfT hbb.2.1

theorem sort_owns (B : Nat) (ms : List Int) (v : Value) (w : World) (h : w.ownsRow B 21 1 v ms.length (ms.map (Value.int .i32))) (hm : ∀ a ∈ ms, Mark a) (hn : ms.length < 20) :
    Calls Tryz.prog 136 #[v, .func (.func 137) #[] #[]] w fun e w' => e = .returned (.tuple #[]) ∧ w'.ownsRow B 21 1 v ms.length ((sortM ms).map (Value.int .i32)) ∧ w.grownBy w' v.ownBlock := by
  by_cases h0 : ms = []
  · subst h0
    have hv : ∃ p cap, v = .slice p 0 cap := by
      rcases h.2 with ⟨rfl, _⟩ | ⟨g, cap, cur, rfl, _⟩
      · exact ⟨_, _, rfl⟩
      · exact ⟨_, _, rfl⟩
    obtain ⟨p, cap, rfl⟩ := hv
    refine (sort_none p cap w).mono fun e w' ⟨he, hw⟩ => ?_
    subst hw
    exact ⟨he, h, ⟨rfl, rfl, rfl, Nat.le_refl _, fun _ _ _ => rfl⟩⟩
  · rcases h.2 with ⟨_, hz⟩ | ⟨g, cap, cur, rfl, hbg, hgg, hnc, hcm, hcs, htake⟩
    · exact absurd (List.eq_nil_of_length_eq_zero hz) h0
    · have hcell : ∀ j, j < ms.length → cur[j]? = some (.int .i32 (ms.toArray[j]!)) := by
        intro j hj
        have h1 : (cur.toList.take (ms.length * 1))[j]? = (ms.map (Value.int .i32))[j]? := by rw [htake]
        rw [List.getElem?_take, if_pos (by omega)] at h1
        simp only [Array.getElem?_toList, List.getElem?_map] at h1
        rw [h1, List.getElem?_eq_getElem hj]
        simp [hj]
      have hH : Holds (Value.int .i32) w g 0 ms.toArray := by
        intro j hj
        have hj' : j < ms.length := by simpa using hj
        exact ⟨by rw [Nat.zero_add, cell_of_row w g j cur 21 (0, 0) hgg]; exact hcell j hj', by rw [Nat.zero_add]; exact frozen_of_row w g j cur 21 hgg⟩
      have hs := sort_calls g 0 cap ms.toArray w hH (by simpa using hn)
      rw [sorted_marks ms hm] at hs
      have hsz : ms.toArray.size = ms.length := by simp
      rw [hsz] at hs
      refine hs.mono fun e w' ⟨he, m, hw⟩ => ⟨he, ?_, ?_⟩
      · subst hw
        refine ⟨by rw [List.length_map, sortM_length]; omega, .inr ⟨g, cap, putCells (Value.int .i32) 0 (sortM ms).toArray cur, rfl, hbg, ?_, hnc, hcm, ?_, ?_⟩⟩
        · show (putRow (Value.int .i32) w g 0 (sortM ms).toArray).heap[g]? = _
          unfold putRow mapBlock
          rw [Array.getElem?_modify, if_pos rfl, hgg]
          rfl
        · unfold putCells
          rw [Array.size_mapIdx]
          exact hcs
        · apply List.ext_getElem?
          intro j
          rw [List.getElem?_take]
          by_cases hj : j < ms.length
          · rw [if_pos (by omega)]
            unfold putCells
            have hj2 : j < (sortM ms).length := by rw [sortM_length]; exact hj
            simp only [Array.getElem?_toList, Array.getElem?_mapIdx, List.getElem?_map, hcell j hj, List.getElem?_eq_getElem hj2, Option.map_some]
            rw [if_pos ⟨Nat.zero_le _, by simpa using hj2⟩]
            simp [hj2]
          · rw [if_neg (by omega), List.getElem?_eq_none (by rw [List.length_map, sortM_length]; omega)]
      · subst hw
        refine ⟨rfl, rfl, rfl, ?_, fun k hk hne => ?_⟩
        · show _ ≤ (putRow (Value.int .i32) w g 0 (sortM ms).toArray).heap.size
          rw [size_putRow]
          exact Nat.le_refl _
        · show (putRow (Value.int .i32) w g 0 (sortM ms).toArray).heap[k]? = _
          unfold putRow mapBlock
          rw [Array.getElem?_modify, if_neg (fun e => hne (by rw [← e]; rfl))]
end Go.Proofs.YtjpmomklkkifjaaGreatDoor
namespace Go.Proofs.YtjpmomklkkifjaaGreatDoor
set_option maxRecDepth 100000

def SmallR (r : Int) : Prop := 0 ≤ r ∧ r < 2048
def encL (rs : List Int) : List UInt8 := rs.flatMap Lib.encodeRune
def encS (rs : List Int) : ByteArray := ⟨(encL rs).toArray⟩

theorem encL_nil : encL [] = [] := rfl
theorem encL_cons (r : Int) (rs : List Int) : encL (r :: rs) = Lib.encodeRune r ++ encL rs := rfl
theorem encL_append (a b : List Int) : encL (a ++ b) = encL a ++ encL b := by simp [encL]
theorem encL_one (r : Int) : encL [r] = Lib.encodeRune r := by simp [encL]

theorem enc_one {r : Int} (h0 : 0 ≤ r) (h1 : r < 128) : Lib.encodeRune r = [r.toNat.toUInt8] := by
  unfold Lib.encodeRune
  rw [Lib.encodeRuneZ_one h0 (by omega)]
  rfl
theorem enc_two {r : Int} (h0 : 128 ≤ r) (h1 : r < 2048) : Lib.encodeRune r = [(192 + r / 64).toNat.toUInt8, (128 + r % 64).toNat.toUInt8] := by
  unfold Lib.encodeRune
  rw [Lib.encodeRuneZ_two h0 (by omega)]
  rfl
theorem enc_len {r : Int} (h : SmallR r) : 1 ≤ (Lib.encodeRune r).length ∧ (Lib.encodeRune r).length ≤ 2 := by
  rcases Int.lt_or_le r 128 with h1 | h1
  · rw [enc_one h.1 h1]; simp
  · rw [enc_two h1 h.2]; simp

theorem u8 (n : Nat) (h : n < 256) : n.toUInt8.toNat = n := by
  show (UInt8.ofNat n).toNat = n
  simp
  omega

theorem decode_enc {r : Int} (h : SmallR r) (t : List UInt8) : Lib.decodeL (Lib.encodeRune r ++ t) = (r.toNat, (Lib.encodeRune r).length) := by
  have h2 := h.2
  have h0 := h.1
  rcases Int.lt_or_le r 128 with h1 | h1
  · rw [enc_one h.1 h1, Lib.decodeL_N]
    have e := u8 r.toNat (by omega)
    unfold Lib.decodeN
    simp only [List.singleton_append, List.getD_cons_zero, e]
    rw [if_pos (by omega)]
    rfl
  · rw [enc_two h1 h.2, Lib.decodeL_N]
    have e0 := u8 (192 + r / 64).toNat (by omega)
    have e1 := u8 (128 + r % 64).toNat (by omega)
    unfold Lib.decodeN
    simp only [List.cons_append, List.nil_append, List.getD_cons_zero, List.getD_cons_succ, e0, e1]
    rw [if_neg (by omega), if_pos ⟨by omega, by simp, by omega⟩, if_pos (by omega)]
    simp only [List.length_cons, List.length_nil]
    refine Prod.ext ?_ rfl
    show _ = r.toNat
    omega

theorem drop_enc (a b : List Int) : (encL (a ++ b)).drop (encL a).length = encL b := by
  rw [encL_append, List.drop_left]
theorem encS_size (rs : List Int) : (encS rs).size = (encL rs).length := by
  show (encL rs).toArray.size = _
  simp
theorem decode_at (a : List Int) (r : Int) (b : List Int) (h : SmallR r) : Utf8.decode (encS (a ++ r :: b)) (encL a).length = (r.toNat, (Lib.encodeRune r).length) := by
  rw [← Lib.decodeL_drop]
  show Lib.decodeL (((encL (a ++ r :: b)).toArray.toList).drop _) = _
  rw [List.toList_toArray, drop_enc, encL_cons, decode_enc h]
theorem enc_pos {r : Int} (h : SmallR r) : 0 < (Lib.encodeRune r).length := by have := enc_len h; omega
theorem encL_len (rs : List Int) (h : ∀ r ∈ rs, SmallR r) : rs.length ≤ (encL rs).length ∧ (encL rs).length ≤ 2 * rs.length := by
  induction rs with
  | nil => simp [encL]
  | cons r rs ih =>
    have := ih (fun x hx => h x (by simp [hx]))
    have hr := enc_len (h r (by simp))
    rw [encL_cons, List.length_append, List.length_cons]
    omega
theorem encL_inj : ∀ (a b : List Int), (∀ r ∈ a, SmallR r) → (∀ r ∈ b, SmallR r) → encL a = encL b → a = b
  | [], [], _, _, _ => rfl
  | [], r :: b, _, hb, h => by
    have := enc_pos (hb r (by simp))
    rw [encL_cons, encL_nil] at h
    have := congrArg List.length h
    rw [List.length_append, List.length_nil] at this
    omega
  | r :: a, [], ha, _, h => by
    have := enc_pos (ha r (by simp))
    rw [encL_cons, encL_nil] at h
    have := congrArg List.length h
    rw [List.length_append, List.length_nil] at this
    omega
  | r :: a, q :: b, ha, hb, h => by
    have h1 := decode_enc (ha r (by simp)) (encL a)
    have h2 := decode_enc (hb q (by simp)) (encL b)
    rw [encL_cons, encL_cons] at h
    rw [h, h2] at h1
    have e : r = q := by
      have := congrArg Prod.fst h1
      have h3 := (ha r (by simp)).1
      have h4 := (hb q (by simp)).1
      simp only at this
      omega
    subst e
    rw [encL_inj a b (fun x hx => ha x (by simp [hx])) (fun x hx => hb x (by simp [hx])) (List.append_cancel_left h)]
end Go.Proofs.YtjpmomklkkifjaaGreatDoor
namespace Go.Proofs
open Go.Shelf Go.RowKit
namespace YtjpmomklkkifjaaGreatDoor
set_option maxRecDepth 100000
def lays168_ren : Go.Shelf.Ren := ⟨fun | 168 => 94 | 240 => 138 | 242 => 139 | 276 => 179 | 278 => 180 | n => n, fun | 37 => 143 | 46 => 126 | 51 => 182 | 70 => 142 | 72 => 145 | 75 => 35 | 80 => 150 | 164 => 226 | n => n, fun n => n⟩
theorem lays168 : Lays.n168 Tryz.prog lays168_ren := {
  mixed := by kernel_rfl
  f168 := Tryz.func94.trans (congrArg some (by kernel_rfl))
  f240 := Tryz.func138.trans (congrArg some (by kernel_rfl))
  f242 := Tryz.func139.trans (congrArg some (by kernel_rfl))
  f276 := Tryz.func179.trans (congrArg some (by kernel_rfl))
  f278 := Tryz.func180.trans (congrArg some (by kernel_rfl))
  t0 := Tryz.underlying0
  a0 := Tryz.isAgg0
  z0 := Tryz.sizeOf0
  v0 := Tryz.zeroValue0
  t3 := Tryz.underlying3
  a3 := Tryz.isAgg3
  z3 := Tryz.sizeOf3
  v3 := Tryz.zeroValue3
  t4 := Tryz.underlying4
  a4 := Tryz.isAgg4
  z4 := Tryz.sizeOf4
  v4 := Tryz.zeroValue4
  t5 := Tryz.underlying5
  a5 := Tryz.isAgg5
  z5 := Tryz.sizeOf5
  v5 := Tryz.zeroValue5
  t9 := Tryz.underlying9
  a9 := Tryz.isAgg9
  z9 := Tryz.sizeOf9
  v9 := Tryz.zeroValue9
  t20 := Tryz.underlying20
  a20 := Tryz.isAgg20
  z20 := Tryz.sizeOf20
  v20 := Tryz.zeroValue20
  t21 := Tryz.underlying21
  a21 := Tryz.isAgg21
  z21 := Tryz.sizeOf21
  v21 := Tryz.zeroValue21
  t37 := Tryz.underlying143
  a37 := Tryz.isAgg143
  z37 := Tryz.sizeOf143
  v37 := Tryz.zeroValue143
  t46 := Tryz.underlying126
  a46 := Tryz.isAgg126
  z46 := Tryz.sizeOf126
  v46 := Tryz.zeroValue126
  t51 := Tryz.underlying182
  a51 := Tryz.isAgg182
  z51 := Tryz.sizeOf182
  v51 := Tryz.zeroValue182
  t70 := Tryz.underlying142
  a70 := Tryz.isAgg142
  z70 := Tryz.sizeOf142
  v70 := Tryz.zeroValue142
  t72 := Tryz.underlying145
  a72 := Tryz.isAgg145
  z72 := Tryz.sizeOf145
  v72 := Tryz.zeroValue145
  t75 := Tryz.underlying35
  a75 := Tryz.isAgg35
  z75 := Tryz.sizeOf35
  v75 := Tryz.zeroValue35
  t164 := Tryz.underlying226
  a164 := Tryz.isAgg226
  z164 := Tryz.sizeOf226
  v164 := Tryz.zeroValue226 }
theorem extra168 : Builder.Extra Tryz.prog lays168_ren := {
  sizeBuilder := by kernel_rfl
  liesBuilder := by kernel_rfl
  t5 := Tryz.underlying5
  a5 := Tryz.isAgg5
  z5 := Tryz.sizeOf5
  v5 := Tryz.zeroValue5
  infoByte := by kernel_rfl
  cellsByte := by kernel_rfl
  sizeByte := by kernel_rfl
  neB5 := by decide }
theorem writeRune_k (B b : Nat) (bs : List Value) (r : Int) (hr0 : -2147483648 ≤ r) (hr1 : r ≤ 2147483647) (w : World) (h : Lib.IsBuilderF 145 5 B b bs w) (hlen : bs.length + 4 ≤ 140737488355328) (hBw : B ≤ w.heap.size) :
    Calls Tryz.prog 94 #[.pointer (some ⟨b, 0, none⟩), .int .i32 r] w fun e w' => e = .returned (.tuple #[.int .i64 (Lib.runeCells r).length, .nilIface]) ∧ (Lib.BuilderAtF 145 5 B b (.pointer (some ⟨b, 0, none⟩)) (bs ++ Lib.runeCells r) w' ∧ Below B w w' ∧ Lib.OthersKept 5 (some b) w w') := Any.Builder_WriteRune_k lays168 extra168 B b bs r hr0 hr1 w h hlen hBw
def lays169_ren : Go.Shelf.Ren := ⟨fun | 169 => 95 | n => n, fun | 70 => 142 | 72 => 145 | 37 => 143 | 127 => 198 | n => n, fun n => n⟩
theorem lays169 : Lays.n169 Tryz.prog lays169_ren := {
  mixed := by kernel_rfl
  f169 := Tryz.func95.trans (congrArg some (by kernel_rfl))
  t0 := Tryz.underlying0
  a0 := Tryz.isAgg0
  z0 := Tryz.sizeOf0
  v0 := Tryz.zeroValue0
  t3 := Tryz.underlying3
  a3 := Tryz.isAgg3
  z3 := Tryz.sizeOf3
  v3 := Tryz.zeroValue3
  t9 := Tryz.underlying9
  a9 := Tryz.isAgg9
  z9 := Tryz.sizeOf9
  v9 := Tryz.zeroValue9
  t37 := Tryz.underlying143
  a37 := Tryz.isAgg143
  z37 := Tryz.sizeOf143
  v37 := Tryz.zeroValue143
  t70 := Tryz.underlying142
  a70 := Tryz.isAgg142
  z70 := Tryz.sizeOf142
  v70 := Tryz.zeroValue142
  t72 := Tryz.underlying145
  a72 := Tryz.isAgg145
  z72 := Tryz.sizeOf145
  v72 := Tryz.zeroValue145
  t127 := Tryz.underlying198
  a127 := Tryz.isAgg198
  z127 := Tryz.sizeOf198
  v127 := Tryz.zeroValue198 }
theorem extra169 : Builder.Extra Tryz.prog lays169_ren := {
  sizeBuilder := by kernel_rfl
  liesBuilder := by kernel_rfl
  t5 := Tryz.underlying5
  a5 := Tryz.isAgg5
  z5 := Tryz.sizeOf5
  v5 := Tryz.zeroValue5
  infoByte := by kernel_rfl
  cellsByte := by kernel_rfl
  sizeByte := by kernel_rfl
  neB5 := by decide }
theorem string_k (B b : Nat) (l : List UInt8) (w : World) (h : Lib.IsBuilderF 145 5 B b (Lib.byteCells l) w) (hBw : B ≤ w.heap.size) :
    Calls Tryz.prog 95 #[.pointer (some ⟨b, 0, none⟩)] w fun e w' => e = .returned (.string ⟨l.toArray⟩) ∧ (Lib.IsBuilderF 145 5 B b (Lib.byteCells l) w' ∧ Below B w w' ∧ Lib.OthersKept 5 (some b) w w') := Any.Builder_String_any_k lays169 extra169 B b l w h hBw
end YtjpmomklkkifjaaGreatDoor
end Go.Proofs
