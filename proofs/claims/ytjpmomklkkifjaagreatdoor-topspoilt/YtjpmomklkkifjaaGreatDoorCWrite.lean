import Derived.Test.YtjpmomklkkifjaaGreatDoorCSort
import Derived.Lib.OthersKept
import Derived.Laws.AppendOwn
import Derived.Lib.MapLaws
import Derived.Lib.RuneBytes
import Derived.Test.YtjpmomklkkifjaaGreatDoorProg
import Derived.Shelf.Strings.BuilderRune
import Derived.Deep.LoopGhost
import Derived.BigCall
import Derived.Outline
set_option maxRecDepth 100000
set_option linter.unusedVariables false
set_option linter.unusedSimpArgs false
namespace Go.Proofs.YtjpmomklkkifjaaGreatDoor
open Go.Sort
def Mark (r : Int) : Prop := classZ r = 202 ∨ classZ r = 230
def sortM (l : List Int) : List Int := l.filter (fun r => classZ r == 202) ++ l.filter (fun r => !(classZ r == 202))
theorem last_or (l : List Int) : l = [] ∨ ∃ A a, l = A ++ [a] := by
  rcases List.eq_nil_or_concat l with h | ⟨A, a, h⟩
  · exact .inl h
  · exact .inr ⟨A, a, by rw [h, List.concat_eq_append]⟩
theorem get_list (A R : List Int) (b : Int) : (A ++ b :: R).toArray[A.length]! = b := by
  simp
theorem swp_list (A R : List Int) (b x : Int) : swp (A ++ b :: x :: R).toArray (A.length + 1) A.length = (A ++ x :: b :: R).toArray := by
  unfold swp
  have h1 : (A ++ b :: x :: R).toArray[A.length]! = b := get_list _ _ _
  have h2 : (A ++ b :: x :: R).toArray[A.length + 1]! = x := by
    simp
  rw [h1, h2]
  simp
theorem bubble (x : Int) (hx : classZ x = 202) (A : List Int) (hA : ∀ a ∈ A, classZ a = 202) : ∀ (n : Nat) (B R : List Int), B.length = n → (∀ b ∈ B, classZ b = 230) →
    insInner (ltOf cmpZ) 0 (A.length + B.length) (A ++ B ++ x :: R).toArray = (A ++ x :: B ++ R).toArray := by
  intro n
  induction n with
  | zero =>
    intro B R hn _
    have : B = [] := List.eq_nil_of_length_eq_zero hn
    subst this
    simp only [List.append_nil, List.length_nil, Nat.add_zero]
    rcases last_or A with rfl | ⟨A', a, rfl⟩
    · rw [insInner_stop _ _ _ _ (.inl (by simp))]
      simp
    · rw [insInner_stop]
      · simp
      · right
        have e1 : ((A' ++ [a]) ++ x :: R).toArray[(A' ++ [a]).length]! = x := get_list _ _ _
        have e2 : ((A' ++ [a]) ++ x :: R).toArray[(A' ++ [a]).length - 1]! = a := by
          simp
        rw [e1, e2]
        have ha := hA a (by simp)
        simp [ltOf, cmpZ, hx, ha]
  | succ n ih =>
    intro B R hn hB
    rcases last_or B with rfl | ⟨B', b, rfl⟩
    · simp at hn
    · have hl : A.length + (B' ++ [b]).length = (A ++ B').length + 1 := by simp; omega
      have hb := hB b (by simp)
      have e0 : A ++ (B' ++ [b]) ++ x :: R = (A ++ B') ++ b :: x :: R := by simp
      rw [hl, e0, insInner_go]
      · rw [Nat.add_sub_cancel, swp_list]
        have := ih B' (b :: R) (by simpa using hn) (fun c hc => hB c (by simp [hc]))
        rw [List.length_append, this]
        simp
      · omega
      · have e1 : ((A ++ B') ++ b :: x :: R).toArray[(A ++ B').length + 1]! = x := by
          have e : (A ++ B') ++ b :: x :: R = (A ++ B' ++ [b]) ++ x :: R := by simp
          have el : (A ++ B').length + 1 = (A ++ B' ++ [b]).length := by simp; omega
          rw [e, el]
          exact get_list _ _ _
        have e2 : ((A ++ B') ++ b :: x :: R).toArray[(A ++ B').length + 1 - 1]! = b := get_list _ _ _
        rw [e1, e2]
        simp [ltOf, cmpZ, hx, hb]
theorem stays (x : Int) (S R : List Int) (hx : classZ x = 230) (hS : ∀ a ∈ S, Mark a) : insInner (ltOf cmpZ) 0 S.length (S ++ x :: R).toArray = (S ++ x :: R).toArray := by
  rcases last_or S with rfl | ⟨A', a, rfl⟩
  · rw [insInner_stop _ _ _ _ (.inl (by simp))]
  · rw [insInner_stop]
    right
    have e1 : ((A' ++ [a]) ++ x :: R).toArray[(A' ++ [a]).length]! = x := get_list _ _ _
    have e2 : ((A' ++ [a]) ++ x :: R).toArray[(A' ++ [a]).length - 1]! = a := by
      simp
    rw [e1, e2]
    rcases hS a (by simp) with ha | ha <;> simp [ltOf, cmpZ, hx, ha]
theorem sortM_mem (l : List Int) (a : Int) : a ∈ sortM l ↔ a ∈ l := by
  unfold sortM
  rw [List.mem_append, List.mem_filter, List.mem_filter]
  cases h : classZ a == 202 <;> simp
theorem sortM_length (l : List Int) : (sortM l).length = l.length := by
  induction l with
  | nil => rfl
  | cons x l ih =>
    unfold sortM at ih ⊢
    rw [List.length_append] at ih ⊢
    rw [List.filter_cons, List.filter_cons]
    cases h : classZ x == 202 <;> simp <;> omega
theorem step (pre R : List Int) (x : Int) (hp : ∀ a ∈ pre, Mark a) (hx : Mark x) : insInner (ltOf cmpZ) 0 pre.length (sortM pre ++ x :: R).toArray = (sortM (pre ++ [x]) ++ R).toArray := by
  rw [← sortM_length pre]
  rcases hx with hx | hx
  · have h1 : sortM (pre ++ [x]) = pre.filter (fun r => classZ r == 202) ++ x :: pre.filter (fun r => !(classZ r == 202)) := by
      simp [sortM, List.filter_append, hx]
    rw [h1]
    have := bubble x hx (pre.filter (fun r => classZ r == 202)) (fun a ha => by simpa using (List.mem_filter.1 ha).2) _ (pre.filter (fun r => !(classZ r == 202))) R rfl (fun b hb => by
      have hb1 := List.mem_filter.1 hb
      rcases hp b hb1.1 with h | h
      · simp [h] at hb1
      · exact h)
    have e : (sortM pre).length = (pre.filter (fun r => classZ r == 202)).length + (pre.filter (fun r => !(classZ r == 202))).length := by
      unfold sortM
      rw [List.length_append]
    rw [e]
    unfold sortM
    rw [this]
  · have h1 : sortM (pre ++ [x]) = sortM pre ++ [x] := by simp [sortM, List.filter_append, hx]
    rw [h1, stays x _ R hx (fun a ha => hp a ((sortM_mem _ _).1 ha))]
    simp
theorem outer : ∀ (R pre : List Int), (∀ a ∈ pre, Mark a) → (∀ a ∈ R, Mark a) → insOuter (ltOf cmpZ) 0 (pre.length + R.length) pre.length (sortM pre ++ R).toArray = (sortM (pre ++ R)).toArray
  | [], pre, _, _ => by
    rw [insOuter_stop _ _ _ _ _ (by simp)]
    simp
  | x :: R, pre, hp, hR => by
    rw [insOuter_go _ _ _ _ _ (by simp), step pre R x hp (hR x (by simp))]
    have := outer R (pre ++ [x]) (fun a ha => by
      rcases List.mem_append.1 ha with h | h
      · exact hp a h
      · simp at h; subst h; exact hR a (by simp)) (fun a ha => hR a (by simp [ha]))
    simp only [List.length_append, List.length_cons, List.length_nil] at this ⊢
    rw [show pre.length + (R.length + 1) = pre.length + (0 + 1) + R.length by omega, show pre.length + 1 = pre.length + (0 + 1) by omega, this]
    simp
theorem sorted_marks (l : List Int) (h : ∀ a ∈ l, Mark a) : sorted l.toArray = (sortM l).toArray := by
  unfold sorted insertionSort
  cases l with
  | nil =>
    rw [insOuter_stop _ _ _ _ _ (by simp)]
    rfl
  | cons x l =>
    have h1 : sortM [x] = [x] := by
      unfold sortM
      cases h : classZ x == 202 <;> simp [h]
    have := outer l [x] (fun a ha => by simp at ha; subst ha; exact h a (by simp)) (fun a ha => h a (by simp [ha]))
    rw [h1] at this
    simpa [Nat.add_comm] using this
end Go.Proofs.YtjpmomklkkifjaaGreatDoor
namespace Go.Proofs.YtjpmomklkkifjaaGreatDoor
open Go.RowKit Go.Sort
theorem builder_grown {T e : TypeId} {B b : Nat} {bs : List Value} {w w' : World} {row : Option Nat} (h : Lib.IsBuilderF T e B b bs w) (hg : w.grownBy w' row)
    (hrow : ∀ g, row = some g → ∃ c t fz, w.heap[g]? = some (.cells c t fz) ∧ t ≠ T ∧ t ≠ e) : Lib.IsBuilderF T e B b bs w' := by
  have core : ∀ p, Lib.BuilderAtF T e B b p bs w → Lib.BuilderAtF T e B b p bs w' := by
    intro p h
    have hlt := h.lt
    obtain ⟨hB, v, hb, hown, hne⟩ := h
    refine ⟨hB, v, ?_, ?_, hne⟩
    · rw [hg.block b hlt ?_]
      · exact hb
      · intro hbr
        obtain ⟨c, t, fz, hc, ht, _⟩ := hrow b hbr.symm
        rw [hb] at hc
        simp only [Option.some.injEq, Obj.cells.injEq] at hc
        exact ht hc.2.1.symm
    · refine hown.kept hg ?_
      rcases hown.2 with ⟨rfl, _⟩ | ⟨g, cap, cur, fz, rfl, _, hgg, _⟩
      · left; rfl
      · right
        intro hbr
        obtain ⟨c, t, fz', hc, _, ht⟩ := hrow g (by rw [← hbr]; rfl)
        rw [hgg] at hc
        simp only [Option.some.injEq, Obj.cells.injEq] at hc
        exact ht hc.2.1.symm
  exact h.elim (fun x => .inl (core _ x)) (fun x => .inr (core _ x))
theorem owns_kind {w : World} {B : Nat} {e : TypeId} {v : Value} {n : Nat} {xs : List Value} (h : w.ownsRow B e 1 v n xs) : ∀ g, v.ownBlock = some g → ∃ c, w.heap[g]? = some (.cells c e (0, 0)) := by
  intro g hg
  rcases h.2 with ⟨rfl, _⟩ | ⟨g', cap, cur, rfl, _, hgg, _⟩
  · simp [Value.ownBlock] at hg
  · simp [Value.ownBlock] at hg
    subst hg
    exact ⟨cur, hgg⟩
theorem owns_others {w w' : World} {B b : Nat} {e f : TypeId} {v : Value} {n : Nat} {xs : List Value} (h : w.ownsRow B f 1 v n xs) (k : Lib.OthersKept e (some b) w w') (hb : v.ownBlock ≠ some b) (hfe : f ≠ e) : w'.ownsRow B f 1 v n xs := by
  refine ⟨h.1, ?_⟩
  rcases h.2 with hn | ⟨g, cap, cur, rfl, hbg, hgg, rest⟩
  · exact .inl hn
  · refine .inr ⟨g, cap, cur, rfl, hbg, ?_, rest⟩
    refine k g _ hgg ?_ ?_
    · intro hgb
      exact hb hgb
    · intro c fz hc
      simp only [Obj.cells.injEq] at hc
      exact hfe hc.2.1
theorem owns_ne_builder {w : World} {B b : Nat} {T e f : TypeId} {v : Value} {n : Nat} {xs bs : List Value} (h : w.ownsRow B f 1 v n xs) (hI : Lib.IsBuilderF T e B b bs w) (hfT : f ≠ T) : v.ownBlock ≠ some b := by
  intro hb
  obtain ⟨c, hc⟩ := owns_kind h b hb
  rcases hI with ⟨_, _, hbb, _⟩ | ⟨_, _, hbb, _⟩
  all_goals
    rw [hc] at hbb
    simp only [Option.some.injEq, Obj.cells.injEq] at hbb
    exact hfT hbb.2.1
theorem sort_owns (B : Nat) (ms : List Int) (v : Value) (w : World) (h : w.ownsRow B 21 1 v ms.length (ms.map (Value.int .i32))) (hm : ∀ a ∈ ms, Mark a) (hn : ms.length < 20) :
    Calls Tryz.prog 136 #[v, .func (.func 137) #[] #[]] w fun e w' => e = .returned (.tuple #[]) ∧ w'.ownsRow B 21 1 v ms.length ((sortM ms).map (Value.int .i32)) ∧ w.grownBy w' v.ownBlock := by
  by_cases h0 : ms = []
  · subst h0
    have hv : ∃ p cap, v = .slice p 0 cap := by
      rcases h.2 with ⟨rfl, _⟩ | ⟨g, cap, cur, rfl, _⟩
      · exact ⟨_, _, rfl⟩
      · exact ⟨_, _, rfl⟩
    obtain ⟨p, cap, rfl⟩ := hv
    refine (sort_none p cap w).mono fun e w' ⟨he, hw⟩ => ?_
    subst hw
    exact ⟨he, h, ⟨rfl, rfl, rfl, Nat.le_refl _, fun _ _ _ => rfl⟩⟩
  · rcases h.2 with ⟨_, hz⟩ | ⟨g, cap, cur, rfl, hbg, hgg, hnc, hcm, hcs, htake⟩
    · exact absurd (List.eq_nil_of_length_eq_zero hz) h0
    · have hcell : ∀ j, j < ms.length → cur[j]? = some (.int .i32 (ms.toArray[j]!)) := by
        intro j hj
        have h1 : (cur.toList.take (ms.length * 1))[j]? = (ms.map (Value.int .i32))[j]? := by rw [htake]
        rw [List.getElem?_take, if_pos (by omega)] at h1
        simp only [Array.getElem?_toList, List.getElem?_map] at h1
        rw [h1, List.getElem?_eq_getElem hj]
        simp [hj]
      have hH : Holds (Value.int .i32) w g 0 ms.toArray := by
        intro j hj
        have hj' : j < ms.length := by simpa using hj
        exact ⟨by rw [Nat.zero_add, cell_of_row w g j cur 21 (0, 0) hgg]; exact hcell j hj', by rw [Nat.zero_add]; exact frozen_of_row w g j cur 21 hgg⟩
      have hs := sort_calls g 0 cap ms.toArray w hH (by simpa using hn)
      rw [sorted_marks ms hm] at hs
      have hsz : ms.toArray.size = ms.length := by simp
      rw [hsz] at hs
      refine hs.mono fun e w' ⟨he, m, hw⟩ => ⟨he, ?_, ?_⟩
      · subst hw
        refine ⟨by rw [List.length_map, sortM_length]; omega, .inr ⟨g, cap, putCells (Value.int .i32) 0 (sortM ms).toArray cur, rfl, hbg, ?_, hnc, hcm, ?_, ?_⟩⟩
        · show (putRow (Value.int .i32) w g 0 (sortM ms).toArray).heap[g]? = _
          unfold putRow mapBlock
          rw [Array.getElem?_modify, if_pos rfl, hgg]
          rfl
        · unfold putCells
          rw [Array.size_mapIdx]
          exact hcs
        · apply List.ext_getElem?
          intro j
          rw [List.getElem?_take]
          by_cases hj : j < ms.length
          · rw [if_pos (by omega)]
            unfold putCells
            have hj2 : j < (sortM ms).length := by rw [sortM_length]; exact hj
            simp only [Array.getElem?_toList, Array.getElem?_mapIdx, List.getElem?_map, hcell j hj, List.getElem?_eq_getElem hj2, Option.map_some]
            rw [if_pos ⟨Nat.zero_le _, by simpa using hj2⟩]
            simp [hj2]
          · rw [if_neg (by omega), List.getElem?_eq_none (by rw [List.length_map, sortM_length]; omega)]
      · subst hw
        refine ⟨rfl, rfl, rfl, ?_, fun k hk hne => ?_⟩
        · show _ ≤ (putRow (Value.int .i32) w g 0 (sortM ms).toArray).heap.size
          rw [size_putRow]
          exact Nat.le_refl _
        · show (putRow (Value.int .i32) w g 0 (sortM ms).toArray).heap[k]? = _
          unfold putRow mapBlock
          rw [Array.getElem?_modify, if_neg (fun e => hne (by rw [← e]; rfl))]
end Go.Proofs.YtjpmomklkkifjaaGreatDoor
namespace Go.Proofs.YtjpmomklkkifjaaGreatDoor
def SmallR (r : Int) : Prop := 0 ≤ r ∧ r < 2048
def encL (rs : List Int) : List UInt8 := rs.flatMap Lib.encodeRune
def encS (rs : List Int) : ByteArray := ⟨(encL rs).toArray⟩
theorem encL_nil : encL [] = [] := rfl
theorem encL_cons (r : Int) (rs : List Int) : encL (r :: rs) = Lib.encodeRune r ++ encL rs := rfl
theorem encL_append (a b : List Int) : encL (a ++ b) = encL a ++ encL b := by simp [encL]
theorem encL_one (r : Int) : encL [r] = Lib.encodeRune r := by simp [encL]
theorem enc_one {r : Int} (h0 : 0 ≤ r) (h1 : r < 128) : Lib.encodeRune r = [r.toNat.toUInt8] := by
  unfold Lib.encodeRune
  rw [Lib.encodeRuneZ_one h0 (by omega)]
  rfl
theorem enc_two {r : Int} (h0 : 128 ≤ r) (h1 : r < 2048) : Lib.encodeRune r = [(192 + r / 64).toNat.toUInt8, (128 + r % 64).toNat.toUInt8] := by
  unfold Lib.encodeRune
  rw [Lib.encodeRuneZ_two h0 (by omega)]
  rfl
theorem enc_len {r : Int} (h : SmallR r) : 1 ≤ (Lib.encodeRune r).length ∧ (Lib.encodeRune r).length ≤ 2 := by
  rcases Int.lt_or_le r 128 with h1 | h1
  · rw [enc_one h.1 h1]; simp
  · rw [enc_two h1 h.2]; simp
theorem u8 (n : Nat) (h : n < 256) : n.toUInt8.toNat = n := by
  show (UInt8.ofNat n).toNat = n
  simp
  omega
theorem decode_enc {r : Int} (h : SmallR r) (t : List UInt8) : Lib.decodeL (Lib.encodeRune r ++ t) = (r.toNat, (Lib.encodeRune r).length) := by
  have h2 := h.2
  have h0 := h.1
  rcases Int.lt_or_le r 128 with h1 | h1
  · rw [enc_one h.1 h1, Lib.decodeL_N]
    have e := u8 r.toNat (by omega)
    unfold Lib.decodeN
    simp only [List.singleton_append, List.getD_cons_zero, e]
    rw [if_pos (by omega)]
    rfl
  · rw [enc_two h1 h.2, Lib.decodeL_N]
    have e0 := u8 (192 + r / 64).toNat (by omega)
    have e1 := u8 (128 + r % 64).toNat (by omega)
    unfold Lib.decodeN
    simp only [List.cons_append, List.nil_append, List.getD_cons_zero, List.getD_cons_succ, e0, e1]
    rw [if_neg (by omega), if_pos ⟨by omega, by simp, by omega⟩, if_pos (by omega)]
    simp only [List.length_cons, List.length_nil]
    refine Prod.ext ?_ rfl
    show _ = r.toNat
    omega
theorem drop_enc (a b : List Int) : (encL (a ++ b)).drop (encL a).length = encL b := by
  rw [encL_append, List.drop_left]
theorem encS_size (rs : List Int) : (encS rs).size = (encL rs).length := by
  show (encL rs).toArray.size = _
  simp
theorem decode_at (a : List Int) (r : Int) (b : List Int) (h : SmallR r) : Utf8.decode (encS (a ++ r :: b)) (encL a).length = (r.toNat, (Lib.encodeRune r).length) := by
  rw [← Lib.decodeL_drop]
  show Lib.decodeL (((encL (a ++ r :: b)).toArray.toList).drop _) = _
  rw [List.toList_toArray, drop_enc, encL_cons, decode_enc h]
theorem enc_pos {r : Int} (h : SmallR r) : 0 < (Lib.encodeRune r).length := by have := enc_len h; omega
theorem encL_len (rs : List Int) (h : ∀ r ∈ rs, SmallR r) : rs.length ≤ (encL rs).length ∧ (encL rs).length ≤ 2 * rs.length := by
  induction rs with
  | nil => simp [encL]
  | cons r rs ih =>
    have := ih (fun x hx => h x (by simp [hx]))
    have hr := enc_len (h r (by simp))
    rw [encL_cons, List.length_append, List.length_cons]
    omega
theorem encL_inj : ∀ (a b : List Int), (∀ r ∈ a, SmallR r) → (∀ r ∈ b, SmallR r) → encL a = encL b → a = b
  | [], [], _, _, _ => rfl
  | [], r :: b, _, hb, h => by
    have := enc_pos (hb r (by simp))
    rw [encL_cons, encL_nil] at h
    have := congrArg List.length h
    rw [List.length_append, List.length_nil] at this
    omega
  | r :: a, [], ha, _, h => by
    have := enc_pos (ha r (by simp))
    rw [encL_cons, encL_nil] at h
    have := congrArg List.length h
    rw [List.length_append, List.length_nil] at this
    omega
  | r :: a, q :: b, ha, hb, h => by
    have h1 := decode_enc (ha r (by simp)) (encL a)
    have h2 := decode_enc (hb q (by simp)) (encL b)
    rw [encL_cons, encL_cons] at h
    rw [h, h2] at h1
    have e : r = q := by
      have := congrArg Prod.fst h1
      have h3 := (ha r (by simp)).1
      have h4 := (hb q (by simp)).1
      simp only at this
      omega
    subst e
    rw [encL_inj a b (fun x hx => ha x (by simp [hx])) (fun x hx => hb x (by simp [hx])) (List.append_cancel_left h)]
end Go.Proofs.YtjpmomklkkifjaaGreatDoor
namespace Go.Proofs
open Go.Shelf Go.RowKit
namespace YtjpmomklkkifjaaGreatDoor
def lays168_ren : Go.Shelf.Ren := ⟨fun | 168 => 94 | 240 => 138 | 242 => 139 | 276 => 179 | 278 => 180 | n => n, fun | 37 => 143 | 46 => 126 | 51 => 182 | 70 => 142 | 72 => 145 | 75 => 35 | 80 => 150 | 164 => 226 | n => n, fun n => n⟩
theorem lays168 : Lays.n168 Tryz.prog lays168_ren := {
  mixed := by kernel_rfl
  f168 := Tryz.func94.trans (congrArg some (by kernel_rfl))
  f240 := Tryz.func138.trans (congrArg some (by kernel_rfl))
  f242 := Tryz.func139.trans (congrArg some (by kernel_rfl))
  f276 := Tryz.func179.trans (congrArg some (by kernel_rfl))
  f278 := Tryz.func180.trans (congrArg some (by kernel_rfl))
  t0 := Tryz.underlying0
  a0 := Tryz.isAgg0
  z0 := Tryz.sizeOf0
  v0 := Tryz.zeroValue0
  t3 := Tryz.underlying3
  a3 := Tryz.isAgg3
  z3 := Tryz.sizeOf3
  v3 := Tryz.zeroValue3
  t4 := Tryz.underlying4
  a4 := Tryz.isAgg4
  z4 := Tryz.sizeOf4
  v4 := Tryz.zeroValue4
  t5 := Tryz.underlying5
  a5 := Tryz.isAgg5
  z5 := Tryz.sizeOf5
  v5 := Tryz.zeroValue5
  t9 := Tryz.underlying9
  a9 := Tryz.isAgg9
  z9 := Tryz.sizeOf9
  v9 := Tryz.zeroValue9
  t20 := Tryz.underlying20
  a20 := Tryz.isAgg20
  z20 := Tryz.sizeOf20
  v20 := Tryz.zeroValue20
  t21 := Tryz.underlying21
  a21 := Tryz.isAgg21
  z21 := Tryz.sizeOf21
  v21 := Tryz.zeroValue21
  t37 := Tryz.underlying143
  a37 := Tryz.isAgg143
  z37 := Tryz.sizeOf143
  v37 := Tryz.zeroValue143
  t46 := Tryz.underlying126
  a46 := Tryz.isAgg126
  z46 := Tryz.sizeOf126
  v46 := Tryz.zeroValue126
  t51 := Tryz.underlying182
  a51 := Tryz.isAgg182
  z51 := Tryz.sizeOf182
  v51 := Tryz.zeroValue182
  t70 := Tryz.underlying142
  a70 := Tryz.isAgg142
  z70 := Tryz.sizeOf142
  v70 := Tryz.zeroValue142
  t72 := Tryz.underlying145
  a72 := Tryz.isAgg145
  z72 := Tryz.sizeOf145
  v72 := Tryz.zeroValue145
  t75 := Tryz.underlying35
  a75 := Tryz.isAgg35
  z75 := Tryz.sizeOf35
  v75 := Tryz.zeroValue35
  t164 := Tryz.underlying226
  a164 := Tryz.isAgg226
  z164 := Tryz.sizeOf226
  v164 := Tryz.zeroValue226 }
theorem extra168 : Builder.Extra Tryz.prog lays168_ren := {
  sizeBuilder := by kernel_rfl
  liesBuilder := by kernel_rfl
  t5 := Tryz.underlying5
  a5 := Tryz.isAgg5
  z5 := Tryz.sizeOf5
  v5 := Tryz.zeroValue5
  infoByte := by kernel_rfl
  cellsByte := by kernel_rfl
  sizeByte := by kernel_rfl
  neB5 := by decide }
theorem writeRune_k (B b : Nat) (bs : List Value) (r : Int) (hr0 : -2147483648 ≤ r) (hr1 : r ≤ 2147483647) (w : World) (h : Lib.IsBuilderF 145 5 B b bs w) (hlen : bs.length + 4 ≤ 140737488355328) (hBw : B ≤ w.heap.size) :
    Calls Tryz.prog 94 #[.pointer (some ⟨b, 0, none⟩), .int .i32 r] w fun e w' => e = .returned (.tuple #[.int .i64 (Lib.runeCells r).length, .nilIface]) ∧ (Lib.BuilderAtF 145 5 B b (.pointer (some ⟨b, 0, none⟩)) (bs ++ Lib.runeCells r) w' ∧ Below B w w' ∧ Lib.OthersKept 5 (some b) w w') := Any.Builder_WriteRune_k lays168 extra168 B b bs r hr0 hr1 w h hlen hBw
def lays169_ren : Go.Shelf.Ren := ⟨fun | 169 => 95 | n => n, fun | 70 => 142 | 72 => 145 | 37 => 143 | 127 => 198 | n => n, fun n => n⟩
theorem lays169 : Lays.n169 Tryz.prog lays169_ren := {
  mixed := by kernel_rfl
  f169 := Tryz.func95.trans (congrArg some (by kernel_rfl))
  t0 := Tryz.underlying0
  a0 := Tryz.isAgg0
  z0 := Tryz.sizeOf0
  v0 := Tryz.zeroValue0
  t3 := Tryz.underlying3
  a3 := Tryz.isAgg3
  z3 := Tryz.sizeOf3
  v3 := Tryz.zeroValue3
  t9 := Tryz.underlying9
  a9 := Tryz.isAgg9
  z9 := Tryz.sizeOf9
  v9 := Tryz.zeroValue9
  t37 := Tryz.underlying143
  a37 := Tryz.isAgg143
  z37 := Tryz.sizeOf143
  v37 := Tryz.zeroValue143
  t70 := Tryz.underlying142
  a70 := Tryz.isAgg142
  z70 := Tryz.sizeOf142
  v70 := Tryz.zeroValue142
  t72 := Tryz.underlying145
  a72 := Tryz.isAgg145
  z72 := Tryz.sizeOf145
  v72 := Tryz.zeroValue145
  t127 := Tryz.underlying198
  a127 := Tryz.isAgg198
  z127 := Tryz.sizeOf198
  v127 := Tryz.zeroValue198 }
theorem extra169 : Builder.Extra Tryz.prog lays169_ren := {
  sizeBuilder := by kernel_rfl
  liesBuilder := by kernel_rfl
  t5 := Tryz.underlying5
  a5 := Tryz.isAgg5
  z5 := Tryz.sizeOf5
  v5 := Tryz.zeroValue5
  infoByte := by kernel_rfl
  cellsByte := by kernel_rfl
  sizeByte := by kernel_rfl
  neB5 := by decide }
theorem string_k (B b : Nat) (l : List UInt8) (w : World) (h : Lib.IsBuilderF 145 5 B b (Lib.byteCells l) w) (hBw : B ≤ w.heap.size) :
    Calls Tryz.prog 95 #[.pointer (some ⟨b, 0, none⟩)] w fun e w' => e = .returned (.string ⟨l.toArray⟩) ∧ (Lib.IsBuilderF 145 5 B b (Lib.byteCells l) w' ∧ Below B w w' ∧ Lib.OthersKept 5 (some b) w w') := Any.Builder_String_any_k lays169 extra169 B b l w h hBw
end YtjpmomklkkifjaaGreatDoor
end Go.Proofs
namespace Go.Proofs.YtjpmomklkkifjaaGreatDoor
open Go.RowKit
theorem hide {p : Prop} (h : p) : Hid p := h
theorem unhide {p : Prop} (h : Hid p) : p := h
def Kept (b : Nat) (row : Option Nat) (w w' : World) : Prop := ∀ k o, w.heap[k]? = some o → k ≠ b → some k ≠ row → (∀ c fz, o ≠ .cells c 5 fz) → w'.heap[k]? = some o
theorem Kept.refl (b : Nat) (row : Option Nat) (w : World) : Kept b row w w := fun _ _ h _ _ _ => h
theorem Kept.trans {b : Nat} {row : Option Nat} {a c d : World} (h : Kept b row a c) (k : Kept b row c d) : Kept b row a d :=
  fun i o hi hb hr ho => k i o (h i o hi hb hr ho) hb hr ho
theorem Kept.others {b : Nat} {row : Option Nat} {w w' : World} (h : Lib.OthersKept 5 (some b) w w') : Kept b row w w' :=
  fun i o hi hb _ ho => h i o hi (fun e => hb (Option.some.inj e)) ho
theorem Kept.grown {b : Nat} {row : Option Nat} {w w' : World} (h : w.grownBy w' row) : Kept b row w w' := by
  intro i o hi _ hr _
  rw [h.block i (Array.getElem?_eq_some_iff.1 hi).1 hr]
  exact hi
theorem add_addr (g j : Nat) : (⟨g, 0, none⟩ : Addr).add j = ⟨g, j, none⟩ := by
  unfold Addr.add
  split <;> simp_all
theorem mark_range {r : Int} (h : Mark r) : 768 ≤ r ∧ r ≤ 807 := by
  unfold Mark classZ at h
  by_cases h1 : r = 768 ∨ r = 769 ∨ r = 776
  · omega
  · rw [if_neg h1] at h
    by_cases h2 : r = 807
    · omega
    · rw [if_neg h2] at h
      omega
theorem mark_small {r : Int} (h : Mark r) : SmallR r := by
  have := mark_range h
  exact ⟨by omega, by omega⟩
theorem below_grown {B : Nat} {w w' : World} {row : Option Nat} (h : w.grownBy w' row) (hB : B ≤ w.heap.size) (hr : ∀ g, row = some g → B ≤ g) : Below B w w' :=
  ⟨h.os, h.tape, h.output, h.size, fun k hk => h.block k (by omega) (fun e => by have := hr k e.symm; omega)⟩
set_option maxRecDepth 100000 in
theorem writeMarks_calls (B b : Nat) (acc : List UInt8) (ms : List Int) (v : Value) (w : World) (hI : Lib.IsBuilderF 145 5 B b (Lib.byteCells acc) w) (hlen : acc.length + 80 ≤ 140737488355328) (hBw : B ≤ w.heap.size)
    (h : w.ownsRow B 21 1 v ms.length (ms.map (Value.int .i32))) (hm : ∀ a ∈ ms, Mark a) (hn : ms.length < 20) :
    Calls Tryz.prog 93 #[.pointer (some ⟨b, 0, none⟩), v] w fun e w' => e = .returned (.tuple #[]) ∧ Lib.IsBuilderF 145 5 B b (Lib.byteCells (acc ++ encL (sortM ms))) w' ∧
      w'.ownsRow B 21 1 v ms.length ((sortM ms).map (Value.int .i32)) ∧ Below B w w' ∧ Kept b v.ownBlock w w' := by
  have hs := sort_owns B ms v w h hm hn
  have hvne := owns_ne_builder h hI (by decide)
  have hkind := owns_kind h
  have hlt := fun g hg => (h.lt g hg).1
  have hm' : ∀ a ∈ sortM ms, Mark a := fun a ha => hm a ((sortM_mem _ _).1 ha)
  have hl' := sortM_length ms
  have hv : ∃ p cap, v = .slice p ms.length cap ∧ (ms.length = 0 ∨ ∃ g, p = some ⟨g, 0, none⟩) := by
    rcases h.2 with ⟨rfl, hz⟩ | ⟨g, cap, cur, rfl, _⟩
    · exact ⟨none, 0, by rw [hz], .inl hz⟩
    · exact ⟨_, cap, rfl, .inr ⟨g, rfl⟩⟩
  obtain ⟨p, cap, hve, hp⟩ := hv
  generalize sortM ms = ss at *
  clear hm h
  generalize hnn : ms.length = n at *
  have hle63 : (n : Int) < 20 := by omega
  subst hve
  have HI := hide hI
  have HK := hide hkind
  have HL := hide hlt
  have Hm := hide hm'
  have Hl := hide hl'
  clear hI hkind hlt hm' hl' hnn
  go_enter Tryz.func93, Tryz.ntmps93
  go_wp2_with fail
  refine hs.mono ?_
  rintro e w1 ⟨rfl, ho1, hg1⟩
  clear hs
  have hb1 := below_grown hg1 hBw (unhide HL)
  have hI1 := builder_grown (unhide HI) hg1 (fun g hg => by
    obtain ⟨c, hc⟩ := unhide HK g hg
    exact ⟨c, 21, (0, 0), hc, by decide, by decide⟩)
  have hk1 : Kept b (Value.slice p n cap).ownBlock w w1 := Kept.grown hg1
  have hs1 := hg1.size
  clear hg1
  go_wp2_with fail
  go_loopg [10] (n + 1) (fun k i wr => ∃ j : Nat, j ≤ n ∧ k = n + 1 - j ∧ i = .int .i64 j ∧ Hid (Lib.IsBuilderF 145 5 B b (Lib.byteCells (acc ++ encL (ss.take j))) wr) ∧ Hid (wr.ownsRow B 21 1 (.slice p n cap) n (ss.map (Value.int .i32))) ∧ Below B w wr ∧ Hid (Kept b (Value.slice p n cap).ownBlock w wr))
  case atStart => exact ⟨0, by omega, rfl, rfl, by rw [List.take_zero, encL_nil, List.append_nil]; exact hI1, ho1, hb1, hk1⟩
  case round =>
    obtain ⟨j, hj, hk, rfl, HIr, HOr, hBr, HKr⟩ := hrel
    have hBs : B ≤ wr.heap.size := Nat.le_trans hBw hBr.size
    by_cases hjn : j < n
    · obtain ⟨g, rfl⟩ : ∃ g, p = some ⟨g, 0, none⟩ := by
        rcases hp with h0 | h0
        · omega
        · exact h0
      have hjs : j < ss.length := by have := unhide Hl; omega
      obtain ⟨x, Hx⟩ : ∃ x, Hid (ss[j]? = some x) := ⟨_, List.getElem?_eq_getElem hjs⟩
      have hxm : Mark x := unhide Hm x (List.mem_of_getElem? (unhide Hx))
      have hxr := mark_range hxm
      have hcell : wr.cell? ⟨g, j, none⟩ = some (.int .i32 x) := by
        have := (unhide HOr).cells (g := g) rfl j (.int .i32 x) (by rw [List.getElem?_map, unhide Hx]; rfl)
        rwa [add_addr] at this
      have hjz : (j : Int) < (n : Int) := by omega
      have htl : (encL (ss.take j)).length ≤ 2 * j := by
        have h1 := (encL_len (ss.take j) (fun r hr => mark_small (unhide Hm r (List.mem_of_mem_take hr)))).2
        have h2 : (ss.take j).length ≤ j := by rw [List.length_take]; omega
        omega
      have hW := writeRune_k B b (Lib.byteCells (acc ++ encL (ss.take j))) x (by omega) (by omega) wr (unhide HIr) (by rw [Lib.byteCells_length, List.length_append]; omega) hBs
      clear hxm hj hI1 ho1 hb1 hk1 hs1 hxr htl hjs
      go_wp2_with fail
      refine hW.mono ?_
      rintro e w2 ⟨rfl, h2, b2, k2⟩
      go_wp2
      go_roundg (n - j)
      case measure => omega
      case rel =>
        refine ⟨j + 1, by omega, by omega, by simp, ?_, ?_, hBr.trans b2, (unhide HKr).trans (Kept.others k2)⟩
        · have e1 : ss.take (j + 1) = ss.take j ++ [x] := by rw [List.take_add_one, unhide Hx]; rfl
          rw [e1, encL_append, encL_one, ← List.append_assoc, Lib.byteCells_append, Lib.byteCells_encodeRune]
          exact Or.inr h2
        · exact owns_others (unhide HOr) k2 hvne (by decide)
    · have hjz : ¬ (j : Int) < (n : Int) := by omega
      have hjl : ss.take j = ss := List.take_of_length_le (by have := unhide Hl; omega)
      have Hjl := hide hjl
      clear hjl
      go_wp2
      go_end0
      refine ⟨rfl, ?_, unhide HOr, hBr, unhide HKr⟩
      have := unhide HIr
      rw [unhide Hjl] at this
      exact this
end Go.Proofs.YtjpmomklkkifjaaGreatDoor
