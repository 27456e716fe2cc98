import Derived.Test.YtjpmomklkkifjaaGreatDoorCBPutFacts
import Derived.Lib.Strings
set_option maxRecDepth 100000
set_option linter.unusedVariables false
set_option linter.unusedSimpArgs false
namespace Go.Proofs.YtjpmomklkkifjaaGreatDoor.T
open Go.RowKit
theorem bytesLess_cmp : ∀ a b : List UInt8, Op.bytesLess a b = decide (Go.Lib.compareBytes a b < 0)
  | [], [] => by simp [Op.bytesLess, Go.Lib.compareBytes]
  | [], _ :: _ => by simp [Op.bytesLess, Go.Lib.compareBytes]
  | _ :: _, [] => by simp [Op.bytesLess, Go.Lib.compareBytes]
  | x :: a, y :: b => by
    have ih := bytesLess_cmp a b
    unfold Op.bytesLess Go.Lib.compareBytes
    by_cases h1 : x < y
    · simp [h1]
    · by_cases h2 : y < x
      · have h3 : ¬ (x = y) := fun e => by subst e; exact h1 h2
        simp [h1, h2, h3]
      · have h3 : x = y := by
          rw [UInt8.lt_iff_toNat_lt] at h1 h2
          exact UInt8.toNat_inj.1 (by omega)
        subst h3
        simp [h1, ih]
theorem less_kLt (a b : ByteArray) : Op.bytesLess a.toList b.toList = decide (kLt a b) := by
  rw [bytesLess_cmp, Go.Lib.toList_data, Go.Lib.toList_data]
  rfl
theorem toList_same (a b : ByteArray) : a.toList = b.toList ↔ a = b := by
  rw [Go.Lib.toList_data, Go.Lib.toList_data]
  constructor
  · intro h
    cases a; cases b
    simp only at h
    congr 1
    exact Array.toList_inj.1 h
  · rintro rfl; rfl
theorem greater_yes {a b : ByteArray} (h : kLt b a) : Op.bytesLess a.toList b.toList = false ∧ ¬ (a.toList = b.toList) := by
  rw [less_kLt, toList_same]
  exact ⟨by simp [kLt_asymm h], fun e => kLt_irrefl b (by rw [e] at h; exact h)⟩
theorem greater_no {a b : ByteArray} (h : ¬ kLt b a) : ¬ (Op.bytesLess a.toList b.toList = false ∧ ¬ (a.toList = b.toList)) := by
  rw [less_kLt, toList_same]
  rintro ⟨h1, h2⟩
  rcases kLt_tri a b with h3 | h3 | h3
  · simp [h3] at h1
  · exact h2 h3
  · exact h h3
def tell (more : List Item → Bool) : List Item → List Item → List Item × Bool
  | acc, [] => (acc, true)
  | acc, x :: xs => if more (acc ++ [x]) then tell more (acc ++ [x]) xs else (acc ++ [x], false)
theorem tell_nil (more : List Item → Bool) (acc : List Item) : tell more acc [] = (acc, true) := rfl
theorem tell_cons (more : List Item → Bool) (acc : List Item) (x : Item) (xs : List Item) : tell more acc (x :: xs) = if more (acc ++ [x]) then tell more (acc ++ [x]) xs else (acc ++ [x], false) := rfl
theorem tell_append (more : List Item → Bool) : ∀ (xs ys acc : List Item), tell more acc (xs ++ ys) = if (tell more acc xs).2 then tell more (tell more acc xs).1 ys else tell more acc xs
  | [], ys, acc => rfl
  | x :: xs, ys, acc => by
    simp only [List.cons_append, tell_cons]
    by_cases h : more (acc ++ [x]) = true
    · simp only [if_pos h]
      exact tell_append more xs ys _
    · simp only [if_neg h]
      simp
theorem tell_length (more : List Item → Bool) : ∀ (xs acc : List Item), (tell more acc xs).1.length ≤ acc.length + xs.length
  | [], acc => by simp [tell_nil]
  | x :: xs, acc => by
    rw [tell_cons]
    split
    · have := tell_length more xs (acc ++ [x])
      simp at this ⊢
      omega
    · simp
theorem afterL_append (a b : List Item) (key : ByteArray) : afterL (a ++ b) key = afterL a key ++ afterL b key := by simp [afterL]
theorem afterL_cons (x : Item) (b : List Item) (key : ByteArray) : afterL (x :: b) key = if kLt key x.key then x :: afterL b key else afterL b key := by
  simp only [afterL, List.filter_cons]
  by_cases h : kLt key x.key <;> simp [h]
theorem afterL_length (a : List Item) (key : ByteArray) : (afterL a key).length ≤ a.length := List.length_filter_le _ _
theorem afterL_low {a : List Item} {key : ByteArray} (h : ∀ i ∈ a, kLt i.key key) : afterL a key = [] := by
  unfold afterL
  rw [List.filter_eq_nil_iff]
  intro i hi
  simp [kLt_asymm (h i hi)]
def restL (its : List Item) (ls : List (List Item)) (j : Nat) : List Item := inter (its.drop j) (ls.drop j)
theorem rest_leaf (its : List Item) (j : Nat) : restL its [] j = its.drop j := by
  unfold restL
  rw [List.drop_nil, inter_nil]
theorem rest_item {its : List Item} {ls : List (List Item)} (hl : ls.length = its.length + 1) {j : Nat} {l : List Item} {x : Item} (h1 : ls[j]? = some l) (h2 : its[j]? = some x) : restL its ls j = l ++ x :: restL its ls (j + 1) := by
  unfold restL
  obtain ⟨g1, rfl⟩ := List.getElem?_eq_some_iff.1 h1
  obtain ⟨g2, rfl⟩ := List.getElem?_eq_some_iff.1 h2
  rw [List.drop_eq_getElem_cons g1, List.drop_eq_getElem_cons g2]
  rfl
theorem rest_last {its : List Item} {ls : List (List Item)} (hl : ls.length = its.length + 1) {l : List Item} (h1 : ls[its.length]? = some l) : restL its ls its.length = l := by
  unfold restL
  obtain ⟨g1, rfl⟩ := List.getElem?_eq_some_iff.1 h1
  rw [List.drop_eq_getElem_cons g1, List.drop_length]
  rfl
theorem rest_end {its : List Item} {ls : List (List Item)} (hl : ls.length = its.length + 1) : restL its ls (its.length + 1) = [] := by
  unfold restL
  rw [List.drop_eq_nil_of_le (by omega), List.drop_eq_nil_of_le (by omega)]
  rfl
theorem rest_length (its : List Item) (ls : List (List Item)) (j : Nat) (hl : ls = [] ∨ ls.length = its.length + 1) (hj : j ≤ its.length) : (restL its ls j).length ≤ (inter its ls).length := by
  rcases hl with rfl | hl
  · rw [rest_leaf, inter_nil, List.length_drop]; omega
  · have h1 : its = its.take j ++ its.drop j := (List.take_append_drop _ _).symm
    obtain ⟨l, y, h2⟩ : ∃ l y, ls.drop j = l :: y := by
      cases h : ls.drop j with
      | nil => have := congrArg List.length h; simp at this; omega
      | cons l y => exact ⟨l, y, rfl⟩
    have h3 : ls = ls.take j ++ l :: y := by rw [← h2, List.take_append_drop]
    have h4 : y.length + 1 = ls.length - j := by have := congrArg List.length h2; simp at this; omega
    have e := inter_split (its.take j) (ls.take j) (its.drop j) l y (by simp; omega) (by simp; omega)
    rw [← h3, ← h1] at e
    unfold restL
    rw [e, h2, inter_post _ l y (by simp; omega)]
    simp only [List.length_append]
    omega
theorem after_from {its : List Item} {ls : List (List Item)} {key : ByteArray} {at' : Nat} (hl : ls = [] ∨ ls.length = its.length + 1) (hs : Sorted (inter its ls)) (ha : at' ≤ its.length) (hlow : ∀ i ∈ its.take at', kLt i.key key) : afterL (inter its ls) key = afterL (restL its ls at') key := by
  rcases hl with rfl | hl
  · rw [rest_leaf, inter_nil]
    have e : its = its.take at' ++ its.drop at' := (List.take_append_drop _ _).symm
    have e2 : afterL its key = afterL (its.take at' ++ its.drop at') key := by rw [← e]
    rw [e2, afterL_append, afterL_low hlow, List.nil_append]
  · have h1 : its = its.take at' ++ its.drop at' := (List.take_append_drop _ _).symm
    obtain ⟨l, y, h2⟩ : ∃ l y, ls.drop at' = l :: y := by
      cases h : ls.drop at' with
      | nil => have := congrArg List.length h; simp at this; omega
      | cons l y => exact ⟨l, y, rfl⟩
    have h3 : ls = ls.take at' ++ l :: y := by rw [← h2, List.take_append_drop]
    have h4 : y.length + 1 = ls.length - at' := by have := congrArg List.length h2; simp at this; omega
    have e := inter_split (its.take at') (ls.take at') (its.drop at') l y (by simp; omega) (by simp; omega)
    rw [← h3, ← h1] at e
    have hr : restL its ls at' = l ++ post (its.drop at') y := by
      unfold restL
      rw [h2, inter_post _ l y (by simp; omega)]
    rw [e, List.append_assoc] at hs
    rw [e, hr, List.append_assoc, afterL_append, afterL_low (pre_low (by simp; omega) hs hlow), List.nil_append]
theorem Hold.openk {base : Nat} {w0 w : World} {K0 : Nat → Nat} (l1 : List Res) {h : Nat} {k : Kid} {l2 : List Res} (H : Hold base w0 K0 w (l1 ++ .sub h k :: l2)) :
    ∃ its kids v0 v1, k.c = its.length ∧ k.L = inter its (kids.map Kid.L) ∧ Shape h its kids ∧ (∀ x ∈ kids, Fit x) ∧ (∀ x, k.own x = one k.b x + blkN v0 x + blkN v1 x + owns kids x) ∧ Hold base w0 K0 w (l1 ++ nodeR k.b v0 v1 :: rowI v0 its :: rowN v1 kids :: .subs (h - 1) kids :: l2) := by
  have hs : Sub base w h k := H.sat (.sub h k) (by simp)
  obtain ⟨its, kids, v0, v1, hn, hk, hf⟩ := hs.open
  have hsh : Shape h its kids ∧ ∀ x ∈ kids, Sub base w (h - 1) x := by
    cases h with
    | zero => obtain rfl : kids = [] := hk; exact ⟨.inl ⟨rfl, rfl⟩, by simp⟩
    | succ h => exact ⟨.inr ⟨by omega, hk.1⟩, hk.2⟩
  refine ⟨its, kids, v0, v1, hn.c, hn.L, hsh.1, hf, hn.own, H.conv (fun x => ?_) (fun r hr => ?_)⟩
  · simp only [total_append, total_cons, nodeR, rowI, rowN, foot_cell, foot_row, foot_sub, foot_subs]
    rw [hn.own x]
    omega
  · simp only [List.mem_append, List.mem_cons] at hr
    rcases hr with hr | rfl | rfl | rfl | rfl | hr
    · exact H.sat r (by simp [hr])
    · exact ⟨hn.low, hn.cell⟩
    · exact hn.items
    · exact hn.below
    · exact hsh.2
    · exact H.sat r (by simp [hr])
theorem Hold.shutk {base : Nat} {w0 w : World} {K0 : Nat → Nat} (l1 : List Res) {h : Nat} {k : Kid} {its : List Item} {kids : List Kid} {v0 v1 : Value} {l2 : List Res} (H : Hold base w0 K0 w (l1 ++ nodeR k.b v0 v1 :: rowI v0 its :: rowN v1 kids :: .subs (h - 1) kids :: l2)) (hc : k.c = its.length) (hL : k.L = inter its (kids.map Kid.L)) (hsh : Shape h its kids) (hf : ∀ x ∈ kids, Fit x) (ho : ∀ x, k.own x = one k.b x + blkN v0 x + blkN v1 x + owns kids x) :
    Hold base w0 K0 w (l1 ++ .sub h k :: l2) := by
  have hu : ∀ x, k.own x ≤ 1 := fun x => by
    have := H.uniq x
    simp only [total_append, total_cons, nodeR, rowI, rowN, foot_cell, foot_row, foot_sub, foot_subs] at this
    rw [ho x]
    omega
  have hn : NodeAt base w k its kids v0 v1 :=
    ⟨(H.sat (nodeR k.b v0 v1) (by simp)).2, (H.sat (nodeR k.b v0 v1) (by simp)).1, H.sat (rowI v0 its) (by simp), H.sat (rowN v1 kids) (by simp), hc, hL, ho, hu⟩
  have hk : ∀ x ∈ kids, Sub base w (h - 1) x := H.sat (.subs (h - 1) kids) (by simp)
  refine H.conv (fun x => ?_) (fun r hr => ?_)
  · simp only [total_append, total_cons, nodeR, rowI, rowN, foot_cell, foot_row, foot_sub, foot_subs]
    rw [ho x]
    omega
  · simp only [List.mem_append, List.mem_cons] at hr
    rcases hr with hr | rfl | hr
    · exact H.sat r (by simp [hr])
    · refine Sub.shut hn ?_ hf
      rcases hsh with ⟨rfl, rfl⟩ | ⟨hp, hl⟩
      · rfl
      · obtain ⟨h', rfl⟩ : ∃ h', h = h' + 1 := ⟨h - 1, by omega⟩
        exact ⟨hl, hk⟩
    · exact H.sat r (by simp [hr])
theorem row_len {w : World} {base : Nat} {e : TypeId} {k : Nat} {v : Value} {n : Nat} {xs : List Value} (h : w.ownsRow base e k v n xs) : ∃ p cap, v = .slice p n cap := by
  rcases h.2 with ⟨rfl, rfl⟩ | ⟨g, cap, cur, rfl, _⟩
  · exact ⟨_, _, rfl⟩
  · exact ⟨_, _, rfl⟩
theorem Hold.kidOut {base : Nat} {w0 w : World} {K0 : Nat → Nat} (rs : List Res) {A B C : Res} {h : Nat} {ks1 ks2 : List Kid} {kk : Kid} {l2 : List Res} (H : Hold base w0 K0 w (rs ++ A :: B :: C :: .subs h (ks1 ++ kk :: ks2) :: l2)) : Hold base w0 K0 w (rs ++ .sub h kk :: A :: B :: C :: .subs h (ks1 ++ ks2) :: l2) := by
  have hk : ∀ x ∈ ks1 ++ kk :: ks2, Sub base w h x := H.sat (.subs h (ks1 ++ kk :: ks2)) (by simp)
  refine H.conv (fun x => ?_) (fun r hr => ?_)
  · simp only [total_append, total_cons, foot_sub, foot_subs, owns_append, owns_cons]
    omega
  · simp only [List.mem_append, List.mem_cons] at hr
    rcases hr with hr | rfl | rfl | rfl | rfl | rfl | hr
    · exact H.sat r (by simp [hr])
    · exact hk kk (by simp)
    · exact H.sat _ (by simp)
    · exact H.sat _ (by simp)
    · exact H.sat _ (by simp)
    · exact fun x hx => hk x (by simp at hx ⊢; rcases hx with h | h <;> simp [h])
    · exact H.sat r (by simp [hr])
theorem Hold.kidIn {base : Nat} {w0 w : World} {K0 : Nat → Nat} (rs : List Res) {A B C : Res} {h : Nat} {ks1 ks2 : List Kid} {kk : Kid} {l2 : List Res} (H : Hold base w0 K0 w (rs ++ .sub h kk :: A :: B :: C :: .subs h (ks1 ++ ks2) :: l2)) : Hold base w0 K0 w (rs ++ A :: B :: C :: .subs h (ks1 ++ kk :: ks2) :: l2) := by
  have hk : ∀ x ∈ ks1 ++ ks2, Sub base w h x := H.sat (.subs h (ks1 ++ ks2)) (by simp)
  have hk2 : Sub base w h kk := H.sat (.sub h kk) (by simp)
  refine H.conv (fun x => ?_) (fun r hr => ?_)
  · simp only [total_append, total_cons, foot_sub, foot_subs, owns_append, owns_cons]
    omega
  · simp only [List.mem_append, List.mem_cons] at hr
    rcases hr with hr | rfl | rfl | rfl | rfl | hr
    · exact H.sat r (by simp [hr])
    · exact H.sat _ (by simp)
    · exact H.sat _ (by simp)
    · exact H.sat _ (by simp)
    · intro x hx
      simp at hx
      rcases hx with h1 | rfl | h1
      · exact hk x (by simp [h1])
      · exact hk2
      · exact hk x (by simp [h1])
    · exact H.sat r (by simp [hr])
def SeeEnd (base : Nat) (w0 : World) (K0 : Nat → Nat) (S : List Item → List Res → Prop) (more : List Item → Bool) (acc : List Item) (it : Item) (l2 : List Res) (e : Ending) (w' : World) : Prop :=
  ∃ rs', e = .returned (.bool (more (acc ++ [it]))) ∧ S (acc ++ [it]) rs' ∧ Hold base w0 K0 w' (rs' ++ l2)
def WalkEnd (base : Nat) (w0 : World) (K0 : Nat → Nat) (S : List Item → List Res → Prop) (more : List Item → Bool) (key : ByteArray) (h : Nat) (k : Kid) (acc : List Item) (l2 : List Res) (e : Ending) (w' : World) : Prop :=
  ∃ rs', e = .returned (.bool (tell more acc (afterL k.L key)).2) ∧ S (tell more acc (afterL k.L key)).1 rs' ∧ Hold base w0 K0 w' (rs' ++ .sub h k :: l2)
end Go.Proofs.YtjpmomklkkifjaaGreatDoor.T
