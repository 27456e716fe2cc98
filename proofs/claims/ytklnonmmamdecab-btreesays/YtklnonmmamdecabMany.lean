/-
  The contract of Tree.Many, over the seat's program: how many entries there are.
-/
import Derived.Test.YtklnonmmamdecabWalkM
import Derived.Test.YtklnonmmamdecabTree
namespace Go.Proofs.Ytklnonmmamdecab
open Go.RowKit Go.Lib
set_option linter.unusedVariables false
set_option linter.unusedSimpArgs false

/-- No key is empty. -/
def Full (L : List Item) : Prop := ∀ x ∈ L, x.key.toList.isEmpty = false
theorem Full.after {L : List Item} (h : Full L) : afterL L ⟨#[]⟩ = L := by
  unfold afterL
  rw [List.filter_eq_self]
  intro x hx
  have h1 := h x hx
  rw [Go.Lib.toList_data] at h1
  simp only [decide_eq_true_eq]
  unfold kLt cmpB
  cases hq : x.key.data.toList with
  | nil => rw [hq] at h1; simp at h1
  | cons a l => simp [Go.Lib.compareBytes]
theorem Full.put {L : List Item} {it : Item} (h : Full L) (hi : it.key.toList.isEmpty = false) : Full (putL L it) := fun x hx => by
  rcases putL_mem L hx with rfl | h1
  · exact hi
  · exact h x h1
theorem tell_all {more : List Item → Bool} (h : ∀ a, more a = true) : ∀ (xs acc : List Item), tell more acc xs = (acc ++ xs, true)
  | [], acc => by rw [tell_nil, List.append_nil]
  | x :: xs, acc => by rw [tell_cons, h, if_pos rfl, tell_all h xs]; simp

def SM (mb : Nat) (acc : List Item) (rs : List Res) : Prop := rs = [.cell mb 3 [.int .i64 acc.length]]

theorem seeM (base : Nat) (w0 : World) (K0 : Nat → Nat) (mb : Nat) : SeeSpecM base w0 K0 mb (SM mb) (fun _ => true) := by
  intro w acc rs it l2 hS hl H
  unfold SM at hS
  subst hS
  have q0 : w.cell? ⟨mb, 0, none⟩ = some (.int .i64 acc.length) := H.cellAt (t := 3) (vs := [.int .i64 acc.length]) (by simp) rfl
  have q1 : w.frozen? ⟨mb, 0, none⟩ = false := H.frozenAt (t := 3) (vs := [.int .i64 acc.length]) (by simp) 0
  have hca : ∀ o, (w.alloc o).cell? ⟨mb, 0, none⟩ = some (.int .i64 acc.length) := fun o => Lib.cell?_alloc_some _ q0
  have hlt : mb < w.heap.size := (Array.getElem?_eq_some_iff.1 (H.sat (.cell mb 3 [.int .i64 acc.length]) (by simp)).2).1
  have h2 := H.store [] 0 (.int .i64 ((acc.length : Int) + 1)) _ rfl
  have HH2 := hide h2
  obtain ⟨n, hn⟩ : ∃ n, acc.length = n := ⟨_, rfl⟩
  rw [hn] at q0 hl hca
  have Hn := hide hn
  clear H h2 hn
  go_enter Try.func30, Try.ntmps30
  go_wp2_with fail
  go_ret
  refine ⟨[.cell mb 3 [.int .i64 ((acc ++ [it]).length : Nat)]], rfl, rfl, ?_⟩
  have h3 := unhide HH2
  rw [unhide Hn] at h3
  have e : (((acc ++ [it]).length : Nat) : Int) = (n : Int) + 1 := by rw [List.length_append, unhide Hn]; simp
  rw [e]
  exact h3.alloc _

theorem many_calls (base : Nat) (w0 : World) (K0 : Nat → Nat) (w : World) (tb : Nat) (L : List Item) (l2 : List Res) (HT : TreeIn base w0 K0 w tb L l2) (hf : Full L) (hl : L.length ≤ 1000) :
    Calls Try.prog 16 #[.pointer (some ⟨tb, 0, none⟩)] w fun e w' => e = .returned (.int .i64 L.length) ∧ TreeIn base w0 K0 w' tb L l2 := by
  obtain ⟨hs, h, k, hL, hc, hc1, H⟩ := HT
  have hbw : base ≤ w.heap.size := H.low (b := tb) (t := 55) (vs := [ptrV k.b]) (by simp)
  have H1 := H.made hbw 3 [.int .i64 0]
  have e1 := walkM_spec base w0 K0 w.heap.size (SM w.heap.size) (fun _ => true) ⟨#[]⟩ (seeM base w0 K0 w.heap.size) h _ k [] _ (.cell tb 55 [ptrV k.b] :: l2) rfl (by rw [hL]; simp; omega) (H1.conv (rs' := [.cell w.heap.size 3 [.int .i64 (([] : List Item).length : Nat)]] ++ .sub h k :: .cell tb 55 [ptrV k.b] :: l2) (fun x => by simp only [total_append, total_cons, total_nil, foot_cell]; omega) (fun r hr => H1.sat r (by
    simp only [List.cons_append, List.nil_append, List.mem_cons] at hr ⊢
    rcases hr with h | h | h | h
    · exact .inl h
    · exact .inr (.inr (.inl h))
    · exact .inr (.inl h)
    · exact .inr (.inr (.inr h))))) (by rw [hL]; exact hs) hc
  have q0 : w.cell? ⟨tb, 0, none⟩ = some (.pointer (some ⟨k.b, 0, none⟩)) := H.cellAt (t := 55) (vs := [ptrV k.b]) (by simp) rfl
  have hca : ∀ o, (w.alloc o).cell? ⟨tb, 0, none⟩ = some (.pointer (some ⟨k.b, 0, none⟩)) := fun o => Lib.cell?_alloc_some _ q0
  have E1 := hide e1
  have HL := hide hL
  have HS := hide hs
  have Hc1 := hide hc1
  have Hf := hide hf
  clear e1 H H1 hL hs hc1 hf
  go_enter Try.func16, Try.ntmps16
  go_wp2_with fail
  refine (unhide E1).mono ?_
  rintro e w2 ⟨rs', rfl, hS', H2⟩
  have ht : tell (fun _ => true) [] (afterL k.L ⟨#[]⟩) = (L, true) := by
    rw [unhide HL, (unhide Hf).after, tell_all (fun _ => rfl)]
    rfl
  rw [ht] at hS' ⊢
  unfold SM at hS'
  subst hS'
  have q1 : w2.cell? ⟨w.heap.size, 0, none⟩ = some (.int .i64 L.length) := H2.cellAt (t := 3) (vs := [.int .i64 L.length]) (by simp) rfl
  have HH2 := hide H2
  clear H2 ht E1
  go_wp2_with fail
  go_ret
  exact ⟨rfl, unhide HS, h, k, unhide HL, hc, unhide Hc1, ((unhide HH2).forget []).front [_]⟩

#print axioms many_calls
end Go.Proofs.Ytklnonmmamdecab
