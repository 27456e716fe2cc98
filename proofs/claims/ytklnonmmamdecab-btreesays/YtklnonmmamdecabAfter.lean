/-
  The contract of Tree.After, over the seat's program: at most so many entries behind a key, in order.
-/
import Derived.Test.YtklnonmmamdecabWalkA
import Derived.Test.YtklnonmmamdecabMany
namespace Go.Proofs.Ytklnonmmamdecab
open Go.RowKit Go.Lib
set_option linter.unusedVariables false
set_option linter.unusedSimpArgs false

/-- Entries as they are handed on: a name and a number each. -/
def flatE (l : List Item) : List Value := l.flatMap fun x => [.string x.name, .int .i64 x.node]
theorem flatE_snoc (l : List Item) (x : Item) : flatE (l ++ [x]) = flatE l ++ [.string x.name, .int .i64 x.node] := by simp [flatE]
theorem flatE_length (l : List Item) : (flatE l).length = l.length * 2 := by
  induction l with
  | nil => rfl
  | cons x l ih => simp [flatE] at ih ⊢; omega
theorem info33 : (Try.prog.info? 33).map (fun i => (i.zero, i.size, i.bytes)) = some (some (.agg #[.string ⟨#[]⟩, .int .i64 0]), 2, 24) := by kernel_rfl

def rowE (v : Value) (l : List Item) : Res := .row v 33 2 l.length (flatE l)
def SA (ob nb : Nat) (many : Int) (acc : List Item) (rs : List Res) : Prop := ∃ v, rs = [.cell ob 43 [v], .cell nb 3 [.int .i64 many], rowE v acc]

theorem cell_two_new (w : World) (a b : Value) (t : TypeId) : ∀ j u, [a, b][j]? = some u → (w.alloc (.cells #[a, b] t)).cell? ((⟨w.heap.size, 0, none⟩ : Addr).add j) = some u := by
  intro j u hj
  rw [Addr.add_lit, Nat.zero_add, cell_of_row _ _ j _ t (0, 0) (heap_alloc_new w _)]
  simpa using hj

set_option maxRecDepth 100000 in
theorem seeA (base : Nat) (w0 : World) (K0 : Nat → Nat) (ob nb : Nat) (many : Int) (hm : many ≤ 9223372036854775807) : SeeSpecA base w0 K0 ob nb (SA ob nb many) (fun a => decide ((a.length : Int) < many)) := by
  intro w acc rs it l2 hS hl H
  obtain ⟨v, rfl⟩ := hS
  obtain ⟨i0, hi, hz0, hz1, hz2⟩ := info_parts info33
  obtain ⟨n, hn⟩ : ∃ n, acc.length = n := ⟨_, rfl⟩
  have q0 : w.cell? ⟨ob, 0, none⟩ = some v := H.cellAt (t := 43) (vs := [v]) (by simp) rfl
  have q1 : w.cell? ⟨nb, 0, none⟩ = some (.int .i64 many) := H.cellAt (t := 3) (vs := [.int .i64 many]) (by simp) rfl
  have r0 : w.ownsRow base 33 2 v n (flatE acc) := by rw [← hn]; exact H.rowAt (by simp [rowE])
  have hbw : base ≤ w.heap.size := H.low (b := ob) (t := 43) (vs := [v]) (by simp)
  have hca : ∀ o, (w.alloc o).cell? ⟨ob, 0, none⟩ = some v := fun o => Lib.cell?_alloc_some _ q0
  have H1 := (H.alloc (.cells #[.string it.name, .int .i64 it.node] 33)).alloc (.cells #[.string it.name, .int .i64 it.node] 33)
  have r1 : ((w.alloc (.cells #[.string it.name, .int .i64 it.node] 33)).alloc (.cells #[.string it.name, .int .i64 it.node] 33)).ownsRow base 33 2 v n (flatE acc) := (r0.alloc _).alloc _
  rw [hn] at hl
  have Hr1 := hide r1
  have HH1 := hide H1
  have Hn := hide hn
  clear H H1 r0 r1 hn
  go_enter Try.func32, Try.ntmps32
  go_wp2_with (at_builtin; refine wpList_append_own_at _ rfl _ _ 43 rfl base 33 i0 (.agg #[.string ⟨#[]⟩, .int .i64 0]) 2 24 Try.underlying43 hi hz0 hz1 hz2 rfl (by decide) _ _ _ rfl (unhide Hr1) ⟨w.heap.size + 1, 0, none⟩ 1 1 [.string it.name, .int .i64 it.node] rfl rfl (by have := cell_two_new (w.alloc (.cells #[.string it.name, .int .i64 it.node] 33)) (.string it.name) (.int .i64 it.node) 33; simpa using this) (fun y hy => by simp at hy; rcases hy with rfl | rfl <;> rfl) (by unfold maxLen; omega) (by omega) (by simp; omega) ?_; intro v4 w4 hown4 hgrow4 hnil4 hat4; obtain ⟨g4, cap4, rfl, hc4, hm4⟩ := row_shape hown4 (by omega); have H5 := (unhide HH1).grow [.cell ob 43 [v], .cell nb 3 [.int .i64 many]] hgrow4 hown4 (by rcases hat4 with h | h; exact .inl h; exact .inr ⟨_, h, Nat.le_refl _⟩); have k0 : w4.cell? ⟨ob, 0, none⟩ = some v := H5.cellAt (t := 43) (vs := [v]) (by simp) rfl; have k1 : w4.frozen? ⟨ob, 0, none⟩ = false := H5.frozenAt (t := 43) (vs := [v]) (by simp) 0; have k2 : w4.cell? ⟨nb, 0, none⟩ = some (.int .i64 many) := H5.cellAt (t := 3) (vs := [.int .i64 many]) (by simp) rfl; have hne : ¬ (nb = ob) := (fun e => by have h5 := H5.uniq ob; simp only [List.cons_append, List.nil_append, total_cons, foot_cell, e, one_self] at h5; omega); have H6 := hide (H5.store [] 0 (.slice (some ⟨g4, 0, none⟩) (n + 1) cap4) _ rfl); clear H5 hown4 hgrow4 hnil4 hat4)
  go_ret
  refine ⟨[.cell ob 43 [.slice (some ⟨g4, 0, none⟩) (n + 1) cap4], .cell nb 3 [.int .i64 many], rowE (.slice (some ⟨g4, 0, none⟩) (n + 1) cap4) (acc ++ [it])], ?_, ⟨_, rfl⟩, ?_⟩
  · show Ending.returned (Value.bool (decide ((n : Int) + 1 < many))) = Ending.returned (Value.bool (decide (((acc ++ [it]).length : Int) < many)))
    rw [List.length_append, unhide Hn]
    rfl
  · have h7 := unhide H6
    unfold rowE
    rw [List.length_append, unhide Hn, flatE_snoc]
    exact h7

theorem tell_take (m : Nat) (hm : 0 < m) : ∀ (xs acc : List Item), acc.length < m → (tell (fun a => decide ((a.length : Int) < (m : Int))) acc xs).1 = acc ++ xs.take (m - acc.length)
  | [], acc, _ => by rw [tell_nil]; simp
  | x :: xs, acc, h => by
    rw [tell_cons]
    obtain ⟨d, hd⟩ : ∃ d, m - acc.length = d + 1 := ⟨m - acc.length - 1, by omega⟩
    rw [hd, List.take_succ_cons]
    by_cases h1 : acc.length + 1 < m
    · rw [if_pos (by simp; omega), tell_take m hm xs (acc ++ [x]) (by simp; omega)]
      simp only [List.length_append, List.length_cons, List.length_nil, List.append_assoc, List.cons_append, List.nil_append]
      rw [show m - (acc.length + (0 + 1)) = d by omega]
    · rw [if_neg (by simp; omega)]
      obtain rfl : d = 0 := by omega
      simp

/-- How After ends. -/
def AfterEnd (base : Nat) (w0 : World) (K0 : Nat → Nat) (tb : Nat) (L out : List Item) (l2 : List Res) (e : Ending) (w' : World) : Prop :=
  ∃ v, e = .returned v ∧ TreeIn base w0 K0 w' tb L (rowE v out :: l2)

theorem after_calls (base : Nat) (w0 : World) (K0 : Nat → Nat) (w : World) (tb : Nat) (L : List Item) (l2 : List Res) (key : ByteArray) (many : Int) (hm1 : -9223372036854775808 ≤ many) (hm2 : many ≤ 9223372036854775807) (HT : TreeIn base w0 K0 w tb L l2) (hl : L.length ≤ 1000) :
    Calls Try.prog 19 #[.pointer (some ⟨tb, 0, none⟩), .string key, .int .i64 many] w fun e w' => AfterEnd base w0 K0 tb L ((afterL L key).take many.toNat) l2 e w' := by
  obtain ⟨hs, h, k, hL, hc, hc1, H⟩ := HT
  have hbw : base ≤ w.heap.size := H.low (b := tb) (t := 55) (vs := [ptrV k.b]) (by simp)
  have H1 := H.made hbw 3 [.int .i64 many]
  by_cases hm : many < 1
  · have HH1 := hide H1
    have HL := hide hL
    have HS := hide hs
    have Hc1 := hide hc1
    clear H H1 hL hs hc1
    go_enter Try.func19, Try.ntmps19
    go_wp2_with fail
    go_ret
    refine ⟨.slice none 0 0, rfl, unhide HS, h, k, unhide HL, hc, unhide Hc1, ?_⟩
    have h2 := ((unhide HH1).forget []).nilRow 33 2
    rw [show many.toNat = 0 by omega]
    exact (h2.front [_, _]).front [_, _]
  · have H2 := H1.made (w := w.alloc _) (by simp; omega) 43 [.slice none 0 0]
    have H3 := H2.nilRow 33 2
    have e1 := walkA_spec base w0 K0 (w.heap.size + 1) w.heap.size (SA (w.heap.size + 1) w.heap.size many) (fun a => decide ((a.length : Int) < many)) key (seeA base w0 K0 _ _ many hm2) h _ k [] [.cell (w.heap.size + 1) 43 [.slice none 0 0], .cell w.heap.size 3 [.int .i64 many], rowE (.slice none 0 0) []] (.cell tb 55 [ptrV k.b] :: l2) ⟨_, rfl⟩ (by rw [hL]; simp; omega) (H3.conv (fun x => by simp only [rowE, total_append, total_cons, total_nil, foot_cell, foot_row, foot_sub, World.size_alloc]; omega) (fun r hr => H3.sat r (by
      simp only [List.cons_append, List.nil_append, List.mem_cons, World.size_alloc, rowE] at hr ⊢
      rcases hr with h | h | h | h | h | h
      · exact .inr (.inl h)
      · exact .inr (.inr (.inl h))
      · exact .inl h
      · exact .inr (.inr (.inr (.inr (.inl h))))
      · exact .inr (.inr (.inr (.inl h)))
      · exact .inr (.inr (.inr (.inr (.inr h))))))) (by rw [hL]; exact hs) hc
    have q0 : w.cell? ⟨tb, 0, none⟩ = some (.pointer (some ⟨k.b, 0, none⟩)) := H.cellAt (t := 55) (vs := [ptrV k.b]) (by simp) rfl
    have hca : ∀ o, (w.alloc o).cell? ⟨tb, 0, none⟩ = some (.pointer (some ⟨k.b, 0, none⟩)) := fun o => Lib.cell?_alloc_some _ q0
    have hca2 : ∀ o o', ((w.alloc o).alloc o').cell? ⟨tb, 0, none⟩ = some (.pointer (some ⟨k.b, 0, none⟩)) := fun o o' => Lib.cell?_alloc_some _ (hca o)
    have E1 := hide e1
    have HL := hide hL
    have HS := hide hs
    have Hc1 := hide hc1
    clear e1 H H1 H2 H3 hL hs hc1
    go_enter Try.func19, Try.ntmps19
    go_wp2_with fail
    refine (unhide E1).mono ?_
    rintro e w2 ⟨rs', rfl, ⟨v, hv⟩, H4⟩
    obtain ⟨m, hmm⟩ : ∃ m : Nat, many = (m : Int) := ⟨many.toNat, by omega⟩
    have ht : (tell (fun a => decide ((a.length : Int) < many)) [] (afterL k.L key)).1 = (afterL L key).take many.toNat := by
      rw [hmm, tell_take m (by omega) _ [] (by simp; omega), unhide HL, Int.toNat_natCast]
      simp
    subst hv
    rw [ht] at H4
    have q1 : w2.cell? ⟨w.heap.size + 1, 0, none⟩ = some v := H4.cellAt (t := 43) (vs := [v]) (by simp) rfl
    have HH4 := hide H4
    clear H4 ht E1 q0 hca hca2 hmm
    go_wp2_with fail
    go_ret
    refine ⟨v, rfl, unhide HS, h, k, unhide HL, hc, unhide Hc1, ?_⟩
    have h5 := (((unhide HH4).forget []).forget [])
    exact (h5.front [_]).front [_, _]

#print axioms after_calls
end Go.Proofs.Ytklnonmmamdecab
