/-
  The contract of Tree.After, over the seat's program: at most so many entries behind a key, in order. The contracts of FS.Entries, of named and of number. The contract of made: a closed fact, that a folder is made. What the row's list of variables says of the table of whole signs: the world holds it, cell for cell. What the rows' list of variables says: the world is ready; and a world that has what the list says.
-/
import Derived.Test.YtjpmomklkkifjaaGreatDoorCBWalkA
import Derived.Test.YtjpmomklkkifjaaGreatDoorCBMany
import Derived.Test.YtjpmomklkkifjaaGreatDoorCFClosed
import Derived.Test.YtjpmomklkkifjaaGreatDoorCFEntsK
import Derived.BigQuiet
import Derived.Test.YtjpmomklkkifjaaGreatDoorRows
import Derived.Test.YtjpmomklkkifjaaGreatDoorCSignsWalk
import Derived.ProofKit
import Derived.OpenShut
import Derived.Deep.Strs
import Derived.Lib.LaidTab
import Derived.Test.YtjpmomklkkifjaaGreatDoorCValid
import Derived.Lib.LaidU8T
import Derived.MakeChecks
import Derived.LaidLaws
namespace Go.Proofs.YtjpmomklkkifjaaGreatDoor.T
open Go.RowKit Go.Lib
set_option maxRecDepth 100000
set_option linter.unusedVariables false
set_option linter.unusedSimpArgs false

/-- Entries as they are handed on: a name and a number each. -/
def flatE (l : List Item) : List Value := l.flatMap fun x => [.string x.name, .int .i64 x.node]
theorem flatE_snoc (l : List Item) (x : Item) : flatE (l ++ [x]) = flatE l ++ [.string x.name, .int .i64 x.node] := by simp [flatE]
theorem flatE_length (l : List Item) : (flatE l).length = l.length * 2 := by
  induction l with
  | nil => rfl
  | cons x l ih => simp [flatE] at ih ⊢; omega
theorem info33 : (Tryz.prog.info? 38).map (fun i => (i.zero, i.size, i.bytes)) = some (some (.agg #[.string ⟨#[]⟩, .int .i64 0]), 2, 24) := by kernel_rfl

def rowE (v : Value) (l : List Item) : Res := .row v 38 2 l.length (flatE l)
def SA (ob nb : Nat) (many : Int) (acc : List Item) (rs : List Res) : Prop := ∃ v, rs = [.cell ob 30 [v], .cell nb 3 [.int .i64 many], rowE v acc]

theorem cell_two_new (w : World) (a b : Value) (t : TypeId) : ∀ j u, [a, b][j]? = some u → (w.alloc (.cells #[a, b] t)).cell? ((⟨w.heap.size, 0, none⟩ : Addr).add j) = some u := by
  intro j u hj
  rw [Addr.add_lit, Nat.zero_add, cell_of_row _ _ j _ t (0, 0) (heap_alloc_new w _)]
  simpa using hj

set_option maxRecDepth 100000 in
theorem seeA (base : Nat) (w0 : World) (K0 : Nat → Nat) (ob nb : Nat) (many : Int) (hm : many ≤ 9223372036854775807) : SeeSpecA base w0 K0 ob nb (SA ob nb many) (fun a => decide ((a.length : Int) < many)) := by
  intro w acc rs it l2 hS hl H
  obtain ⟨v, rfl⟩ := hS
  obtain ⟨i0, hi, hz0, hz1, hz2⟩ := info_parts info33
  obtain ⟨n, hn⟩ : ∃ n, acc.length = n := ⟨_, rfl⟩
  have q0 : w.cell? ⟨ob, 0, none⟩ = some v := H.cellAt (t := 30) (vs := [v]) (by simp) rfl
  have q1 : w.cell? ⟨nb, 0, none⟩ = some (.int .i64 many) := H.cellAt (t := 3) (vs := [.int .i64 many]) (by simp) rfl
  have r0 : w.ownsRow base 38 2 v n (flatE acc) := by rw [← hn]; exact H.rowAt (by simp [rowE])
  have hbw : base ≤ w.heap.size := H.low (b := ob) (t := 30) (vs := [v]) (by simp)
  have hca : ∀ o, (w.alloc o).cell? ⟨ob, 0, none⟩ = some v := fun o => Lib.cell?_alloc_some _ q0
  have H1 := (H.alloc (.cells #[.string it.name, .int .i64 it.node] 38)).alloc (.cells #[.string it.name, .int .i64 it.node] 38)
  have r1 : ((w.alloc (.cells #[.string it.name, .int .i64 it.node] 38)).alloc (.cells #[.string it.name, .int .i64 it.node] 38)).ownsRow base 38 2 v n (flatE acc) := (r0.alloc _).alloc _
  rw [hn] at hl
  have Hr1 := hide r1
  have HH1 := hide H1
  have Hn := hide hn
  clear H H1 r0 r1 hn
  go_enter Tryz.func86, Tryz.ntmps86
  go_wp2_with (at_builtin; refine wpList_append_own_at _ rfl _ _ 30 rfl base 38 i0 (.agg #[.string ⟨#[]⟩, .int .i64 0]) 2 24 Tryz.underlying30 hi hz0 hz1 hz2 rfl (by decide) _ _ _ rfl (unhide Hr1) ⟨w.heap.size + 1, 0, none⟩ 1 1 [.string it.name, .int .i64 it.node] rfl rfl (by have := cell_two_new (w.alloc (.cells #[.string it.name, .int .i64 it.node] 38)) (.string it.name) (.int .i64 it.node) 38; simpa using this) (fun y hy => by simp at hy; rcases hy with rfl | rfl <;> rfl) (by unfold maxLen; omega) (by omega) (by simp; omega) ?_; intro v4 w4 hown4 hgrow4 hnil4 hat4; obtain ⟨g4, cap4, rfl, hc4, hm4⟩ := row_shape hown4 (by omega); have H5 := (unhide HH1).grow [.cell ob 30 [v], .cell nb 3 [.int .i64 many]] hgrow4 hown4 (by rcases hat4 with h | h; exact .inl h; exact .inr ⟨_, h, Nat.le_refl _⟩); have k0 : w4.cell? ⟨ob, 0, none⟩ = some v := H5.cellAt (t := 30) (vs := [v]) (by simp) rfl; have k1 : w4.frozen? ⟨ob, 0, none⟩ = false := H5.frozenAt (t := 30) (vs := [v]) (by simp) 0; have k2 : w4.cell? ⟨nb, 0, none⟩ = some (.int .i64 many) := H5.cellAt (t := 3) (vs := [.int .i64 many]) (by simp) rfl; have hne : ¬ (nb = ob) := (fun e => by have h5 := H5.uniq ob; simp only [List.cons_append, List.nil_append, total_cons, foot_cell, e, one_self] at h5; omega); have H6 := hide (H5.store [] 0 (.slice (some ⟨g4, 0, none⟩) (n + 1) cap4) _ rfl); clear H5 hown4 hgrow4 hnil4 hat4)
  go_ret
  refine ⟨[.cell ob 30 [.slice (some ⟨g4, 0, none⟩) (n + 1) cap4], .cell nb 3 [.int .i64 many], rowE (.slice (some ⟨g4, 0, none⟩) (n + 1) cap4) (acc ++ [it])], ?_, ⟨_, rfl⟩, ?_⟩
  · show Ending.returned (Value.bool (decide ((n : Int) + 1 < many))) = Ending.returned (Value.bool (decide (((acc ++ [it]).length : Int) < many)))
    rw [List.length_append, unhide Hn]
    rfl
  · have h7 := unhide H6
    unfold rowE
    rw [List.length_append, unhide Hn, flatE_snoc]
    exact h7

theorem tell_take (m : Nat) (hm : 0 < m) : ∀ (xs acc : List Item), acc.length < m → (tell (fun a => decide ((a.length : Int) < (m : Int))) acc xs).1 = acc ++ xs.take (m - acc.length)
  | [], acc, _ => by rw [tell_nil]; simp
  | x :: xs, acc, h => by
    rw [tell_cons]
    obtain ⟨d, hd⟩ : ∃ d, m - acc.length = d + 1 := ⟨m - acc.length - 1, by omega⟩
    rw [hd, List.take_succ_cons]
    by_cases h1 : acc.length + 1 < m
    · rw [if_pos (by simp; omega), tell_take m hm xs (acc ++ [x]) (by simp; omega)]
      simp only [List.length_append, List.length_cons, List.length_nil, List.append_assoc, List.cons_append, List.nil_append]
      rw [show m - (acc.length + (0 + 1)) = d by omega]
    · rw [if_neg (by simp; omega)]
      obtain rfl : d = 0 := by omega
      simp

/-- How After ends. -/
def AfterEnd (base : Nat) (w0 : World) (K0 : Nat → Nat) (tb : Nat) (L out : List Item) (l2 : List Res) (e : Ending) (w' : World) : Prop :=
  ∃ v, e = .returned v ∧ TreeIn base w0 K0 w' tb L (rowE v out :: l2)

theorem after_calls (base : Nat) (w0 : World) (K0 : Nat → Nat) (w : World) (tb : Nat) (L : List Item) (l2 : List Res) (key : ByteArray) (many : Int) (hm1 : -9223372036854775808 ≤ many) (hm2 : many ≤ 9223372036854775807) (HT : TreeIn base w0 K0 w tb L l2) (hl : L.length ≤ 1000) :
    Calls Tryz.prog 45 #[.pointer (some ⟨tb, 0, none⟩), .string key, .int .i64 many] w fun e w' => AfterEnd base w0 K0 tb L ((afterL L key).take many.toNat) l2 e w' := by
  obtain ⟨hs, h, k, hL, hc, hc1, H⟩ := HT
  have hbw : base ≤ w.heap.size := H.low (b := tb) (t := 130) (vs := [ptrV k.b]) (by simp)
  have H1 := H.made hbw 3 [.int .i64 many]
  by_cases hm : many < 1
  · have HH1 := hide H1
    have HL := hide hL
    have HS := hide hs
    have Hc1 := hide hc1
    clear H H1 hL hs hc1
    go_enter Tryz.func45, Tryz.ntmps45
    go_wp2_with fail
    go_ret
    refine ⟨.slice none 0 0, rfl, unhide HS, h, k, unhide HL, hc, unhide Hc1, ?_⟩
    have h2 := ((unhide HH1).forget []).nilRow 38 2
    rw [show many.toNat = 0 by omega]
    exact (h2.front [_, _]).front [_, _]
  · have H2 := H1.made (w := w.alloc _) (by simp; omega) 30 [.slice none 0 0]
    have H3 := H2.nilRow 38 2
    have e1 := walkA_spec base w0 K0 (w.heap.size + 1) w.heap.size (SA (w.heap.size + 1) w.heap.size many) (fun a => decide ((a.length : Int) < many)) key (seeA base w0 K0 _ _ many hm2) h _ k [] [.cell (w.heap.size + 1) 30 [.slice none 0 0], .cell w.heap.size 3 [.int .i64 many], rowE (.slice none 0 0) []] (.cell tb 130 [ptrV k.b] :: l2) ⟨_, rfl⟩ (by rw [hL]; simp; omega) (H3.conv (fun x => by simp only [rowE, total_append, total_cons, total_nil, foot_cell, foot_row, foot_sub, World.size_alloc]; omega) (fun r hr => H3.sat r (by
      simp only [List.cons_append, List.nil_append, List.mem_cons, World.size_alloc, rowE] at hr ⊢
      rcases hr with h | h | h | h | h | h
      · exact .inr (.inl h)
      · exact .inr (.inr (.inl h))
      · exact .inl h
      · exact .inr (.inr (.inr (.inr (.inl h))))
      · exact .inr (.inr (.inr (.inl h)))
      · exact .inr (.inr (.inr (.inr (.inr h))))))) (by rw [hL]; exact hs) hc
    have q0 : w.cell? ⟨tb, 0, none⟩ = some (.pointer (some ⟨k.b, 0, none⟩)) := H.cellAt (t := 130) (vs := [ptrV k.b]) (by simp) rfl
    have hca : ∀ o, (w.alloc o).cell? ⟨tb, 0, none⟩ = some (.pointer (some ⟨k.b, 0, none⟩)) := fun o => Lib.cell?_alloc_some _ q0
    have hca2 : ∀ o o', ((w.alloc o).alloc o').cell? ⟨tb, 0, none⟩ = some (.pointer (some ⟨k.b, 0, none⟩)) := fun o o' => Lib.cell?_alloc_some _ (hca o)
    have E1 := hide e1
    have HL := hide hL
    have HS := hide hs
    have Hc1 := hide hc1
    clear e1 H H1 H2 H3 hL hs hc1
    go_enter Tryz.func45, Tryz.ntmps45
    go_wp2_with fail
    refine (unhide E1).mono ?_
    rintro e w2 ⟨rs', rfl, ⟨v, hv⟩, H4⟩
    obtain ⟨m, hmm⟩ : ∃ m : Nat, many = (m : Int) := ⟨many.toNat, by omega⟩
    have ht : (tell (fun a => decide ((a.length : Int) < many)) [] (afterL k.L key)).1 = (afterL L key).take many.toNat := by
      rw [hmm, tell_take m (by omega) _ [] (by simp; omega), unhide HL, Int.toNat_natCast]
      simp
    subst hv
    rw [ht] at H4
    have q1 : w2.cell? ⟨w.heap.size + 1, 0, none⟩ = some v := H4.cellAt (t := 30) (vs := [v]) (by simp) rfl
    have HH4 := hide H4
    clear H4 ht E1 q0 hca hca2 hmm
    go_wp2_with fail
    go_ret
    refine ⟨v, rfl, unhide HS, h, k, unhide HL, hc, unhide Hc1, ?_⟩
    have h5 := (((unhide HH4).forget []).forget [])
    exact (h5.front [_]).front [_, _]

end Go.Proofs.YtjpmomklkkifjaaGreatDoor.T
namespace Go.Proofs.YtjpmomklkkifjaaGreatDoor.T
open Go.RowKit
set_option maxRecDepth 100000
set_option linter.unusedVariables false
set_option linter.unusedSimpArgs false

variable {w0 w : World} {fb mb : Nat} {N : List NV} {F : Forest} {next : Int} {l2 : List Res}
/-- A tree by itself; what is laid meanwhile comes back with it. -/
theorem FSIn.treeMore (h : FSIn w0 w fb mb N F next l2) {tb : Nat} (ht : tb ∈ F.map (·.1)) :
    ∃ rest : List Res, TreeIn w0.heap.size w0 (fun _ => 0) w tb (lookF F tb) rest ∧
      ∀ w' l', TreeIn w0.heap.size w0 (fun _ => 0) w' tb (lookF F tb) (l' ++ rest) → FSIn w0 w' fb mb N F next (l' ++ l2) := by
  have hsame := setF_same F tb fun x hx e => by rw [← e, lookF_mem h.nodup hx]
  obtain ⟨rs, hr, H⟩ := h
  obtain ⟨h', k, rs1, rs2, rfl, a1, a2, a3, a4, a5⟩ := hr.split ht
  refine ⟨.cell fb 77 [.map (some mb), .int .i64 next] :: .obj mb (IsMapN N) :: (rs1 ++ rs2 ++ l2), ⟨a1, h', k, a2, a3, a4, ?_⟩, fun w' l' hT => ?_⟩
  · refine H.conv (fun x => ?_) (fun r hr => H.sat r ?_)
    · simp only [total_append, total_cons]; omega
    · simp only [List.mem_append, List.mem_cons] at hr ⊢
      rcases hr with h | h | h | h | (h | h) | h <;> simp [h]
  · obtain ⟨s1, h2, k2, b1, b2, b3, H2⟩ := hT
    have hR := a5 h2 k2 (lookF F tb) s1 b1 b2 b3 fun x hx t vs e => by
      have h3 := H2.uniq tb
      subst e
      have h4 : 1 ≤ total (rs1 ++ rs2) tb := by
        have := total_mem hx tb
        rw [foot_cell, one_self] at this
        exact this
      simp only [total_append, total_cons, foot_cell, one_self] at h3 h4
      omega
    rw [hsame] at hR
    refine ⟨rs1 ++ .cell tb 130 [ptrV k2.b] :: .sub h2 k2 :: rs2, hR, ?_⟩
    refine H2.conv (fun x => ?_) (fun r hr => H2.sat r ?_)
    · simp only [total_append, total_cons]; omega
    · simp only [List.mem_append, List.mem_cons] at hr ⊢
      rcases hr with h | h | (h | h | h | h) | h | h <;> simp [h]
theorem FSIn.nilRow (h : FSIn w0 w fb mb N F next l2) (e : TypeId) (k : Nat) : FSIn w0 w fb mb N F next (.row (.slice none 0 0) e k 0 [] :: l2) := by
  obtain ⟨rs, hr, H⟩ := h
  have H1 := Hold.nilRow H e k
  refine ⟨rs, hr, H1.conv (fun x => ?_) fun r hr => H1.sat r ?_⟩
  · simp only [total_cons, total_append]; omega
  · simp only [List.mem_cons, List.mem_append] at hr ⊢
    rcases hr with h | h | h | h | h <;> simp [h]
theorem FSIn.rowAt (h : FSIn w0 w fb mb N F next l2) {v : Value} {e : TypeId} {k n : Nat} {xs : List Value} (hm : Res.row v e k n xs ∈ l2) : w.ownsRow w0.heap.size e k v n xs := by
  obtain ⟨rs, _, H⟩ := h
  exact H.sat (.row v e k n xs) (by simp [hm])
/-- What else is owned, by itself. -/
theorem FSIn.rest (h : FSIn w0 w fb mb N F next l2) : H0 w0 w l2 := by
  obtain ⟨rs, hr, H⟩ := h
  exact Hold.conv H (fun x => by simp only [total_cons, total_append]; omega) fun r hr => Hold.sat H r (by simp [hr])

theorem flatE_get : ∀ (l : List Item) (j : Nat) (h : j < l.length), (flatE l)[j * 2]? = some (.string l[j].name) ∧ (flatE l)[j * 2 + 1]? = some (.int .i64 l[j].node)
  | x :: l, 0, h => ⟨rfl, rfl⟩
  | x :: l, j + 1, h => by
    have e : flatE (x :: l) = .string x.name :: .int .i64 x.node :: flatE l := rfl
    have := flatE_get l j (by simpa using h)
    rw [e, show (j + 1) * 2 = j * 2 + 1 + 1 by omega]
    simpa using this
/-- An entry in a row of entries as they are handed on. -/
theorem entry_cell {base g n cap : Nat} {L : List Item} (h : w.ownsRow base 38 2 (.slice (some ⟨g, 0, none⟩) n cap) n (flatE L)) {j : Nat} {x : Item} (hk : L[j]? = some x) : w.cell? ⟨g, j * 2, none⟩ = some (.string x.name) ∧ w.cell? ⟨g, j * 2 + 1, none⟩ = some (.int .i64 x.node) := by
  have hl : L.length * 2 = n * 2 := by rw [← h.1, flatE_length]
  obtain ⟨hj, rfl⟩ := List.getElem?_eq_some_iff.1 hk
  have h1 := flatE_get L j hj
  exact ⟨by rw [h.cellAt _ (by omega)]; exact h1.1, by rw [h.cellAt _ (by omega)]; exact h1.2⟩
theorem entry_shape {base : Nat} {v : Value} {L : List Item} (h : w.ownsRow base 38 2 v L.length (flatE L)) (hl : L.length ≤ 1000) : (v = .slice none 0 0 ∧ L = []) ∨ ∃ g cap, v = .slice (some ⟨g, 0, none⟩) L.length cap := by
  rcases h.2 with ⟨h1, h2⟩ | ⟨g, cap, cur, h1, _⟩
  · exact .inl ⟨h1, List.eq_nil_of_length_eq_zero h2⟩
  · exact .inr ⟨g, cap, h1⟩

/-- How a call ends that answers entries. -/
def EntsEnd (w0 : World) (fb mb : Nat) (N : List NV) (F : Forest) (next : Int) (l2 : List Res) (L : List Item) (e : Ending) (w' : World) : Prop := ∃ v, e = .returned v ∧ FSIn w0 w' fb mb N F next (rowE v L :: l2)

/-- At most so many behind a key, as a call upon one of the trees. -/
theorem after_in {tb : Nat} (hF : Fits N F next) (ht : tb ∈ F.map (·.1)) (key : ByteArray) (many : Int) (hm1 : -9223372036854775808 ≤ many) (hm2 : many ≤ 9223372036854775807) (wx : World) (l : List Res) (hx : FSIn w0 wx fb mb N F next l) :
    Calls Tryz.prog 45 #[.pointer (some ⟨tb, 0, none⟩), .string key, .int .i64 many] wx fun e w' => ∃ v, e = .returned v ∧ FSIn w0 w' fb mb N F next (rowE v ((afterL (lookF F tb) key).take many.toNat) :: l) := by
  obtain ⟨rest, hT, hback⟩ := hx.treeMore ht
  have hl : (lookF F tb).length ≤ 1000 := by have := (show Few 900 F from hF.many).look tb; omega
  exact (after_calls _ _ _ wx tb _ rest key many hm1 hm2 hT hl).mono fun e w' ⟨v, he, hT'⟩ => ⟨v, he, hback w' [_] hT'⟩
theorem many_in {tb : Nat} (hF : Fits N F next) (ht : tb ∈ F.map (·.1)) (wx : World) (l : List Res) (hx : FSIn w0 wx fb mb N F next l) :
    Calls Tryz.prog 46 #[.pointer (some ⟨tb, 0, none⟩)] wx fun e w' => e = .returned (.int .i64 (lookF F tb).length) ∧ FSIn w0 w' fb mb N F next l := by
  obtain ⟨rest, hT, hback⟩ := hx.treeSame ht
  have hl : (lookF F tb).length ≤ 1000 := by have := (show Few 900 F from hF.many).look tb; omega
  exact (many_calls _ _ _ wx tb _ rest hT (fun x hx => hF.full _ (lookF_in ht) x hx) hl).mono fun e w' ⟨he, hT'⟩ => ⟨he, hback w' hT'⟩

set_option maxHeartbeats 4000000 in
theorem entries_calls (h : FSIn w0 w fb mb N F next l2) (hF : Fits N F next) (i : Int) (hi : WfI i) :
    Calls Tryz.prog 16 #[.pointer (some ⟨fb, 0, none⟩), .int .i64 i] w fun e w' => EntsEnd w0 fb mb N F next l2 (entsK F (atN N i)) e w' := by
  have hlk := h.look hi w rfl
  have q0 := h.map0
  have hv := hF.vok i
  generalize atN N i = u at hlk hv ⊢
  have hf := fun wx => folder_calls u wx
  obtain ⟨B, hB⟩ : ∃ B, w.heap.size = B := ⟨_, rfl⟩
  have h1 := h.made 80 [.int .i64 u.id, .int .i64 u.kind, .int .i64 u.up, .int .i64 u.links, .string u.text, .pointer u.ptr]
  rw [hB] at h1
  unfold NV.val at hlk hf
  cases hk1 : (u.kind == 1) with
  | false =>
    rw [hk1] at hf
    have hk1' : ¬ u.kind = 1 := by simpa using hk1
    have hE : entsK F u = [] := by unfold entsK; rw [if_neg hk1']
    rw [hE]
    have H1 := hide h1
    have Hf := hide hf
    clear hf hk1' hE hv h h1 hF hi
    go_enter Tryz.func16, Tryz.ntmps16
    go_wp2_with fail
    refine (unhide Hf _).mono ?_
    rintro e w4 ⟨rfl, hb4⟩
    have H4 := hide ((unhide H1).step hb4)
    clear hb4 Hf H1
    go_wp2_with fail
    go_ret
    exact ⟨_, rfl, ((unhide H4).forget []).nilRow 38 2⟩
  | true =>
    rw [hk1] at hf
    have hk1' : u.kind = 1 := by simpa using hk1
    obtain ⟨tb, htb, ht⟩ := hv.1 hk1'
    have hup : u.ptr = some ⟨tb, 0, none⟩ := by unfold NV.ptr; rw [htb]; rfl
    have hee : entsK F u = lookF F tb := by unfold entsK entsOf; rw [if_pos hk1', htb]
    rw [hee]
    have hl : (lookF F tb).length ≤ 900 := (show Few 900 F from hF.many).look tb
    have hM := fun wx l (hx : FSIn w0 wx fb mb N F next l) => many_in hF ht wx l hx
    have hA := fun wx l (hx : FSIn w0 wx fb mb N F next l) => after_in hF ht ⟨#[]⟩ (lookF F tb).length (by omega) (by omega) wx l hx
    have hfull : (afterL (lookF F tb) ⟨#[]⟩).take (lookF F tb).length = lookF F tb := by
      rw [Full.after (fun x hx => hF.full _ (lookF_in ht) x hx), List.take_of_length_le (Nat.le_refl _)]
    rw [Int.toNat_natCast, hfull] at hA
    rw [hup] at h1 hf hlk
    generalize lookF F tb = L at hM hA hl ⊢
    obtain ⟨nl, hnl⟩ : ∃ nl, L.length = nl := ⟨_, rfl⟩
    rw [hnl] at hM hA hl
    have HM := hide hM
    have HA := hide hA
    have H1 := hide h1
    have Hf := hide hf
    clear hf hM hA hk1' hv h h1 hF hi hup hee htb ht hfull hk1 hnl
    go_enter Tryz.func16, Tryz.ntmps16
    go_wp2_with fail
    refine (unhide Hf _).mono ?_
    rintro e w4 ⟨rfl, hb4⟩
    have h4 := (unhide H1).step hb4
    obtain ⟨k0, k1, k2, k3, k4, k5, _⟩ := h4.six (b := B) (.head _)
    have H4 := hide h4
    clear hb4 Hf H1 h4 hlk q0 hB k0 k1 k2 k3 k4
    go_wp2_with fail
    go_cut [4] from 15 to 21 (fun a4 wc => Hid (FSIn w0 wc fb mb N F next (rowE a4 L :: l2)))
    case first =>
      go_region_with (first | (go_at_call 46; refine (unhide HM _ _ (unhide H4).drew).mono ?_; rintro e w5 ⟨rfl, h5⟩; have k6 := (h5.six (b := B) (.head _)).2.2.2.2.2.1; have H5 := hide h5; clear h5) | (go_at_call 45; refine (unhide HA _ _ (unhide H5)).mono ?_; rintro e w6 ⟨v, rfl, h6⟩; have H6 := hide h6; clear h6))
      all_goals (go_wp2_with fail; go_meet; exact FSIn.forget [_] (unhide H6))
    case rest =>
      go_wp2_with fail
      go_ret
      exact ⟨_, rfl, unhide hcut⟩

/-- The number of an error. -/
theorem number_calls (o : Option Int) (w : World) : Calls Tryz.prog 22 #[errV o] w fun e w' => e = .returned (.int .i64 (o.getD 0)) ∧ w' = w := by
  cases o with
  | none =>
    simp only [errV, Option.getD_none]
    go_enter Tryz.func22, Tryz.ntmps22
    go_wp2_with fail
    go_ret
    exact ⟨rfl, rfl⟩
  | some k =>
    simp only [errV, Option.getD_some]
    have ht : (Instr.typeAssert (.iface 86 (.int .i64 k)) 35 86 true).run Tryz.prog w = .ok (.tuple #[.int .i64 k, .bool true]) w := by kernel_rfl
    go_enter Tryz.func22, Tryz.ntmps22
    go_wp2_with fail
    go_ret
    exact ⟨rfl, rfl⟩

/-- Is there an entry of just that name, and node? -/
def namedB (L : List Item) (s : ByteArray) (i : Int) : Bool := L.any fun x => x.name.toList == s.toList && x.node == i
set_option maxHeartbeats 2000000 in
theorem named_calls (h : FSIn w0 w fb mb N F next l2) (hF : Fits N F next) (s : ByteArray) (i : Int) :
    Calls Tryz.prog 25 #[.pointer (some ⟨fb, 0, none⟩), .string s, .int .i64 i] w fun e w' => e = .returned (.bool (namedB (entsK F (atN N 1)) s i)) ∧ FSIn w0 w' fb mb N F next l2 := by
  have hE := entries_calls h hF 1 (wfI_of (by omega) (by omega))
  have hl : (entsK F (atN N 1)).length ≤ 900 := by
    unfold entsK
    split
    · unfold entsOf
      split
      · simp
      · exact (show Few 900 F from hF.many).look _
    · simp
  generalize entsK F (atN N 1) = L at hE hl ⊢
  have HE := hide hE
  clear h hF hE
  go_enter Tryz.func25, Tryz.ntmps25
  go_wp2_with fail
  refine (unhide HE).mono ?_
  rintro e w2 ⟨v, rfl, h2⟩
  have hr := h2.rowAt (.head _)
  have H2 := hide h2
  rcases entry_shape hr (by omega) with ⟨rfl, rfl⟩ | ⟨g, cap, rfl⟩
  · clear h2 hr HE
    go_wp2_with fail
    go_loopg [8] 1 (fun k vi wr => vi = .int .i64 0 ∧ wr = w2)
    case atStart => exact ⟨rfl, rfl⟩
    case round =>
      obtain ⟨rfl, rfl⟩ := hrel
      go_wp2_with fail
      go_ret
      exact ⟨rfl, (unhide H2).forget []⟩
  · obtain ⟨n, hn⟩ : ∃ n, L.length = n := ⟨_, rfl⟩
    rw [hn] at hr hl H2 ⊢
    have Hn := hide hn
    have Hr := hide hr
    clear h2 hr HE hn
    go_wp2_with fail
    go_loopg [8] (n + 1) (fun k vi wr => ∃ j : Nat, n - j < k ∧ j ≤ n ∧ vi = .int .i64 j ∧ wr = w2 ∧ Hid (namedB L s i = namedB (L.drop j) s i))
    case atStart => exact ⟨0, by omega, by omega, rfl, rfl, rfl⟩
    case round =>
      obtain ⟨j, hk, hj, rfl, rfl, HB⟩ := hrel
      by_cases hjn : j < n
      · have hjz : (j : Int) < (n : Int) := by omega
        have hjl : j < L.length := by rw [unhide Hn]; exact hjn
        obtain ⟨x, hx⟩ : ∃ x, L[j]? = some x := ⟨L[j], by simp [hjl]⟩
        obtain ⟨c0, c1⟩ := entry_cell (unhide Hr) hx
        have Hd : Hid (namedB (L.drop j) s i = ((x.name.toList == s.toList && x.node == i) || namedB (L.drop (j + 1)) s i)) := by
          show _ = _
          rw [List.drop_eq_getElem_cons hjl, (List.getElem?_eq_some_iff.1 hx).2]
          rfl
        cases hb1 : (x.name.toList == s.toList) with
        | false =>
          rw [hb1] at Hd
          have HB2 : Hid (namedB L s i = namedB (L.drop (j + 1)) s i) := (unhide HB).trans (by rw [unhide Hd]; simp)
          clear Hd hx hjl
          go_wp2_with fail
          go_roundg (n - j)
          case measure => omega
          case rel => exact ⟨j + 1, by omega, by omega, by simp, rfl, HB2⟩
        | true =>
          cases hb2 : (x.node == i) with
          | false =>
            rw [hb1, hb2] at Hd
            have HB2 : Hid (namedB L s i = namedB (L.drop (j + 1)) s i) := (unhide HB).trans (by rw [unhide Hd]; simp)
            clear Hd hx hjl
            go_wp2_with fail
            go_roundg (n - j)
            case measure => omega
            case rel => exact ⟨j + 1, by omega, by omega, by simp, rfl, HB2⟩
          | true =>
            rw [hb1, hb2] at Hd
            have HB2 : Hid (namedB L s i = true) := (unhide HB).trans (by rw [unhide Hd]; simp)
            clear Hd hx hjl
            go_wp2_with fail
            go_ret
            exact ⟨by rw [unhide HB2]; rfl, (unhide H2).forget []⟩
      · have hjz : ¬ (j : Int) < (n : Int) := by omega
        have HB2 : Hid (namedB L s i = false) := (unhide HB).trans (by rw [List.drop_eq_nil_of_le (by rw [unhide Hn]; omega)]; rfl)
        go_wp2_with fail
        go_ret
        exact ⟨by rw [unhide HB2]; rfl, (unhide H2).forget []⟩
end Go.Proofs.YtjpmomklkkifjaaGreatDoor.T
namespace Go.Proofs.YtjpmomklkkifjaaGreatDoor.T
open Go.RowKit
set_option maxRecDepth 100000
set_option linter.unusedVariables false
set_option linter.unusedSimpArgs false

set_option maxHeartbeats 2000000 in
theorem made_calls {w0 w : World} {l2 : List Res} (hR : Ready w0) (h : H0 w0 w l2) (hb : w0.heap.size ≤ w.heap.size) :
    Calls Tryz.prog 13 #[] w fun e w' => e = .returned (.bool true) ∧ H0 w0 w' l2 := by
  have hnew := fsNew_calls h hb
  have HNw := hide hnew
  have HR := hide hR
  clear h hnew hR
  go_enter Tryz.func13, Tryz.ntmps13
  go_wp2_with fail
  refine (unhide HNw).mono ?_
  rintro e w2 ⟨fb, mb, tb, rfl, h2⟩
  have hm := mkdir_calls w0 w2 fb mb _ _ 2 l2 (unhide HR) h2 (good_new tb).fits ⟨#[47, 97]⟩ (by decide)
  have hpl := freeP_ok (good_new tb).fits (free_root tb)
  have Hg : Hid (∀ t2, t2 ∉ [tb] → Good 1 (putN [rootN tb] ⟨2, 1, 1, 1, ⟨#[]⟩, some t2⟩) (putF ((t2, []) :: [(tb, [])]) tb ⟨keyS ⟨#[97]⟩, ⟨#[97]⟩, 2⟩) (2 + 1)) := fun t2 ht =>
    (good_new tb).addFolder (by omega) hpl (by simp) (by omega) ht
  have hm2 : Calls Tryz.prog 24 #[.pointer (some ⟨fb, 0, none⟩), .string ⟨#[47, 97]⟩] w2 fun e w' => e = .returned .nilIface ∧ ∃ t2, FSIn w0 w' fb mb (putN [rootN tb] ⟨2, 1, 1, 1, ⟨#[]⟩, some t2⟩) (putF ((t2, []) :: [(tb, [])]) tb ⟨keyS ⟨#[97]⟩, ⟨#[97]⟩, 2⟩) (2 + 1) l2 := by
    refine hm.mono fun e w' hE => ?_
    unfold AddFolderEnd at hE
    rw [free_root tb] at hE
    simp only at hE
    rw [if_neg (by simp)] at hE
    exact hE
  have HM := hide hm2
  clear h2 hm hm2 hpl HNw
  go_wp2_with fail
  refine (unhide HM).mono ?_
  rintro e w3 ⟨rfl, t2, h3⟩
  obtain ⟨u, hu, hf⟩ := find_root tb t2 ⟨#[]⟩
  have hF := fsFind_calls w0 w3 fb mb _ _ _ l2 (unhide HR) h3 (unhide Hg t2 (fresh_of (G := []) h3)).fits ⟨#[47, 65]⟩ (by decide)
  rw [hf] at hF
  unfold findRet at hF
  simp only [resN, resE, errV, hu] at hF
  have HF : Hid (Calls Tryz.prog 21 #[.pointer (some ⟨fb, 0, none⟩), .string ⟨#[47, 65]⟩] w3 fun e w' => e = .returned (.tuple #[.agg #[.int .i64 2, .int .i64 u.kind, .int .i64 u.up, .int .i64 u.links, .string u.text], .nilIface]) ∧ H0 w0 w' l2) :=
    hF.mono fun e w' ⟨he, hI⟩ => ⟨he, hI.rest⟩
  clear h3 hF hf hu HM Hg
  go_wp2_with fail
  refine (unhide HF).mono ?_
  rintro e w4 ⟨rfl, h4⟩
  have H4 := hide h4
  clear h4 HF
  go_wp2_with fail
  go_ret
  exact ⟨rfl, Hold.alloc (unhide H4) _⟩
end Go.Proofs.YtjpmomklkkifjaaGreatDoor.T
namespace Go.Proofs.YtjpmomklkkifjaaGreatDoor
open Go.ChangeShapes Go.WideShapes Go.ChangeAt Go.RowKit
set_option maxRecDepth 100000

theorem gWholes : Tryz.prog.globalNamed "jobcase/sign.wholes" = some 3 := by kernel_rfl
theorem tWholes : (Tryz.prog.globals[3]?).map (·.type) = some 223 := by kernel_rfl
theorem cells68 : Tryz.prog.cellsOf 223 = 102 := by kernel_rfl
theorem cells49 : Tryz.prog.cellsOf 192 = 3 := by kernel_rfl
theorem cells21 : Tryz.prog.cellsOf 21 = 1 := by kernel_rfl

/-- The table as the row lists it. -/
theorem laid_tab {H : Type} : (Rows.laid_jobcase_sign_wholes : DataW H) = .agg (tab.map fun x => .agg [.lit (.int .i32 x.1), .lit (.int .i32 x.2.1), .lit (.int .i32 x.2.2)]) := rfl

theorem flat_at (f : Int × Int × Int → List Value) (hf : ∀ x, (f x).length = 3) : ∀ (l : List (Int × Int × Int)) (cs : List Value), cs.length = l.length * 3 → (∀ i, i < l.length → (cs.drop (i * 3)).take 3 = f (l.getD i (0, 0, 0))) → cs = l.flatMap f
  | [], cs, h, _ => by simpa using h
  | x :: l, cs, h, hi => by
    have h0 := hi 0 (by simp)
    simp at h0
    have ht : cs.drop 3 = l.flatMap f := flat_at f hf l (cs.drop 3) (by simp at h ⊢; omega) (fun i hlt => by
      have := hi (i + 1) (by simpa using hlt)
      simp only [List.getD_cons_succ] at this
      rw [List.drop_drop, show 3 + i * 3 = (i + 1) * 3 by omega]
      exact this)
    rw [List.flatMap_cons, ← h0, ← ht, List.take_append_drop]

theorem three (a b c : Value) : ∀ (q : List Value), q.length = 3 → q.take 1 = [a] → (q.drop 1).take 1 = [b] → (q.drop 2).take 1 = [c] → q = [a, b, c]
  | [x, y, z], _, h0, h1, h2 => by
    simp at h0 h1 h2
    rw [h0, h1, h2]
theorem tab_of_trod {H : Type} {enc : TypeId × Value → H} {w : World} {base : Nat} {sp : Nat → Bool} {held : Bool} {fuel : Nat} {cs : List Value} {p : List MemPlace}
    (h : DataW.trod enc Tryz.prog w base sp held fuel 223 cs = some (Rows.laid_jobcase_sign_wholes, p)) : cs = tabCells.toList := by
  obtain ⟨xs, m, rfl, hx, hl, hn, hi⟩ := DataW.trod_array Tryz.underlying223 h
  rw [laid_tab] at hx
  rw [cells68] at hl
  rw [cells49] at hi
  have hx1 : (tab.map fun x => (DataW.agg [.lit (.int .i32 x.1), .lit (.int .i32 x.2.1), .lit (.int .i32 x.2.2)] : DataW H)) = xs.map (·.1) := by
    simpa using congrArg (fun y => y.1) hx
  unfold tabCells
  rw [List.toList_toArray]
  refine flat_at _ (fun _ => rfl) tab cs (by rw [hl]; rfl) (fun i hlt => ?_)
  have hlt' : i < 34 := hlt
  have hti := hi i hlt'
  obtain ⟨y, hy⟩ : ∃ y, xs[i]? = some y := ⟨xs[i]'(by omega), List.getElem?_eq_getElem _⟩
  rw [hy] at hti
  obtain ⟨y0, y1, y2, n, rfl, hlen, t0, t1, t2⟩ := Deep.trod_struct3 Tryz.underlying192 hti
  have he : (tab.map fun x => (DataW.agg [.lit (.int .i32 x.1), .lit (.int .i32 x.2.1), .lit (.int .i32 x.2.2)] : DataW H))[i]? = some (.agg [y0.1, y1.1, y2.1]) := by
    rw [hx1]; simp [hy]
  obtain ⟨x, hx0⟩ : ∃ x, tab[i]? = some x := ⟨_, List.getElem?_eq_getElem hlt⟩
  rw [List.getElem?_map, hx0] at he
  simp only [Option.map_some, Option.some.injEq, DataW.agg.injEq, List.cons.injEq, and_true] at he
  obtain ⟨e0, e1, e2⟩ := he
  obtain ⟨n0, c0, rfl, _⟩ := DataW.trod_int Tryz.underlying21 t0
  obtain ⟨n1, c1, rfl, _⟩ := DataW.trod_int Tryz.underlying21 t1
  obtain ⟨n2, c2, rfl, _⟩ := DataW.trod_int Tryz.underlying21 t2
  simp only [DataW.lit.injEq, Lit.int.injEq, true_and] at e0 e1 e2
  rw [cells49] at hlen
  rw [cells21] at c0 c1 c2
  rw [List.getD_eq_getElem?_getD, hx0, Option.getD_some, e0, e1, e2]
  exact three _ _ _ _ hlen (by simpa using c0) (by simpa using c1) (by simpa using c2)

theorem hasTab_of_head {W : World} {rest : List (String × DataW Unit)} (h : laidMet Tryz.prog (("jobcase/sign.wholes", Rows.laid_jobcase_sign_wholes) :: rest) W) : HasTab W := by
  obtain ⟨ps, ⟨g', t', cs, fuel, p, q, hg', ht', hvar, hd, _, _⟩, _⟩ := h
  obtain rfl := Option.some.inj (gWholes.symm.trans hg')
  obtain rfl := Option.some.inj (tWholes.symm.trans ht')
  have hc := tab_of_trod hd
  have hc' : cs = tabCells := by cases cs; simpa using congrArg List.toArray hc
  subst hc'
  simp only [World.var?, hg', Option.bind_some] at hvar
  split at hvar
  · rename_i c t fr hb
    cases hvar
    exact ⟨t, fr, hb⟩
  · cases hvar
end Go.Proofs.YtjpmomklkkifjaaGreatDoor
namespace Go.Proofs.YtjpmomklkkifjaaGreatDoor
open Go.ChangeShapes Go.WideShapes Go.ChangeAt Go.RowKit
set_option maxRecDepth 100000

theorem laidKnob : ownKnob Tryz.prog.godebug = none := by kernel_rfl

def laid3 : List (String × DataW Unit) := [("jobcase/sign.wholes", Rows.laid_jobcase_sign_wholes), ("unicode/utf8.acceptRanges", Rows.laid_unicode_utf8_acceptRanges), ("unicode/utf8.first", Rows.laid_unicode_utf8_first)]

theorem first_same : Rows.laid_unicode_utf8_first = Lib.firstData := by kernel_rfl
theorem accept_same : (Rows.laid_unicode_utf8_acceptRanges : DataW Unit) = Lib.acceptData := by kernel_rfl

theorem u8extra : U8Extra Tryz.prog lays196_ren := { n3 := by kernel_rfl, n4 := by kernel_rfl, y3 := by kernel_rfl, y4 := by kernel_rfl, c5 := by kernel_rfl, c119 := by kernel_rfl, c138 := by kernel_rfl }

theorem ready_of_laid {W : World} (hL : laidMetH Tryz.prog laid3 W) (hsh : W.ShapedOpen Tryz.prog) : Ready W := by
  rw [MakeChecks.laidMetH_plain _ _ _ (by kernel_rfl)] at hL
  have hT : HasTab W := hasTab_of_head hL
  obtain ⟨ps, hLV, _⟩ := hL
  have h4 := Lib.LaidVars_reads hLV "unicode/utf8.acceptRanges" Rows.laid_unicode_utf8_acceptRanges (by simp [laid3])
  have h3 := Lib.LaidVars_reads hLV "unicode/utf8.first" Rows.laid_unicode_utf8_first (by simp [laid3])
  rw [accept_same] at h4
  rw [first_same] at h3
  exact ⟨hT, utf8Tabs_of_readsT (U8Types.of196 lays196) u8extra h3 h4, cell_of_shapedOpen_int (P := Tryz.prog) (g := 2) (t := 3) (zero := #[.int .i64 0]) hsh (of_decide_eq_true (by kernel_rfl)) (by kernel_rfl) rfl (by kernel_rfl) (by kernel_rfl) Tryz.underlying3⟩

/-- The cells of a table, whatever its depth. -/
def flatCells : Nat → DataW Unit → List Value
  | 0, _ => []
  | _ + 1, .lit (.int k n) => [.int k n]
  | f + 1, .agg l => l.flatMap (flatCells f)
  | _ + 1, _ => []
/-- A table laid in its block. -/
def layCells (d : DataW Unit) : Obj → Obj
  | .cells _ t frozen => .cells (flatCells 3 d).toArray t frozen
  | o => o
/-- A world for the witness: the settled one, the three tables holding what their initialisers lay. -/
noncomputable def laidWorld (os : Os) : World :=
  { World.holding Tryz.prog os ⟨#[], #[], []⟩ with heap := (((World.holding Tryz.prog os ⟨#[], #[], []⟩).heap.modify 0 (layCells Rows.laid_unicode_utf8_first)).modify 1 (layCells Rows.laid_unicode_utf8_acceptRanges)).modify 3 (layCells Rows.laid_jobcase_sign_wholes) }
end Go.Proofs.YtjpmomklkkifjaaGreatDoor
