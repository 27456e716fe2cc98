/-
  The contract of Tree.After, over the seat's program: at most so many entries behind a key, in order. The contracts of FS.Entries, of named and of number. The contract of FS.Nodes: the nodes that there are, rising by their numbers. The contract of FS.Nodes: a range over the map, in whatever order; then the sort.
-/
import Derived.Test.YtjpmomklkkifjaaGreatDoorCBWalkA
import Derived.Test.YtjpmomklkkifjaaGreatDoorCBGet
import Derived.Test.YtjpmomklkkifjaaGreatDoorCFEntsK
import Derived.BigQuiet
import Derived.Test.YtjpmomklkkifjaaGreatDoorCFSort
import Derived.Test.YtjpmomklkkifjaaGreatDoorCFDone
namespace Go.Proofs.YtjpmomklkkifjaaGreatDoor.T
open Go.RowKit Go.Lib
set_option maxRecDepth 100000
set_option linter.unusedVariables false
set_option linter.unusedSimpArgs false

def flatE (l : List Item) : List Value := l.flatMap fun x => [.string x.name, .int .i64 x.node]
theorem flatE_snoc (l : List Item) (x : Item) : flatE (l ++ [x]) = flatE l ++ [.string x.name, .int .i64 x.node] := by simp [flatE]
theorem flatE_length (l : List Item) : (flatE l).length = l.length * 2 := by
  induction l with
  | nil => rfl
  | cons x l ih => simp [flatE] at ih ⊢; omega
theorem info33 : (Tryz.prog.info? 38).map (fun i => (i.zero, i.size, i.bytes)) = some (some (.agg #[.string ⟨#[]⟩, .int .i64 0]), 2, 24) := by kernel_rfl

def rowE (v : Value) (l : List Item) : Res := .row v 38 2 l.length (flatE l)
def SA (ob nb : Nat) (many : Int) (acc : List Item) (rs : List Res) : Prop := ∃ v, rs = [.cell ob 30 [v], .cell nb 3 [.int .i64 many], rowE v acc]

theorem cell_two_new (w : World) (a b : Value) (t : TypeId) : ∀ j u, [a, b][j]? = some u → (w.alloc (.cells #[a, b] t)).cell? ((⟨w.heap.size, 0, none⟩ : Addr).add j) = some u := by
  intro j u hj
  rw [Addr.add_lit, Nat.zero_add, cell_of_row _ _ j _ t (0, 0) (heap_alloc_new w _)]
  simpa using hj

set_option maxRecDepth 100000 in
theorem seeA (base : Nat) (w0 : World) (K0 : Nat → Nat) (ob nb : Nat) (many : Int) (hm : many ≤ 9223372036854775807) : SeeSpecA base w0 K0 ob nb (SA ob nb many) (fun a => decide ((a.length : Int) < many)) := by
  intro w acc rs it l2 hS hl H
  obtain ⟨v, rfl⟩ := hS
  obtain ⟨i0, hi, hz0, hz1, hz2⟩ := info_parts info33
  obtain ⟨n, hn⟩ : ∃ n, acc.length = n := ⟨_, rfl⟩
  have q0 : w.cell? ⟨ob, 0, none⟩ = some v := H.cellAt (t := 30) (vs := [v]) (by simp) rfl
  have q1 : w.cell? ⟨nb, 0, none⟩ = some (.int .i64 many) := H.cellAt (t := 3) (vs := [.int .i64 many]) (by simp) rfl
  have r0 : w.ownsRow base 38 2 v n (flatE acc) := by rw [← hn]; exact H.rowAt (by simp [rowE])
  have hbw : base ≤ w.heap.size := H.low (b := ob) (t := 30) (vs := [v]) (by simp)
  have hca : ∀ o, (w.alloc o).cell? ⟨ob, 0, none⟩ = some v := fun o => Lib.cell?_alloc_some _ q0
  have H1 := (H.alloc (.cells #[.string it.name, .int .i64 it.node] 38)).alloc (.cells #[.string it.name, .int .i64 it.node] 38)
  have r1 : ((w.alloc (.cells #[.string it.name, .int .i64 it.node] 38)).alloc (.cells #[.string it.name, .int .i64 it.node] 38)).ownsRow base 38 2 v n (flatE acc) := (r0.alloc _).alloc _
  rw [hn] at hl
  have Hr1 := hide r1
  have HH1 := hide H1
  have Hn := hide hn
  clear H H1 r0 r1 hn
  go_enter Tryz.func86, Tryz.ntmps86
  go_wp2_with (at_builtin; refine wpList_append_own_at _ rfl _ _ 30 rfl base 38 i0 (.agg #[.string ⟨#[]⟩, .int .i64 0]) 2 24 Tryz.underlying30 hi hz0 hz1 hz2 rfl (by decide) _ _ _ rfl (unhide Hr1) ⟨w.heap.size + 1, 0, none⟩ 1 1 [.string it.name, .int .i64 it.node] rfl rfl (by have := cell_two_new (w.alloc (.cells #[.string it.name, .int .i64 it.node] 38)) (.string it.name) (.int .i64 it.node) 38; simpa using this) (fun y hy => by simp at hy; rcases hy with rfl | rfl <;> rfl) (by unfold maxLen; omega) (by omega) (by simp; omega) ?_; intro v4 w4 hown4 hgrow4 hnil4 hat4; obtain ⟨g4, cap4, rfl, hc4, hm4⟩ := row_shape hown4 (by omega); have H5 := (unhide HH1).grow [.cell ob 30 [v], .cell nb 3 [.int .i64 many]] hgrow4 hown4 (by rcases hat4 with h | h; exact .inl h; exact .inr ⟨_, h, Nat.le_refl _⟩); have k0 : w4.cell? ⟨ob, 0, none⟩ = some v := H5.cellAt (t := 30) (vs := [v]) (by simp) rfl; have k1 : w4.frozen? ⟨ob, 0, none⟩ = false := H5.frozenAt (t := 30) (vs := [v]) (by simp) 0; have k2 : w4.cell? ⟨nb, 0, none⟩ = some (.int .i64 many) := H5.cellAt (t := 3) (vs := [.int .i64 many]) (by simp) rfl; have hne : ¬ (nb = ob) := (fun e => by have h5 := H5.uniq ob; simp only [List.cons_append, List.nil_append, total_cons, foot_cell, e, one_self] at h5; omega); have H6 := hide (H5.store [] 0 (.slice (some ⟨g4, 0, none⟩) (n + 1) cap4) _ rfl); clear H5 hown4 hgrow4 hnil4 hat4)
  go_ret
  refine ⟨[.cell ob 30 [.slice (some ⟨g4, 0, none⟩) (n + 1) cap4], .cell nb 3 [.int .i64 many], rowE (.slice (some ⟨g4, 0, none⟩) (n + 1) cap4) (acc ++ [it])], ?_, ⟨_, rfl⟩, ?_⟩
  · show Ending.returned (Value.bool (decide ((n : Int) + 1 < many))) = Ending.returned (Value.bool (decide (((acc ++ [it]).length : Int) < many)))
    rw [List.length_append, unhide Hn]
    rfl
  · have h7 := unhide H6
    unfold rowE
    rw [List.length_append, unhide Hn, flatE_snoc]
    exact h7

theorem tell_take (m : Nat) (hm : 0 < m) : ∀ (xs acc : List Item), acc.length < m → (tell (fun a => decide ((a.length : Int) < (m : Int))) acc xs).1 = acc ++ xs.take (m - acc.length)
  | [], acc, _ => by rw [tell_nil]; simp
  | x :: xs, acc, h => by
    rw [tell_cons]
    obtain ⟨d, hd⟩ : ∃ d, m - acc.length = d + 1 := ⟨m - acc.length - 1, by omega⟩
    rw [hd, List.take_succ_cons]
    by_cases h1 : acc.length + 1 < m
    · rw [if_pos (by simp; omega), tell_take m hm xs (acc ++ [x]) (by simp; omega)]
      simp only [List.length_append, List.length_cons, List.length_nil, List.append_assoc, List.cons_append, List.nil_append]
      rw [show m - (acc.length + (0 + 1)) = d by omega]
    · rw [if_neg (by simp; omega)]
      obtain rfl : d = 0 := by omega
      simp

def AfterEnd (base : Nat) (w0 : World) (K0 : Nat → Nat) (tb : Nat) (L out : List Item) (l2 : List Res) (e : Ending) (w' : World) : Prop :=
  ∃ v, e = .returned v ∧ TreeIn base w0 K0 w' tb L (rowE v out :: l2)

theorem after_calls (base : Nat) (w0 : World) (K0 : Nat → Nat) (w : World) (tb : Nat) (L : List Item) (l2 : List Res) (key : ByteArray) (many : Int) (hm1 : -9223372036854775808 ≤ many) (hm2 : many ≤ 9223372036854775807) (HT : TreeIn base w0 K0 w tb L l2) (hl : L.length ≤ 1000) :
    Calls Tryz.prog 45 #[.pointer (some ⟨tb, 0, none⟩), .string key, .int .i64 many] w fun e w' => AfterEnd base w0 K0 tb L ((afterL L key).take many.toNat) l2 e w' := by
  obtain ⟨hs, h, k, hL, hc, hc1, H⟩ := HT
  have hbw : base ≤ w.heap.size := H.low (b := tb) (t := 130) (vs := [ptrV k.b]) (by simp)
  have H1 := H.made hbw 3 [.int .i64 many]
  by_cases hm : many < 1
  · have HH1 := hide H1
    have HL := hide hL
    have HS := hide hs
    have Hc1 := hide hc1
    clear H H1 hL hs hc1
    go_enter Tryz.func45, Tryz.ntmps45
    go_wp2_with fail
    go_ret
    refine ⟨.slice none 0 0, rfl, unhide HS, h, k, unhide HL, hc, unhide Hc1, ?_⟩
    have h2 := ((unhide HH1).forget []).nilRow 38 2
    rw [show many.toNat = 0 by omega]
    exact (h2.front [_, _]).front [_, _]
  · have H2 := H1.made (w := w.alloc _) (by simp; omega) 30 [.slice none 0 0]
    have H3 := H2.nilRow 38 2
    have e1 := walkA_spec base w0 K0 (w.heap.size + 1) w.heap.size (SA (w.heap.size + 1) w.heap.size many) (fun a => decide ((a.length : Int) < many)) key (seeA base w0 K0 _ _ many hm2) h _ k [] [.cell (w.heap.size + 1) 30 [.slice none 0 0], .cell w.heap.size 3 [.int .i64 many], rowE (.slice none 0 0) []] (.cell tb 130 [ptrV k.b] :: l2) ⟨_, rfl⟩ (by rw [hL]; simp; omega) (H3.conv (fun x => by simp only [rowE, total_append, total_cons, total_nil, foot_cell, foot_row, foot_sub, World.size_alloc]; omega) (fun r hr => H3.sat r (by
      simp only [List.cons_append, List.nil_append, List.mem_cons, World.size_alloc, rowE] at hr ⊢
      rcases hr with h | h | h | h | h | h
      · exact .inr (.inl h)
      · exact .inr (.inr (.inl h))
      · exact .inl h
      · exact .inr (.inr (.inr (.inr (.inl h))))
      · exact .inr (.inr (.inr (.inl h)))
      · exact .inr (.inr (.inr (.inr (.inr h))))))) (by rw [hL]; exact hs) hc
    have q0 : w.cell? ⟨tb, 0, none⟩ = some (.pointer (some ⟨k.b, 0, none⟩)) := H.cellAt (t := 130) (vs := [ptrV k.b]) (by simp) rfl
    have hca : ∀ o, (w.alloc o).cell? ⟨tb, 0, none⟩ = some (.pointer (some ⟨k.b, 0, none⟩)) := fun o => Lib.cell?_alloc_some _ q0
    have hca2 : ∀ o o', ((w.alloc o).alloc o').cell? ⟨tb, 0, none⟩ = some (.pointer (some ⟨k.b, 0, none⟩)) := fun o o' => Lib.cell?_alloc_some _ (hca o)
    have E1 := hide e1
    have HL := hide hL
    have HS := hide hs
    have Hc1 := hide hc1
    clear e1 H H1 H2 H3 hL hs hc1
    go_enter Tryz.func45, Tryz.ntmps45
    go_wp2_with fail
    refine (unhide E1).mono ?_
    rintro e w2 ⟨rs', rfl, ⟨v, hv⟩, H4⟩
    obtain ⟨m, hmm⟩ : ∃ m : Nat, many = (m : Int) := ⟨many.toNat, by omega⟩
    have ht : (tell (fun a => decide ((a.length : Int) < many)) [] (afterL k.L key)).1 = (afterL L key).take many.toNat := by
      rw [hmm, tell_take m (by omega) _ [] (by simp; omega), unhide HL, Int.toNat_natCast]
      simp
    subst hv
    rw [ht] at H4
    have q1 : w2.cell? ⟨w.heap.size + 1, 0, none⟩ = some v := H4.cellAt (t := 30) (vs := [v]) (by simp) rfl
    have HH4 := hide H4
    clear H4 ht E1 q0 hca hca2 hmm
    go_wp2_with fail
    go_ret
    refine ⟨v, rfl, unhide HS, h, k, unhide HL, hc, unhide Hc1, ?_⟩
    have h5 := (((unhide HH4).forget []).forget [])
    exact (h5.front [_]).front [_, _]

end Go.Proofs.YtjpmomklkkifjaaGreatDoor.T
namespace Go.Proofs.YtjpmomklkkifjaaGreatDoor.T
open Go.RowKit
set_option maxRecDepth 100000
set_option linter.unusedVariables false
set_option linter.unusedSimpArgs false

variable {w0 w : World} {fb mb : Nat} {N : List NV} {F : Forest} {next : Int} {l2 : List Res}
theorem FSIn.treeMore (h : FSIn w0 w fb mb N F next l2) {tb : Nat} (ht : tb ∈ F.map (·.1)) :
    ∃ rest : List Res, TreeIn w0.heap.size w0 (fun _ => 0) w tb (lookF F tb) rest ∧
      ∀ w' l', TreeIn w0.heap.size w0 (fun _ => 0) w' tb (lookF F tb) (l' ++ rest) → FSIn w0 w' fb mb N F next (l' ++ l2) := by
  have hsame := setF_same F tb fun x hx e => by rw [← e, lookF_mem h.nodup hx]
  obtain ⟨rs, hr, H⟩ := h
  obtain ⟨h', k, rs1, rs2, rfl, a1, a2, a3, a4, a5⟩ := hr.split ht
  refine ⟨.cell fb 77 [.map (some mb), .int .i64 next] :: .obj mb (IsMapN N) :: (rs1 ++ rs2 ++ l2), ⟨a1, h', k, a2, a3, a4, ?_⟩, fun w' l' hT => ?_⟩
  · refine H.conv (fun x => ?_) (fun r hr => H.sat r ?_)
    · simp only [total_append, total_cons]; omega
    · simp only [List.mem_append, List.mem_cons] at hr ⊢
      rcases hr with h | h | h | h | (h | h) | h <;> simp [h]
  · obtain ⟨s1, h2, k2, b1, b2, b3, H2⟩ := hT
    have hR := a5 h2 k2 (lookF F tb) s1 b1 b2 b3 fun x hx t vs e => by
      have h3 := H2.uniq tb
      subst e
      have h4 : 1 ≤ total (rs1 ++ rs2) tb := by
        have := total_mem hx tb
        rw [foot_cell, one_self] at this
        exact this
      simp only [total_append, total_cons, foot_cell, one_self] at h3 h4
      omega
    rw [hsame] at hR
    refine ⟨rs1 ++ .cell tb 130 [ptrV k2.b] :: .sub h2 k2 :: rs2, hR, ?_⟩
    refine H2.conv (fun x => ?_) (fun r hr => H2.sat r ?_)
    · simp only [total_append, total_cons]; omega
    · simp only [List.mem_append, List.mem_cons] at hr ⊢
      rcases hr with h | h | (h | h | h | h) | h | h <;> simp [h]
theorem FSIn.nilRow (h : FSIn w0 w fb mb N F next l2) (e : TypeId) (k : Nat) : FSIn w0 w fb mb N F next (.row (.slice none 0 0) e k 0 [] :: l2) := by
  obtain ⟨rs, hr, H⟩ := h
  have H1 := Hold.nilRow H e k
  refine ⟨rs, hr, H1.conv (fun x => ?_) fun r hr => H1.sat r ?_⟩
  · simp only [total_cons, total_append]; omega
  · simp only [List.mem_cons, List.mem_append] at hr ⊢
    rcases hr with h | h | h | h | h <;> simp [h]
theorem FSIn.rowAt (h : FSIn w0 w fb mb N F next l2) {v : Value} {e : TypeId} {k n : Nat} {xs : List Value} (hm : Res.row v e k n xs ∈ l2) : w.ownsRow w0.heap.size e k v n xs := by
  obtain ⟨rs, _, H⟩ := h
  exact H.sat (.row v e k n xs) (by simp [hm])
theorem FSIn.rest (h : FSIn w0 w fb mb N F next l2) : H0 w0 w l2 := by
  obtain ⟨rs, hr, H⟩ := h
  exact Hold.conv H (fun x => by simp only [total_cons, total_append]; omega) fun r hr => Hold.sat H r (by simp [hr])

theorem flatE_get : ∀ (l : List Item) (j : Nat) (h : j < l.length), (flatE l)[j * 2]? = some (.string l[j].name) ∧ (flatE l)[j * 2 + 1]? = some (.int .i64 l[j].node)
  | x :: l, 0, h => ⟨rfl, rfl⟩
  | x :: l, j + 1, h => by
    have e : flatE (x :: l) = .string x.name :: .int .i64 x.node :: flatE l := rfl
    have := flatE_get l j (by simpa using h)
    rw [e, show (j + 1) * 2 = j * 2 + 1 + 1 by omega]
    simpa using this
theorem entry_cell {base g n cap : Nat} {L : List Item} (h : w.ownsRow base 38 2 (.slice (some ⟨g, 0, none⟩) n cap) n (flatE L)) {j : Nat} {x : Item} (hk : L[j]? = some x) : w.cell? ⟨g, j * 2, none⟩ = some (.string x.name) ∧ w.cell? ⟨g, j * 2 + 1, none⟩ = some (.int .i64 x.node) := by
  have hl : L.length * 2 = n * 2 := by rw [← h.1, flatE_length]
  obtain ⟨hj, rfl⟩ := List.getElem?_eq_some_iff.1 hk
  have h1 := flatE_get L j hj
  exact ⟨by rw [h.cellAt _ (by omega)]; exact h1.1, by rw [h.cellAt _ (by omega)]; exact h1.2⟩
def EntsEnd (w0 : World) (fb mb : Nat) (N : List NV) (F : Forest) (next : Int) (l2 : List Res) (L : List Item) (e : Ending) (w' : World) : Prop := ∃ v, e = .returned v ∧ FSIn w0 w' fb mb N F next (rowE v L :: l2)

theorem after_in {tb : Nat} (hF : Fits N F next) (ht : tb ∈ F.map (·.1)) (key : ByteArray) (many : Int) (hm1 : -9223372036854775808 ≤ many) (hm2 : many ≤ 9223372036854775807) (wx : World) (l : List Res) (hx : FSIn w0 wx fb mb N F next l) :
    Calls Tryz.prog 45 #[.pointer (some ⟨tb, 0, none⟩), .string key, .int .i64 many] wx fun e w' => ∃ v, e = .returned v ∧ FSIn w0 w' fb mb N F next (rowE v ((afterL (lookF F tb) key).take many.toNat) :: l) := by
  obtain ⟨rest, hT, hback⟩ := hx.treeMore ht
  have hl : (lookF F tb).length ≤ 1000 := by have := (show Few 900 F from hF.many).look tb; omega
  exact (after_calls _ _ _ wx tb _ rest key many hm1 hm2 hT hl).mono fun e w' ⟨v, he, hT'⟩ => ⟨v, he, hback w' [_] hT'⟩
theorem many_in {tb : Nat} (hF : Fits N F next) (ht : tb ∈ F.map (·.1)) (wx : World) (l : List Res) (hx : FSIn w0 wx fb mb N F next l) :
    Calls Tryz.prog 46 #[.pointer (some ⟨tb, 0, none⟩)] wx fun e w' => e = .returned (.int .i64 (lookF F tb).length) ∧ FSIn w0 w' fb mb N F next l := by
  obtain ⟨rest, hT, hback⟩ := hx.treeSame ht
  have hl : (lookF F tb).length ≤ 1000 := by have := (show Few 900 F from hF.many).look tb; omega
  exact (many_calls _ _ _ wx tb _ rest hT (fun x hx => hF.full _ (lookF_in ht) x hx) hl).mono fun e w' ⟨he, hT'⟩ => ⟨he, hback w' hT'⟩

set_option maxHeartbeats 4000000 in
theorem entries_calls (h : FSIn w0 w fb mb N F next l2) (hF : Fits N F next) (i : Int) (hi : WfI i) :
    Calls Tryz.prog 16 #[.pointer (some ⟨fb, 0, none⟩), .int .i64 i] w fun e w' => EntsEnd w0 fb mb N F next l2 (entsK F (atN N i)) e w' := by
  have hlk := h.look hi w rfl
  have q0 := h.map0
  have hv := hF.vok i
  generalize atN N i = u at hlk hv ⊢
  have hf := fun wx => folder_calls u wx
  obtain ⟨B, hB⟩ : ∃ B, w.heap.size = B := ⟨_, rfl⟩
  have h1 := h.made 80 [.int .i64 u.id, .int .i64 u.kind, .int .i64 u.up, .int .i64 u.links, .string u.text, .pointer u.ptr]
  rw [hB] at h1
  unfold NV.val at hlk hf
  cases hk1 : (u.kind == 1) with
  | false =>
    rw [hk1] at hf
    have hk1' : ¬ u.kind = 1 := by simpa using hk1
    have hE : entsK F u = [] := by unfold entsK; rw [if_neg hk1']
    rw [hE]
    have H1 := hide h1
    have Hf := hide hf
    clear hf hk1' hE hv h h1 hF hi
    go_enter Tryz.func16, Tryz.ntmps16
    go_wp2_with fail
    refine (unhide Hf _).mono ?_
    rintro e w4 ⟨rfl, hb4⟩
    have H4 := hide ((unhide H1).step hb4)
    clear hb4 Hf H1
    go_wp2_with fail
    go_ret
    exact ⟨_, rfl, ((unhide H4).forget []).nilRow 38 2⟩
  | true =>
    rw [hk1] at hf
    have hk1' : u.kind = 1 := by simpa using hk1
    obtain ⟨tb, htb, ht⟩ := hv.1 hk1'
    have hup : u.ptr = some ⟨tb, 0, none⟩ := by unfold NV.ptr; rw [htb]; rfl
    have hee : entsK F u = lookF F tb := by unfold entsK entsOf; rw [if_pos hk1', htb]
    rw [hee]
    have hl : (lookF F tb).length ≤ 900 := (show Few 900 F from hF.many).look tb
    have hM := fun wx l (hx : FSIn w0 wx fb mb N F next l) => many_in hF ht wx l hx
    have hA := fun wx l (hx : FSIn w0 wx fb mb N F next l) => after_in hF ht ⟨#[]⟩ (lookF F tb).length (by omega) (by omega) wx l hx
    have hfull : (afterL (lookF F tb) ⟨#[]⟩).take (lookF F tb).length = lookF F tb := by
      rw [Full.after (fun x hx => hF.full _ (lookF_in ht) x hx), List.take_of_length_le (Nat.le_refl _)]
    rw [Int.toNat_natCast, hfull] at hA
    rw [hup] at h1 hf hlk
    generalize lookF F tb = L at hM hA hl ⊢
    obtain ⟨nl, hnl⟩ : ∃ nl, L.length = nl := ⟨_, rfl⟩
    rw [hnl] at hM hA hl
    have HM := hide hM
    have HA := hide hA
    have H1 := hide h1
    have Hf := hide hf
    clear hf hM hA hk1' hv h h1 hF hi hup hee htb ht hfull hk1 hnl
    go_enter Tryz.func16, Tryz.ntmps16
    go_wp2_with fail
    refine (unhide Hf _).mono ?_
    rintro e w4 ⟨rfl, hb4⟩
    have h4 := (unhide H1).step hb4
    obtain ⟨k0, k1, k2, k3, k4, k5, _⟩ := h4.six (b := B) (.head _)
    have H4 := hide h4
    clear hb4 Hf H1 h4 hlk q0 hB k0 k1 k2 k3 k4
    go_wp2_with fail
    go_cut [4] from 15 to 21 (fun a4 wc => Hid (FSIn w0 wc fb mb N F next (rowE a4 L :: l2)))
    case first =>
      go_region_with (first | (go_at_call 46; refine (unhide HM _ _ (unhide H4).drew).mono ?_; rintro e w5 ⟨rfl, h5⟩; have k6 := (h5.six (b := B) (.head _)).2.2.2.2.2.1; have H5 := hide h5; clear h5) | (go_at_call 45; refine (unhide HA _ _ (unhide H5)).mono ?_; rintro e w6 ⟨v, rfl, h6⟩; have H6 := hide h6; clear h6))
      all_goals (go_wp2_with fail; go_meet; exact FSIn.forget [_] (unhide H6))
    case rest =>
      go_wp2_with fail
      go_ret
      exact ⟨_, rfl, unhide hcut⟩

def namedB (L : List Item) (s : ByteArray) (i : Int) : Bool := L.any fun x => x.name.toList == s.toList && x.node == i
end Go.Proofs.YtjpmomklkkifjaaGreatDoor.T
namespace Go.Proofs.YtjpmomklkkifjaaGreatDoor.T
open Go.RowKit Go.Shelf Go.Sort
open Go.Maps (Keyed)
set_option maxRecDepth 100000
set_option linter.unusedVariables false
set_option linter.unusedSimpArgs false

instance : Inhabited NV := ⟨NV.zero⟩
def encN (u : NV) : List Value := [.int .i64 u.id, .int .i64 u.kind, .int .i64 u.up, .int .i64 u.links, .string u.text]
def flatN (L : List NV) : List Value := L.flatMap encN
theorem flatN_length (L : List NV) : (flatN L).length = L.length * 5 := by
  induction L with
  | nil => rfl
  | cons x L ih => simp [flatN, encN] at ih ⊢; omega
theorem flatN_snoc (L : List NV) (x : NV) : flatN (L ++ [x]) = flatN L ++ encN x := by simp [flatN]
theorem flatN_get : ∀ (L : List NV) (j : Nat) (u : NV), L[j]? = some u → ∀ i x, (encN u)[i]? = some x → (flatN L)[j * 5 + i]? = some x
  | y :: L, 0, u, h, i, x, hx => by
    have e : y = u := by simpa using h
    subst e
    have hi : i < (encN y).length := (List.getElem?_eq_some_iff.1 hx).1
    show (encN y ++ flatN L)[0 * 5 + i]? = some x
    rw [Nat.zero_mul, Nat.zero_add, List.getElem?_append_left hi]
    exact hx
  | y :: L, j + 1, u, h, i, x, hx => by
    have := flatN_get L j u (by simpa using h) i x hx
    show (encN y ++ flatN L)[(j + 1) * 5 + i]? = some x
    rw [List.getElem?_append_right (by simp [encN]; omega)]
    simp only [encN, List.length_cons, List.length_nil]
    rw [show (j + 1) * 5 + i - (0 + 1 + 1 + 1 + 1 + 1) = j * 5 + i by omega]
    exact this
def rowNd (v : Value) (L : List NV) : Res := .row v 33 5 L.length (flatN L)
theorem infoNode : (Tryz.prog.info? 33).map (fun i => (i.zero, i.size, i.bytes)) = some (some (.agg #[.int .i64 0, .int .i64 0, .int .i64 0, .int .i64 0, .string ⟨#[]⟩]), 5, 48) := by kernel_rfl
theorem node_cell {w : World} {base g n cap : Nat} {L : List NV} (h : w.ownsRow base 33 5 (.slice (some ⟨g, 0, none⟩) n cap) n (flatN L)) {j : Nat} {u : NV} (hk : L[j]? = some u) :
    w.cell? ⟨g, j * 5, none⟩ = some (.int .i64 u.id) ∧ w.cell? ⟨g, j * 5 + 1, none⟩ = some (.int .i64 u.kind) ∧ w.cell? ⟨g, j * 5 + 2, none⟩ = some (.int .i64 u.up) ∧ w.cell? ⟨g, j * 5 + 3, none⟩ = some (.int .i64 u.links) ∧ w.cell? ⟨g, j * 5 + 4, none⟩ = some (.string u.text) := by
  have hl : L.length * 5 = n * 5 := by rw [← h.1, flatN_length]
  obtain ⟨hj, _⟩ := List.getElem?_eq_some_iff.1 hk
  have h1 := flatN_get L j u hk
  exact ⟨by rw [h.cellAt _ (by omega)]; exact h1 0 _ rfl, by rw [h.cellAt _ (by omega)]; exact h1 1 _ rfl, by rw [h.cellAt _ (by omega)]; exact h1 2 _ rfl, by rw [h.cellAt _ (by omega)]; exact h1 3 _ rfl, by rw [h.cellAt _ (by omega)]; exact h1 4 _ rfl⟩

def cmpI (x y : Int) : Int := if x < y then -1 else if y < x then 1 else 0
theorem isNaN_calls (x : Int) (w : World) : Calls Tryz.prog 84 #[.int .i64 x] w fun e w' => e = .returned (.bool false) ∧ w' = w := by
  go_enter Tryz.func84, Tryz.ntmps84
  go_wp2_with fail
  go_ret
  exact ⟨by simp, rfl⟩
theorem compareI_calls (x y : Int) (w : World) : Calls Tryz.prog 43 #[.int .i64 x, .int .i64 y] w fun e w' => e = .returned (.int .i64 (cmpI x y)) ∧ w' = w := by
  have hn := fun z wx => isNaN_calls z wx
  unfold cmpI
  by_cases h1 : x < y
  · rw [if_pos h1]
    go_enter Tryz.func43, Tryz.ntmps43
    go_wp2_with fail
    refine (hn _ _).mono ?_
    rintro e wx ⟨rfl, rfl⟩
    go_wp2_with fail
    refine (hn _ _).mono ?_
    rintro e wx ⟨rfl, rfl⟩
    go_wp2_with fail
    go_ret
    exact ⟨rfl, rfl⟩
  · rw [if_neg h1]
    by_cases h2 : y < x
    · rw [if_pos h2]
      go_enter Tryz.func43, Tryz.ntmps43
      go_wp2_with fail
      refine (hn _ _).mono ?_
      rintro e wx ⟨rfl, rfl⟩
      go_wp2_with fail
      refine (hn _ _).mono ?_
      rintro e wx ⟨rfl, rfl⟩
      go_wp2_with fail
      go_ret
      exact ⟨rfl, rfl⟩
    · rw [if_neg h2]
      go_enter Tryz.func43, Tryz.ntmps43
      go_wp2_with fail
      refine (hn _ _).mono ?_
      rintro e wx ⟨rfl, rfl⟩
      go_wp2_with fail
      refine (hn _ _).mono ?_
      rintro e wx ⟨rfl, rfl⟩
      go_wp2_with fail
      go_ret
      exact ⟨rfl, rfl⟩
theorem byId_calls (x y : NV) (W : World) : Calls Tryz.prog 42 #[.agg (encN x).toArray, .agg (encN y).toArray] W fun e w' => e = .returned (.int .i64 (cmpI x.id y.id)) ∧ ∃ q os', w' = grow (W.drewN q) os' := by
  have hc := fun wx => compareI_calls x.id y.id wx
  generalize cmpI x.id y.id = r at hc ⊢
  have HC := hide hc
  clear hc
  simp only [encN]
  go_enter Tryz.func42, Tryz.ntmps42
  go_wp2_with fail
  refine (unhide HC _).mono ?_
  rintro e wx ⟨rfl, hwx⟩
  have hwx := hwx.symm
  subst hwx
  go_wp2_with fail
  go_ret
  exact ⟨rfl, 0, _, by rw [alloc_eq_grow, alloc_eq_grow, grow_grow]; rfl⟩
theorem cmpI_lt (x y : NV) : ltOf (fun a b : NV => cmpI a.id b.id) x y = decide (x.id < y.id) := by
  show decide (cmpI x.id y.id < 0) = decide (x.id < y.id)
  unfold cmpI
  by_cases h1 : x.id < y.id
  · simp [h1]
  · rw [if_neg h1]
    by_cases h2 : y.id < x.id
    · simp [h1, h2]
    · simp [h1, h2]
theorem swoI : SWO (ltOf fun a b : NV => cmpI a.id b.id) where
  irrefl x := by rw [cmpI_lt]; simp
  trans x y z h1 h2 := by rw [cmpI_lt] at *; simp at *; omega
  ntrans x y z h1 h2 := by rw [cmpI_lt] at *; simp at *; omega

theorem flatK_flatN (L : List NV) : flatK encN 5 L.toArray = (flatN L).toArray := by
  apply Array.ext_getElem?
  intro t
  by_cases ht : t < L.length * 5
  · have hk : t / 5 < L.length := by omega
    have hr : t % 5 < 5 := Nat.mod_lt _ (by omega)
    have h0 : t < (flatK encN 5 L.toArray).size := by simpa using ht
    have h1 := get_flatK encN 5 L.toArray t (by simpa using ht)
    rw [getElem!_pos (flatK encN 5 L.toArray) t h0] at h1
    rw [Array.getElem?_eq_getElem h0, h1]
    have h2 : L.toArray[t / 5]! = L[t / 5] := by
      simp only [List.getElem!_toArray]
      rw [getElem!_pos L _ hk]
    rw [h2]
    have h3 : (encN L[t / 5]).length = 5 := rfl
    have h5 : t % 5 < (encN L[t / 5]).length := by rw [h3]; exact hr
    have h4 := flatN_get L (t / 5) L[t / 5] (List.getElem?_eq_getElem hk) (t % 5) ((encN L[t / 5])[t % 5]!) (by rw [getElem!_pos (encN L[t / 5]) (t % 5) h5]; exact List.getElem?_eq_getElem h5)
    rw [show t / 5 * 5 + t % 5 = t by omega] at h4
    rw [List.getElem?_toArray]
    exact h4.symm
  · rw [Array.getElem?_eq_none (by simp; omega), Array.getElem?_eq_none (by simp [flatN_length]; omega)]
theorem row_put {w : World} {base g n cap : Nat} {t : TypeId} {k : Nat} {xs ys : List Value} (h : w.ownsRow base t k (.slice (some ⟨g, 0, none⟩) n cap) n xs) (hl : ys.length = xs.length) (m : Nat) (os : Array Obj) :
    (grow (putRow id (Go.Sort.ahead w m) g 0 ys.toArray) os).ownsRow base t k (.slice (some ⟨g, 0, none⟩) n cap) n ys ∧ w.grownBy (grow (putRow id (Go.Sort.ahead w m) g 0 ys.toArray) os) (some g) := by
  obtain ⟨hx, h2⟩ := h
  rcases h2 with ⟨hh, _⟩ | ⟨g', cap', cur, hv, hb, hg, hn, hm, hc, ht⟩
  · cases hh
  injection hv with hv1 _ hv2
  injection hv1 with hv1
  injection hv1 with hv1
  subst hv1 hv2
  have hlt : g < w.heap.size := (Array.getElem?_eq_some_iff.1 hg).1
  have hsz : (putRow id (Go.Sort.ahead w m) g 0 ys.toArray).heap.size = w.heap.size := by simp [putRow, mapBlock, Go.Sort.ahead]
  have hblk : (putRow id (Go.Sort.ahead w m) g 0 ys.toArray).heap[g]? = some (.cells (putCells id 0 ys.toArray cur) t (0, 0)) := by
    unfold putRow mapBlock
    show ((w.heap.modify g _))[g]? = _
    rw [Array.getElem?_modify, if_pos rfl, hg]
    rfl
  have hle : n * k ≤ cur.size := by rw [hc]; exact Nat.mul_le_mul_right k hn
  refine ⟨⟨by rw [hl]; exact hx, .inr ⟨g, cap, putCells id 0 ys.toArray cur, rfl, hb, ?_, hn, hm, by simp [putCells, hc], ?_⟩⟩, ⟨rfl, rfl, rfl, ?_, fun i hi hne => ?_⟩⟩
  · show ((putRow id (Go.Sort.ahead w m) g 0 ys.toArray).heap ++ os)[g]? = _
    rw [Array.getElem?_append_left (by rw [hsz]; exact hlt)]
    exact hblk
  · apply List.ext_getElem?
    intro j
    by_cases hj : j < n * k
    · have hjy : j < ys.length := by omega
      rw [List.getElem?_take_of_lt hj, Array.getElem?_toList]
      unfold putCells
      rw [Array.getElem?_mapIdx, Array.getElem?_eq_getElem (by omega)]
      simp only [Option.map_some, List.size_toArray, Nat.zero_le, Nat.zero_add, true_and, if_pos hjy, Nat.sub_zero, id, List.getElem!_toArray]
      rw [getElem!_pos ys j hjy, List.getElem?_eq_getElem hjy]
    · rw [List.getElem?_eq_none (by rw [List.length_take]; omega), List.getElem?_eq_none (by omega)]
  · show w.heap.size ≤ ((putRow id (Go.Sort.ahead w m) g 0 ys.toArray).heap ++ os).size
    rw [Array.size_append, hsz]
    omega
  · show ((putRow id (Go.Sort.ahead w m) g 0 ys.toArray).heap ++ os)[i]? = _
    rw [Array.getElem?_append_left (by rw [hsz]; exact hi)]
    unfold putRow mapBlock
    show ((w.heap.modify g _))[i]? = _
    rw [Array.getElem?_modify, if_neg (fun e => hne (by rw [e]))]
theorem holds_row {w : World} {base g n cap : Nat} {t : TypeId} {k : Nat} {xs : List Value} (h : w.ownsRow base t k (.slice (some ⟨g, 0, none⟩) n cap) n xs) : Holds id w g 0 xs.toArray := by
  intro j hj
  have hj' : j < xs.length := by simpa using hj
  rw [Nat.zero_add]
  refine ⟨?_, h.frozenAt j⟩
  rw [h.cellAt j (by have := h.1; omega)]
  simp only [id, List.getElem!_toArray]
  rw [getElem!_pos xs j hj', List.getElem?_eq_getElem hj']

set_option maxHeartbeats 1000000 in
theorem sortNodes_calls {w : World} {base g n cap : Nat} {L : List NV} (h : w.ownsRow base 33 5 (.slice (some ⟨g, 0, none⟩) n cap) n (flatN L)) (hl : L.length = n) (hn : n ≤ 1000) :
    Calls Tryz.prog 41 #[.slice (some ⟨g, 0, none⟩) n cap, .func (.func 42) #[] #[]] w fun e w' => e = .returned (.tuple #[]) ∧ ∃ L', L'.Perm L ∧ L'.Pairwise (fun a b => a.id ≤ b.id) ∧ w'.ownsRow base 33 5 (.slice (some ⟨g, 0, none⟩) n cap) n (flatN L') ∧ w.grownBy w' (some g) := by
  have eg : ∀ args w, (callFunc 42 args).run Tryz.prog w = .ok (.enter 42 args) w := enters_of Tryz.func42 (by kernel_rfl) rfl
  have hH : HoldsK encN 5 w g 0 L.toArray := by
    unfold HoldsK
    rw [flatK_flatN]
    exact holds_row h
  have hlt : g < w.heap.size := by
    rcases h.2 with ⟨hh, _⟩ | ⟨g', cap', cur, hv, hb, hg, _⟩
    · cases hh
    · injection hv with hv1 _ _
      injection hv1 with hv1
      injection hv1 with hv1
      subst hv1
      exact (Array.getElem?_eq_some_iff.1 hg).1
  have hc := AnyQ.slices_SortFunc sortLaysN 5 Tryz.isAgg33 Tryz.sizeOf33 encN (fun _ => rfl) (fun x v hv => by simp [encN] at hv; rcases hv with rfl | rfl | rfl | rfl | rfl <;> rfl) (fun a b : NV => cmpI a.id b.id) swoI 42 #[] g 0 cap L.toArray w eg (fun _ _ _ _ x y => byId_calls x y _) hH hlt (by simp; omega)
  have e1 : L.toArray.size = n := by simp [hl]
  rw [e1] at hc
  refine Calls.mono (show Calls Tryz.prog 41 _ _ _ from hc) ?_
  rintro e w' ⟨he, d', m, os, ⟨hs, _, hp⟩, hsort, rfl⟩
  have hs' : d'.size = n := by rw [hs, e1]
  have hd : d'.toList.length = n := by simpa using hs'
  have hex : (d'.extract 0 n).toList = d'.toList := by rw [← hs']; simp
  have hex2 : (L.toArray.extract 0 n).toList = L := by rw [← hl]; simp
  rw [hex, hex2] at hp
  have hk : flatK encN 5 d' = (flatN d'.toList).toArray := by
    have := flatK_flatN d'.toList
    simpa using this
  have hr := row_put h (ys := flatN d'.toList) (by rw [flatN_length, flatN_length, hd, hl]) m os
  have hw : sortWorldK encN 5 w g 0 m d' os = grow (putRow id (Go.Sort.ahead w m) g 0 (flatN d'.toList).toArray) os := by
    unfold sortWorldK putRowK
    rw [hk]
  rw [hw]
  refine ⟨he, d'.toList, hp, ?_, hr⟩
  rw [List.pairwise_iff_getElem]
  intro i j hi hj hij
  have h1 := hsort i j (by omega) hij (by omega)
  rw [cmpI_lt] at h1
  have hi' : i < d'.size := by simpa using hi
  have hj' : j < d'.size := by simpa using hj
  rw [getElem!_pos d' i hi', getElem!_pos d' j hj'] at h1
  have h2 : ¬ d'[j].id < d'[i].id := of_decide_eq_false h1
  have : d'.toList[i].id ≤ d'.toList[j].id := by
    rw [Array.getElem_toList, Array.getElem_toList]
    omega
  exact this
end Go.Proofs.YtjpmomklkkifjaaGreatDoor.T
namespace Go.Proofs.YtjpmomklkkifjaaGreatDoor.T
open Go.RowKit
open Go.Maps (Keyed)
set_option maxRecDepth 100000
set_option linter.unusedVariables false
set_option linter.unusedSimpArgs false

variable {w0 w w' : World} {fb mb : Nat} {N : List NV} {F : Forest} {next : Int} {l2 : List Res}
abbrev someB (b : Nat) : Res := .obj b (fun _ => True)
theorem FSIn.foundObj (h : FSIn w0 w fb mb N F next l2) (hb : Below w.heap.size w w') {b : Nat} (h1 : w.heap.size ≤ b) (h2 : b < w'.heap.size) : FSIn w0 w' fb mb N F next (someB b :: l2) := by
  obtain ⟨rs, hr, H⟩ := h
  have hs := Hold.size H
  have H1 := Hold.new (r := someB b) H (Kept.of_below hb) ⟨by omega, _, Array.getElem?_eq_getElem h2, trivial⟩ (fun x hx => by obtain rfl := one_pos.1 hx; exact h1) (one_le b)
  refine ⟨rs, hr, Hold.conv H1 (fun x => ?_) fun r hr => Hold.sat H1 r ?_⟩
  · simp only [total_cons, total_append]; omega
  · simp only [List.mem_cons, List.mem_append] at hr ⊢
    rcases hr with h | h | h | h | h <;> simp [h]
theorem FSIn.turned (l1 : List Res) {b : Nat} (h : FSIn w0 w fb mb N F next (l1 ++ someB b :: l2)) (hg : w.grownBy w' (some b)) : FSIn w0 w' fb mb N F next (l1 ++ someB b :: l2) := by
  obtain ⟨rs, hr, H⟩ := h
  have e : (.cell fb 77 [.map (some mb), .int .i64 next] :: .obj mb (IsMapN N) :: (rs ++ (l1 ++ someB b :: l2)) : List Res) = (.cell fb 77 [.map (some mb), .int .i64 next] :: .obj mb (IsMapN N) :: (rs ++ l1)) ++ someB b :: l2 := by simp
  rw [e] at H
  refine ⟨rs, hr, ?_⟩
  rw [e]
  have hs := Hold.sat H (someB b) (by simp)
  obtain ⟨hb1, o, ho, _⟩ := hs
  have hlt : b < w.heap.size := (Array.getElem?_eq_some_iff.1 ho).1
  exact Hold.put _ H ((Kept.refl _ w).grown hg fun x hx _ => by cases hx; show 0 < one b b; rw [one_self]; decide) ⟨hb1, _, Array.getElem?_eq_getElem (Nat.lt_of_lt_of_le hlt hg.size), trivial⟩ (fun x _ => Nat.le_refl _) (one_le b)
theorem FSIn.grow (l1 : List Res) {v v' : Value} {e : TypeId} {k n n' : Nat} {xs ys : List Value} (h : FSIn w0 w fb mb N F next (l1 ++ .row v e k n xs :: l2)) (hg : w.grownBy w' v.ownBlock) (hr : w'.ownsRow w0.heap.size e k v' n' ys) (ha : v'.ownBlock = v.ownBlock ∨ ∃ x, v'.ownBlock = some x ∧ w.heap.size ≤ x) : FSIn w0 w' fb mb N F next (l1 ++ .row v' e k n' ys :: l2) := by
  obtain ⟨rs, hr2, H⟩ := h
  have e1 : ∀ q : Res, (.cell fb 77 [.map (some mb), .int .i64 next] :: .obj mb (IsMapN N) :: (rs ++ (l1 ++ q :: l2)) : List Res) = (.cell fb 77 [.map (some mb), .int .i64 next] :: .obj mb (IsMapN N) :: (rs ++ l1)) ++ q :: l2 := fun q => by simp
  rw [e1] at H
  refine ⟨rs, hr2, ?_⟩
  rw [e1]
  exact Hold.grow _ H hg hr ha
theorem FSIn.apart {v : Value} {e : TypeId} {k n : Nat} {xs : List Value} {b : Nat} (h : FSIn w0 w fb mb N F next (.row v e k n xs :: someB b :: l2)) : some mb ≠ v.ownBlock ∧ some b ≠ v.ownBlock := by
  obtain ⟨rs, _, H⟩ := h
  constructor
  · intro e1
    have h1 := Hold.uniq H mb
    have h2 : 0 < blkN v mb := blkN_pos.2 e1.symm
    simp only [total_cons, total_append, foot_row] at h1
    have h3 : (Res.obj mb (IsMapN N)).foot mb = 1 := by show one mb mb = 1; rw [one_self]
    omega
  · intro e1
    have h1 := Hold.uniq H b
    have h2 : 0 < blkN v b := blkN_pos.2 e1.symm
    simp only [total_cons, total_append, foot_row] at h1
    have h3 : (someB b).foot b = 1 := by show one b b = 1; rw [one_self]
    omega
theorem FSIn.low (h : FSIn w0 w fb mb N F next l2) : w0.heap.size ≤ w.heap.size := h.size

structure Came (N : List NV) (acc : List NV) (left : Lit → Bool) : Prop where
  sub : ∀ u ∈ acc, u ∈ N
  nodup : (acc.map NV.id).Nodup
  left : ∀ i, WfI i → (left (.int .i64 i) = true ↔ (findN N i).isSome = true ∧ i ∉ acc.map NV.id)
theorem Came.all {acc : List NV} {left : Lit → Bool} (h : Came N acc left) (hn : (N.map NV.id).Nodup) (hw : ∀ v ∈ N, WfI v.id) (h0 : ∀ kl, left kl = false) : acc.Perm N := by
  have hsub : ∀ v ∈ N, v ∈ acc := fun v hv => by
    have h1 := h.left v.id (hw v hv)
    rw [h0] at h1
    have h2 : v.id ∈ acc.map NV.id := by
      apply Classical.byContradiction
      intro hno
      have := h1.2 ⟨by rw [findN_mem hn hv]; rfl, hno⟩
      cases this
    obtain ⟨u, hu, e⟩ := List.mem_map.1 h2
    have : u = v := by
      have a := findN_mem hn (h.sub u hu)
      have b := findN_mem hn hv
      rw [e, b] at a
      exact (Option.some.inj a).symm
    rw [← this]; exact hu
  have hna : acc.Nodup := (List.pairwise_map.1 h.nodup).imp fun hne e => hne (by rw [e])
  have hnN : N.Nodup := (List.pairwise_map.1 hn).imp fun hne e => hne (by rw [e])
  exact (List.perm_ext_iff_of_nodup hna hnN).2 fun v => ⟨fun hv => h.sub v hv, hsub v⟩
theorem Came.more {acc : List NV} {left : Lit → Bool} (h : Came N acc left) {u : NV} (hw : WfI u.id) (hu : findN N u.id = some u) (hl : left (.int .i64 u.id) = true) : Came N (acc ++ [u]) (fun z => left z && !z.sameKey (.int .i64 u.id)) := by
  have h1 := (h.left u.id hw).1 hl
  refine ⟨fun x hx => ?_, ?_, fun i hi => ?_⟩
  · rcases List.mem_append.1 hx with hx | hx
    · exact h.sub x hx
    · rw [List.mem_singleton.1 hx]; exact (findN_some hu).1
  · rw [List.map_append, List.nodup_append]
    refine ⟨h.nodup, by simp, fun a ha b hb e => ?_⟩
    simp at hb
    subst hb
    rw [e] at ha
    exact h1.2 ha
  · have hs : (Lit.int .i64 i).sameKey (.int .i64 u.id) = decide (i = u.id) := by
      simp [Lit.sameKey]
    simp only [hs]
    rw [List.map_append, List.mem_append]
    by_cases e : i = u.id
    · subst e; simp
    · have := h.left i hi
      simp [e, this]

theorem nodup_subN {acc : List NV} (h1 : (acc.map NV.id).Nodup) (h2 : ∀ u ∈ acc, u ∈ N) (hn : (N.map NV.id).Nodup) : acc.length ≤ N.length := by
  have := nodup_sub h1 (m := N.map NV.id) fun x hx => by
    obtain ⟨u, hu, rfl⟩ := List.mem_map.1 hx
    exact List.mem_map.2 ⟨u, h2 u hu, rfl⟩
  rwa [List.length_map, List.length_map] at this
theorem cell_list_new (w : World) (vs : List Value) (t : TypeId) : ∀ j u, vs[j]? = some u → (w.alloc (.cells vs.toArray t)).cell? ((⟨w.heap.size, 0, none⟩ : Addr).add j) = some u := by
  intro j u hj
  rw [Addr.add_lit, Nat.zero_add, cell_of_row _ _ j _ t (0, 0) (heap_alloc_new w _)]
  simpa using hj
set_option maxHeartbeats 8000000 in
theorem nodes_calls (h : FSIn w0 w fb mb N F next l2) (hF : Fits N F next) (hn : (N.map NV.id).Nodup) (hne : N ≠ []) :
    Calls Tryz.prog 15 #[.pointer (some ⟨fb, 0, none⟩)] w fun e w' => ∃ v L, e = .returned (.tuple #[v, .int .i64 next]) ∧ L.Perm N ∧ L.Pairwise (fun a b => a.id ≤ b.id) ∧ FSIn w0 w' fb mb N F next (rowNd v L :: l2) := by
  obtain ⟨i0, hi, hz0, hz1, hz2⟩ := info_parts infoNode
  have hwf : ∀ v ∈ N, WfI v.id := fun v hv => by have := hF.id v hv; exact wfI_of (by omega) (by omega)
  obtain ⟨D, hown, hm⟩ := sat_owns h.mapSat
  have q0 := h.map0
  have h16 := hF.few
  have H1 := hide h
  have HN := hide hn
  have HW := hide hwf
  have HM := hide hm
  have hcame : Came N [] (Maps.has D) := ⟨by simp, by simp, fun i hi => by rw [hm.has hi]; simp⟩
  have hsz : Maps.size D = N.length := hm.size
  have HC := hide hcame
  have Hsz := hide hsz
  clear h hn hwf hF hm hcame hsz
  go_enter Tryz.func15, Tryz.ntmps15
  go_wp2_with (first | (at_range; refine wpList_range_own _ rfl _ 75 rfl 3 80 kI Tryz.underlying75 Rv mb N.length D rfl hown ?_; intro w1 hrg1 hg1 hs1) | go_in)
  go_frame
  have hb1 : Below w.heap.size w w1 := (Below.refl _ w).grown hg1 (Nat.le_refl _) (fun j hj => by cases hj)
  have h2 := ((unhide H1).foundObj hb1 (b := w.heap.size) (Nat.le_refl _) (by omega)).nilRow 33 5
  have H2 : Hid (FSIn w0 w1 fb mb N F next (rowNd (.slice none 0 0) [] :: someB w.heap.size :: l2)) := h2
  have Hrg := hide hrg1
  clear h2 hb1 hg1 hs1 hown hrg1 q0 H1
  go_wp2_with fail
  go_loopg [2, 5] (N.length + 1) (fun k v2 v5 wr => ∃ (acc : List NV) (left : Lit → Bool) (cnt : Nat), cnt < k ∧ acc.length ≤ 16 ∧ Hid (wr.ranges Tryz.prog 3 Rv mb w.heap.size N.length D left cnt) ∧ Hid (FSIn w0 wr fb mb N F next (rowNd v2 acc :: someB w.heap.size :: l2)) ∧ Hid (Came N acc left))
  case atStart => exact ⟨[], _, _, by have := unhide Hsz; omega, by simp, Hrg, H2, HC⟩
  case round =>
    obtain ⟨acc, left, cnt, hk, hacc, Hrg3, HI, HC3⟩ := hrel
    clear Hrg H2 HC Hsz
    have hrg := unhide Hrg3
    go_wp2_with (first | (at_next; refine wpList_next_ranges _ rfl _ rfl 3 kI Rv (Value.int .i64) id (fun key kl hkey => (by obtain ⟨x, hx, _⟩ := Maps.keyOf_int_inv Tryz.underlying3 hkey; exact ⟨x, hx⟩)) (fun v y hv => ⟨v, rfl⟩) mb w.heap.size N.length D left cnt rfl hrg ?_ ?_) | go_in)
    · intro hc0 hl0
      have hperm := (unhide HC3).all (unhide HN) (unhide HW) hl0
      have hlen : acc.length = N.length := hperm.length_eq
      have hpos : 0 < acc.length := by rw [hlen]; exact List.length_pos_iff.2 hne
      have hrow := (unhide HI).rowAt (.head _)
      obtain ⟨g, cap, rfl, hc1, hc2⟩ := row_shape hrow hpos
      have hso := sortNodes_calls hrow rfl (by omega)
      have HSo := hide hso
      have Hp := hide hperm
      clear hrow hso hperm hc0 hl0 hrg hlen hpos hc1 hc2
      obtain ⟨n, hnn⟩ : ∃ n, acc.length = n := ⟨_, rfl⟩
      rw [hnn] at HSo
      have Hnn := hide hnn
      rw [hnn]
      clear hnn
      go_wp2_with fail
      refine (unhide HSo).mono ?_
      rintro e w5 ⟨rfl, L', hp', hsorted, hrow5, hgrow5⟩
      have hLl : L'.length = n := by rw [hp'.length_eq, unhide Hnn]
      have h5 : FSIn w0 w5 fb mb N F next (rowNd (.slice (some ⟨g, 0, none⟩) n cap) L' :: someB w.heap.size :: l2) := by
        unfold rowNd
        rw [hLl]
        exact FSIn.grow [] (unhide HI) hgrow5 hrow5 (.inl rfl)
      have q1 := h5.next1
      have H5 := hide h5
      have Hs := hide hsorted
      have Hp2 := hide (hp'.trans (unhide Hp))
      clear h5 hrow5 hgrow5 hp' hsorted Hp HSo HI hLl Hnn
      go_wp2_with fail
      go_region
      all_goals go_wp2_with fail
      all_goals refine bodyPost_ret (results_tmp2 rfl _ _ _) rfl ?_
      all_goals exact ⟨_, L', rfl, unhide Hp2, unhide Hs, ((unhide H5).forget [_]).drew⟩
    · intro x c kl y1 y2 w2 cnt2 hkey hlk hv hat hrg2 hlt hgr hsz2 hen
      obtain ⟨x', ex, hkl, hwx⟩ := Maps.keyOf_int_inv Tryz.underlying3 hkey
      cases ex
      subst hkl
      have hy : y1 = .held c := by
        have : some ((.held c, []) : DataW Value × List MemPlace) = some (y1, y2) := hv
        exact (congrArg Prod.fst (Option.some.inj this)).symm
      subst hy
      obtain ⟨u, hu, hcu⟩ : ∃ u, findN N x = some u ∧ c = u.val := by
        have hl := fun z => (unhide HM).look x z hwx
        cases hf : findN N x with
        | none =>
          exfalso
          have h1 := hl (.lit (.bool true))
          rw [hat, hf] at h1
          cases h1
        | some u =>
          refine ⟨u, rfl, ?_⟩
          have h1 := hl (.lit (.bool true))
          rw [hat, hf] at h1
          exact DataW.held.inj h1
      subst hcu
      have hid : u.id = x := (findN_some hu).2
      subst hid
      have hmore := (unhide HC3).more hwx hu hlk
      have hsub16 : (acc ++ [u]).length ≤ 16 := by
        have := (nodup_subN hmore.nodup hmore.sub (unhide HN))
        omega
      have h3 := FSIn.turned [_] (unhide HI) hgr
      have hap := h3.apart
      have hlow := h3.low
      have hr3 := h3.rowAt (.head _)
      have hr4 := (hr3.alloc (.cells #[.int .i64 u.id, .int .i64 u.kind, .int .i64 u.up, .int .i64 u.links, .string u.text, .pointer u.ptr] 80)).alloc (.cells #[.int .i64 u.id, .int .i64 u.kind, .int .i64 u.up, .int .i64 u.links, .string u.text] 33)
      have h4 := (h3.alloc (.cells #[.int .i64 u.id, .int .i64 u.kind, .int .i64 u.up, .int .i64 u.links, .string u.text, .pointer u.ptr] 80)).alloc (.cells #[.int .i64 u.id, .int .i64 u.kind, .int .i64 u.up, .int .i64 u.links, .string u.text] 33)
      have hrg4 := (hrg2.alloc (.cells #[.int .i64 u.id, .int .i64 u.kind, .int .i64 u.up, .int .i64 u.links, .string u.text, .pointer u.ptr] 80)).alloc (.cells #[.int .i64 u.id, .int .i64 u.kind, .int .i64 u.up, .int .i64 u.links, .string u.text] 33)
      have hcells := cell_list_new (w2.alloc (.cells #[.int .i64 u.id, .int .i64 u.kind, .int .i64 u.up, .int .i64 u.links, .string u.text, .pointer u.ptr] 80)) [.int .i64 u.id, .int .i64 u.kind, .int .i64 u.up, .int .i64 u.links, .string u.text] 33
      rw [World.size_alloc] at hcells
      have Hr4 := hide hr4
      have H4 := hide h4
      have Hrg4 := hide hrg4
      have Hap := hide hap
      have Hmore := hide hmore
      have Hcl := hide hcells
      obtain ⟨n, hnn⟩ : ∃ n, acc.length = n := ⟨_, rfl⟩
      rw [hnn] at Hr4 hacc
      have Hnn := hide hnn
      unfold NV.val at hen
      clear hkey hv hat hrg2 hgr hsz2 hlk hrg hr3 hr4 h3 h4 hrg4 hap hmore hcells HI HC3 Hrg3 hu hwx hnn
      go_wp2_with (at_builtin; refine wpList_append_own_at _ rfl _ _ 27 rfl w0.heap.size 33 i0 (.agg #[.int .i64 0, .int .i64 0, .int .i64 0, .int .i64 0, .string ⟨#[]⟩]) 5 48 Tryz.underlying27 hi hz0 hz1 hz2 rfl (by decide) _ _ _ rfl (unhide Hr4) ⟨w2.heap.size + 1, 0, none⟩ 1 1 [.int .i64 u.id, .int .i64 u.kind, .int .i64 u.up, .int .i64 u.links, .string u.text] rfl rfl (unhide Hcl) (fun y hy => by simp at hy; rcases hy with rfl | rfl | rfl | rfl | rfl <;> rfl) (by unfold maxLen; omega) (by omega) (by simp; omega) ?_; intro v4 w4 hown4 hgrow4 hnil4 hat4)
      have h5 := FSIn.grow [] (v' := v4) (unhide H4) hgrow4 hown4 (by rcases hat4 with h | h; exact .inl h; exact .inr ⟨_, h, Nat.le_refl _⟩)
      have hrg5 := (unhide Hrg4).kept hgrow4 (unhide Hap).1 (unhide Hap).2
      have H5 : Hid (FSIn w0 w4 fb mb N F next (rowNd v4 (acc ++ [u]) :: someB w.heap.size :: l2)) := by
        show FSIn _ _ _ _ _ _ _ _
        unfold rowNd
        rw [List.length_append, unhide Hnn, flatN_snoc]
        exact h5
      have Hrg5 := hide hrg5
      clear h5 hrg5 hown4 hgrow4 hnil4 hat4 H4 Hrg4 Hr4 Hap Hcl
      go_wp2_with fail
      go_roundg cnt
      case measure => omega
      case rel => exact ⟨acc ++ [u], _, cnt2, hlt, hsub16, Hrg5, H5, Hmore⟩
end Go.Proofs.YtjpmomklkkifjaaGreatDoor.T
