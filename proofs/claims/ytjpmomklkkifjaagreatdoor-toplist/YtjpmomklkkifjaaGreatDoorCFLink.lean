/-
  The contract of FS.within, over the seat's program. What the calls that change folders and files make of them, as plain data; and that nodes and trees go together behind them. Plain facts. The contract of FS.mayGo; a node is laid in the map of nodes, or is gone from it. The contract of FS.Write. The contract of FS.Link.
-/
import Derived.Test.YtjpmomklkkifjaaGreatDoorCFPath
import Derived.Test.YtjpmomklkkifjaaGreatDoorCBMany
namespace Go.Proofs.YtjpmomklkkifjaaGreatDoor.T
open Go.RowKit
set_option maxRecDepth 100000
set_option linter.unusedVariables false
set_option linter.unusedSimpArgs false

/-- Is a folder that one, or in it, at most so many steps up? -/
def withinP (N : List NV) : Nat → Int → Int → Bool
  | 0, _, _ => false
  | n + 1, id, outer => if id == outer then true else withinP N n (atN N id).up outer

theorem field80 (a b c d e f : Value) (W : World) : (Instr.field 80 (.agg #[a, b, c, d, e, f]) 0).run Tryz.prog W = .ok (.agg #[a, b, c, d, e]) W := by kernel_rfl
theorem field33 (a b c d e : Value) (W : World) : (Instr.field 33 (.agg #[a, b, c, d, e]) 2).run Tryz.prog W = .ok c W := by kernel_rfl

variable (w0 w : World) (fb mb : Nat) (N : List NV) (F : Forest) (next : Int) (l2 : List Res)

set_option maxHeartbeats 1000000 in
theorem within_calls (h : FSIn w0 w fb mb N F next l2) (hF : Fits N F next) (id outer : Int) (hi : WfI id) :
    Calls Tryz.prog 61 #[.pointer (some ⟨fb, 0, none⟩), .int .i64 id, .int .i64 outer] w fun e w' => e = .returned (.bool (withinP N N.length id outer)) ∧ w' = w := by
  have q0 := h.map0
  have hlen : ∀ ty, (Builtin.len_ #[75] ty #[.map (some mb)]).run Tryz.prog w = .ok (.int .i64 N.length) w := fun ty => len_run h.mapSat ty
  obtain ⟨r, hr⟩ : ∃ r, withinP N N.length id outer = r := ⟨_, rfl⟩
  have hfew := hF.few
  have Hup : Hid (∀ i, WfI (atN N i).up) := fun i => (hF.vok i).2
  have Hlk : Hid (∀ i, WfI i → (Instr.lookup 75 (.map (some mb)) (.int .i64 i) false).run Tryz.prog w = .ok (atN N i).val w) := fun i hi => h.look hi w rfl
  obtain ⟨n, hn⟩ : ∃ n, N.length = n := ⟨_, rfl⟩
  rw [hn] at hlen hr hfew ⊢
  rw [hr]
  have Hr := hide hr
  have Hi := hide hi
  clear h hF hn hr hi
  go_enter Tryz.func61, Tryz.ntmps61
  go_wp2_with fail
  go_loopg [1, 12] (n + 1) (fun k a i wr => ∃ (j : Nat) (x : Int), j ≤ n ∧ k = n + 1 - j ∧ a = .int .i64 x ∧ i = .int .i64 j ∧ wr = w ∧ Hid (WfI x) ∧ Hid (withinP N (n - j) x outer = r))
  case atStart => exact ⟨0, id, by omega, rfl, rfl, rfl, rfl, Hi, Hr⟩
  case round =>
    obtain ⟨j, x, hj, hk, rfl, rfl, hwr, Hx, Hrx⟩ := hrel
    subst hwr
    by_cases hjn : j < n
    · have hjz : (j : Int) < (n : Int) := by omega
      have hlk := unhide Hlk x (unhide Hx)
      have hs : n - j = (n - (j + 1)) + 1 := by omega
      have Hup2 := hide (unhide Hup x)
      have hst : withinP N (n - j) x outer = if x == outer then true else withinP N (n - (j + 1)) (atN N x).up outer := by rw [hs]; rfl
      generalize atN N x = u at hlk Hup2 hst
      unfold NV.val at hlk
      cases he : (x == outer) with
      | true =>
        have hrr : r = true := by rw [← unhide Hrx, hst, he]; rfl
        subst hrr
        clear hst hs
        go_wp2
        go_ret
        exact ⟨rfl, rfl⟩
      | false =>
        have Hr2 : Hid (withinP N (n - (j + 1)) u.up outer = r) := by
          have h8 := unhide Hrx
          rw [hst, he] at h8
          exact h8
        clear hst hs
        have hf1 := field80 (.int .i64 u.id) (.int .i64 u.kind) (.int .i64 u.up) (.int .i64 u.links) (.string u.text) (.pointer u.ptr) wr
        have hf2 := field33 (.int .i64 u.id) (.int .i64 u.kind) (.int .i64 u.up) (.int .i64 u.links) (.string u.text) wr
        go_wp2
        go_roundg (n - j)
        case measure => omega
        case rel => exact ⟨j + 1, u.up, by omega, by omega, rfl, by simp, rfl, Hup2, Hr2⟩
    · have hjz : ¬ (j : Int) < (n : Int) := by omega
      have hrr : r = false := by rw [← unhide Hrx, show n - j = 0 by omega]; rfl
      subst hrr
      go_wp2
      go_ret
      exact ⟨rfl, rfl⟩
end Go.Proofs.YtjpmomklkkifjaaGreatDoor.T
namespace Go.Proofs.YtjpmomklkkifjaaGreatDoor.T
open Go.RowKit
set_option maxRecDepth 100000
set_option linter.unusedVariables false
set_option linter.unusedSimpArgs false

/-- May an entry go? -/
def mayGoP (N : List NV) (F : Forest) (node kind : Int) : Option Int :=
  if (atN N node).kind ≠ kind then some 7 else if (atN N node).kind = 1 ∧ 0 < (entsOf F (atN N node)).length then some 6 else none
/-- Nodes without an entry of one. -/
def unlinkN (N : List NV) (node : Int) : List NV :=
  if (atN N node).links - 1 < 1 then delN N node else putN N { atN N node with links := (atN N node).links - 1 }
def dropF (F : Forest) (tb : Nat) (key : ByteArray) : Forest := setF F tb (dropL (lookF F tb) key)
def putF (F : Forest) (tb : Nat) (it : Item) : Forest := setF F tb (putL (lookF F tb) it)
/-- The node that has moved. -/
def moveN (N : List NV) (id up : Int) : List NV := if (atN N id).kind = 1 then putN N { atN N id with up := up } else N

theorem mem_putL {it x : Item} : ∀ {l : List Item}, x ∈ putL l it → x = it ∨ x ∈ l
  | [], h => by simp [putL] at h; exact .inl h
  | y :: l, h => by
    unfold putL at h
    split at h
    · rcases List.mem_cons.1 h with h | h
      · exact .inl h
      · exact .inr h
    split at h
    · rcases List.mem_cons.1 h with h | h
      · exact .inl h
      · exact .inr (List.mem_cons_of_mem _ h)
    · rcases List.mem_cons.1 h with h | h
      · exact .inr (by rw [h]; exact List.mem_cons_self)
      · rcases mem_putL h with h | h
        · exact .inl h
        · exact .inr (List.mem_cons_of_mem _ h)
theorem putL_len (it : Item) : ∀ l : List Item, (putL l it).length ≤ l.length + 1
  | [] => by simp [putL]
  | y :: l => by
    unfold putL
    split
    · simp
    split
    · simp
    · have := putL_len it l; simp; omega
theorem dropL_len (l : List Item) (k : ByteArray) : (dropL l k).length ≤ l.length := List.length_filter_le _ _
theorem mem_dropL {l : List Item} {k : ByteArray} {x : Item} (h : x ∈ dropL l k) : x ∈ l := (List.mem_filter.1 h).1
theorem mem_setF {F : Forest} {tb : Nat} {L : List Item} {x : Nat × List Item} (h : x ∈ setF F tb L) : x.2 = L ∨ x ∈ F := by
  obtain ⟨y, hy, he⟩ := List.mem_map.1 h
  split at he
  · exact .inl (by rw [← he])
  · exact .inr (by rw [← he]; exact hy)
theorem lookF_sub {F : Forest} {tb : Nat} (ht : tb ∈ F.map (·.1)) : (tb, lookF F tb) ∈ F := lookF_in ht

/-- No tree has more entries than so many. -/
def Few (k : Nat) (F : Forest) : Prop := ∀ x ∈ F, x.2.length ≤ k
theorem Few.mono {k m : Nat} {F : Forest} (h : Few k F) (hm : k ≤ m) : Few m F := fun x hx => Nat.le_trans (h x hx) hm
theorem Few.look {k : Nat} {F : Forest} (h : Few k F) (tb : Nat) : (lookF F tb).length ≤ k := by
  by_cases ht : tb ∈ F.map (·.1)
  · exact h _ (lookF_in ht)
  · have : lookF F tb = [] := by
      unfold lookF
      cases hf : F.find? (fun x => x.1 == tb) with
      | none => rfl
      | some x => exact absurd (List.mem_map.2 ⟨x, List.mem_of_find?_eq_some hf, by simpa using List.find?_some hf⟩) ht
    rw [this]; exact Nat.zero_le _
theorem Few.set {k m : Nat} {F : Forest} (h : Few k F) (hm : k ≤ m) {tb : Nat} {L : List Item} (hL : L.length ≤ m) : Few m (setF F tb L) := fun x hx => by
  rcases mem_setF hx with h1 | h1
  · rw [h1]; exact hL
  · exact Nat.le_trans (h x h1) hm
theorem Few.put {k : Nat} {F : Forest} (h : Few k F) (tb : Nat) (it : Item) : Few (k + 1) (putF F tb it) := h.set (by omega) (by have := putL_len it (lookF F tb); have := h.look tb; omega)
theorem Few.drop {k : Nat} {F : Forest} (h : Few k F) (tb : Nat) (key : ByteArray) : Few k (dropF F tb key) := h.set (Nat.le_refl _) (by have := dropL_len (lookF F tb) key; have := h.look tb; omega)

variable {N : List NV} {F : Forest} {next : Int}
theorem Fits.set (h : Fits N F next) {tb : Nat} {L : List Item} (h1 : ∀ it ∈ L, 0 ≤ it.node ∧ it.node ≤ 999) (h2 : ∀ it ∈ L, it.key.toList.isEmpty = false) (h3 : L.length ≤ 900) : Fits N (setF F tb L) next := by
  refine ⟨fun v hv hk => ?_, h.few, h.id, h.up, fun x hx it hit => ?_, fun x hx it hit => ?_, h.next, fun x hx => ?_⟩
  · rw [setF_keys]; exact h.tree v hv hk
  · rcases mem_setF hx with e | e
    · exact h1 it (by rw [← e]; exact hit)
    · exact h.ents x e it hit
  · rcases mem_setF hx with e | e
    · exact h2 it (by rw [← e]; exact hit)
    · exact h.full x e it hit
  · rcases mem_setF hx with e | e
    · rw [e]; exact h3
    · exact h.many x e
theorem Fits.put (h : Fits N F next) {tb : Nat} (ht : tb ∈ F.map (·.1)) {it : Item} (h1 : 0 ≤ it.node ∧ it.node ≤ 999) (h2 : it.key.toList.isEmpty = false) {k : Nat} (hk : Few k F) (hk9 : k < 900) : Fits N (putF F tb it) next := by
  refine h.set (fun x hx => ?_) (fun x hx => ?_) ?_
  · rcases mem_putL hx with rfl | hx
    · exact h1
    · exact h.ents _ (lookF_in ht) x hx
  · rcases mem_putL hx with rfl | hx
    · exact h2
    · exact h.full _ (lookF_in ht) x hx
  · have := putL_len it (lookF F tb); have := hk.look tb; omega
theorem Fits.drop (h : Fits N F next) {tb : Nat} (ht : tb ∈ F.map (·.1)) (key : ByteArray) : Fits N (dropF F tb key) next :=
  h.set (fun x hx => h.ents _ (lookF_in ht) x (mem_dropL hx)) (fun x hx => h.full _ (lookF_in ht) x (mem_dropL hx)) (Nat.le_trans (dropL_len _ _) (h.many _ (lookF_in ht)))
theorem mem_putN {v x : NV} (h : x ∈ putN N v) : x = v ∨ x ∈ N := by
  unfold putN at h
  split at h
  · obtain ⟨y, hy, he⟩ := List.mem_map.1 h
    split at he
    · exact .inl he.symm
    · exact .inr (by rw [← he]; exact hy)
  · rcases List.mem_append.1 h with h | h
    · exact .inr h
    · exact .inl (List.mem_singleton.1 h)
theorem Fits.nput (h : Fits N F next) {v : NV} (h1 : v.kind = 1 → ∃ tb, v.tb = some tb ∧ tb ∈ F.map (·.1)) (h2 : 0 ≤ v.id ∧ v.id ≤ 999) (h3 : 0 ≤ v.up ∧ v.up ≤ 999) (h4 : (findN N v.id).isSome = true ∨ N.length < 16) : Fits (putN N v) F next := by
  refine ⟨fun x hx hk => ?_, ?_, fun x hx => ?_, fun x hx => ?_, h.ents, h.full, h.next, h.many⟩
  · rcases mem_putN hx with rfl | hx
    · exact h1 hk
    · exact h.tree x hx hk
  · rw [putN_length]
    have := h.few
    split
    · exact this
    · rename_i hh
      rcases h4 with h4 | h4
      · exact absurd h4 hh
      · omega
  · rcases mem_putN hx with rfl | hx
    · exact h2
    · exact h.id x hx
  · rcases mem_putN hx with rfl | hx
    · exact h3
    · exact h.up x hx
theorem Fits.ndel (h : Fits N F next) (i : Int) : Fits (delN N i) F next := by
  have hm : ∀ {x}, x ∈ delN N i → x ∈ N := fun hx => (List.mem_filter.1 hx).1
  exact ⟨fun x hx hk => h.tree x (hm hx) hk, Nat.le_trans (List.length_filter_le _ _) h.few, fun x hx => h.id x (hm hx), fun x hx => h.up x (hm hx), h.ents, h.full, h.next, h.many⟩
theorem Fits.newTree (h : Fits N F next) (tb : Nat) : Fits N ((tb, []) :: F) next := by
  refine ⟨fun x hx hk => ?_, h.few, h.id, h.up, fun x hx it hit => ?_, fun x hx it hit => ?_, h.next, fun x hx => ?_⟩
  · obtain ⟨t, h1, h2⟩ := h.tree x hx hk
    exact ⟨t, h1, by rw [List.map_cons]; exact List.mem_cons_of_mem _ h2⟩
  · rcases List.mem_cons.1 hx with rfl | hx
    · cases hit
    · exact h.ents x hx it hit
  · rcases List.mem_cons.1 hx with rfl | hx
    · cases hit
    · exact h.full x hx it hit
  · rcases List.mem_cons.1 hx with rfl | hx
    · exact Nat.zero_le _
    · exact h.many x hx
theorem Few.newTree {k : Nat} (h : Few k F) (tb : Nat) : Few k ((tb, []) :: F) := fun x hx => by
  rcases List.mem_cons.1 hx with rfl | hx
  · exact Nat.zero_le _
  · exact h x hx
theorem Fits.next1 (h : Fits N F next) (hn : next ≤ 999) : Fits N F (next + 1) := ⟨h.tree, h.few, h.id, h.up, h.ents, h.full, ⟨by have := h.next.1; omega, by omega⟩, h.many⟩
theorem atN_in {i : Int} (hk : (findN N i).isSome = true) : atN N i ∈ N ∧ (atN N i).id = i := by
  unfold atN
  cases hf : findN N i with
  | none => rw [hf] at hk; cases hk
  | some v => exact findN_some hf
theorem Fits.unlink (h : Fits N F next) (i : Int) (hl : ∀ v ∈ N, 0 ≤ v.links) : Fits (unlinkN N i) F next := by
  unfold unlinkN
  split
  · exact h.ndel i
  · rename_i hlt
    cases hf : findN N i with
    | none =>
      exfalso
      apply hlt
      unfold atN
      rw [hf]
      simp [NV.zero]
    | some v =>
      obtain ⟨h1, h2⟩ := atN_in (N := N) (i := i) (by rw [hf]; rfl)
      exact h.nput (fun hk => h.tree (atN N i) h1 hk) (h.id (atN N i) h1) (h.up (atN N i) h1) (.inl (by simp only; rw [h2, hf]; rfl))
theorem Fits.move (h : Fits N F next) (i up : Int) (hu : 0 ≤ up ∧ up ≤ 999) : Fits (moveN N i up) F next := by
  unfold moveN
  split
  · rename_i hk
    obtain ⟨h1, h2⟩ := atN_mem (N := N) (i := i) rfl (by rw [hk]; decide)
    exact h.nput (fun hk => h.tree (atN N i) h1 hk) (h.id (atN N i) h1) hu (.inl (by simp only; rw [h2]; cases hf : findN N i with | none => (unfold atN at hk; rw [hf] at hk; simp [NV.zero] at hk) | some v => rfl))
  · exact h
end Go.Proofs.YtjpmomklkkifjaaGreatDoor.T
namespace Go.Proofs.YtjpmomklkkifjaaGreatDoor.T
open Go.RowKit
set_option maxRecDepth 100000
set_option linter.unusedVariables false
set_option linter.unusedSimpArgs false

theorem FSIn.mapPut {w0 w : World} {fb mb : Nat} {N : List NV} {F : Forest} {next : Int} {l2 : List Res} (h : FSIn w0 w fb mb N F next l2) (hN : N.length ≤ 1000) (v : NV) (hi : WfI v.id) :
    ∃ w', (Instr.mapUpdate 75 (.map (some mb)) (.int .i64 v.id) v.val).run Tryz.prog w = .ok () w' ∧ FSIn w0 w' fb mb (putN N v) F next l2 := by
  obtain ⟨rs, hr, H⟩ := h
  obtain ⟨w', h1, h2⟩ := Hold.mapPut [.cell fb 77 [.map (some mb), .int .i64 next]] H hN v hi
  exact ⟨w', h1, rs, hr, h2⟩
theorem FSIn.mapDel {w0 w : World} {fb mb : Nat} {N : List NV} {F : Forest} {next : Int} {l2 : List Res} (h : FSIn w0 w fb mb N F next l2) (i : Int) (hi : WfI i) (ty : TypeId) :
    ∃ w', (Builtin.delete_ #[75, 3] ty #[.map (some mb), .int .i64 i]).run Tryz.prog w = .ok (.tuple #[]) w' ∧ FSIn w0 w' fb mb (delN N i) F next l2 := by
  obtain ⟨rs, hr, H⟩ := h
  obtain ⟨w', h1, h2⟩ := Hold.mapDel [.cell fb 77 [.map (some mb), .int .i64 next]] H i hi ty
  exact ⟨w', h1, rs, hr, h2⟩

variable (w0 w : World) (fb mb : Nat) (N : List NV) (F : Forest) (next : Int) (l2 : List Res)

set_option maxHeartbeats 4000000 in
theorem mayGo_calls (h : FSIn w0 w fb mb N F next l2) (hF : Fits N F next) (nm : ByteArray) (nd kind : Int) (hi : WfI nd) :
    Calls Tryz.prog 64 #[.pointer (some ⟨fb, 0, none⟩), .agg #[.string nm, .int .i64 nd], .int .i64 kind] w fun e w' => e = .returned (errV (mayGoP N F nd kind)) ∧ FSIn w0 w' fb mb N F next l2 := by
  obtain ⟨B, hB⟩ : ∃ B, w.heap.size = B := ⟨_, rfl⟩
  have h1 := h.made 38 [.string nm, .int .i64 nd]
  rw [hB] at h1
  obtain ⟨w1, hw1⟩ : ∃ w1, w.alloc (.cells [.string nm, .int .i64 nd].toArray 38) = w1 := ⟨_, rfl⟩
  rw [hw1] at h1
  obtain ⟨C, hC⟩ : ∃ C, w1.heap.size = C := ⟨_, rfl⟩
  have h2 := h1.made 80 [.int .i64 0, .int .i64 0, .int .i64 0, .int .i64 0, .string ⟨#[]⟩, .pointer none]
  rw [hC] at h2
  have q0 := h1.map0
  have q0a : ∀ o, (w1.alloc o).cell? ⟨fb, 0, none⟩ = some (.map (some mb)) := fun o => Lib.cell?_alloc_some o q0
  have e1 : w1.cell? ⟨B, 1, none⟩ = some (.int .i64 nd) := h1.cellAt (.head _) rfl
  have e1a : ∀ o, (w1.alloc o).cell? ⟨B, 1, none⟩ = some (.int .i64 nd) := fun o => Lib.cell?_alloc_some o e1
  have hlk := h1.look hi w1.drew rfl
  have hlka := h2.look hi (w1.alloc (.cells #[.int .i64 0, .int .i64 0, .int .i64 0, .int .i64 0, .string ⟨#[]⟩, .pointer none] 80)).drew rfl
  have hkk : (atN N nd).kind = 1 → ∃ tb, (atN N nd).tb = some tb ∧ tb ∈ F.map (·.1) := (hF.vok nd).1
  have Hm : Hid (mayGoP N F nd kind = if (atN N nd).kind ≠ kind then some 7 else if (atN N nd).kind = 1 ∧ 0 < (entsOf F (atN N nd)).length then some 6 else none) := rfl
  have Hkk := hide hkk
  have Hfw : Hid (∀ tb, (lookF F tb).length ≤ 900) := fun tb => by
    have := (show Few 900 F from hF.many).look tb
    exact this
  have Hfull : Hid (∀ tb, tb ∈ F.map (·.1) → Full (lookF F tb)) := fun tb ht => hF.full _ (lookF_in ht)
  generalize atN N nd = u at hlk hlka Hm Hkk
  have H1 := hide h1
  have HU : Hid (FSIn w0 (w1.alloc (.cells #[.int .i64 u.id, .int .i64 u.kind, .int .i64 u.up, .int .i64 u.links, .string u.text, .pointer u.ptr] 80)).drew fb mb N F next (.cell C 80 [.int .i64 u.id, .int .i64 u.kind, .int .i64 u.up, .int .i64 u.links, .string u.text, .pointer u.ptr] :: .cell B 38 [.string nm, .int .i64 nd] :: l2)) := by
    rw [← hC]; exact (h1.made 80 [.int .i64 u.id, .int .i64 u.kind, .int .i64 u.up, .int .i64 u.links, .string u.text, .pointer u.ptr]).drew
  unfold NV.val at hlk hlka
  clear h h1 h2 hkk hF hi
  go_enter Tryz.func64, Tryz.ntmps64
  go_wp2_with fail
  go_cut [7] from 8 to 14 (fun a7 wc => ∃ nb : Nat, a7 = .pointer (some ⟨nb, 0, none⟩) ∧ Hid (FSIn w0 wc fb mb N F next (.cell nb 80 [.int .i64 u.id, .int .i64 u.kind, .int .i64 u.up, .int .i64 u.links, .string u.text, .pointer u.ptr] :: .cell B 38 [.string nm, .int .i64 nd] :: l2)))
  case first =>
    go_region
    all_goals (go_wp2_with fail; go_meet; exact ⟨_, rfl, HU⟩)
  case rest =>
    obtain ⟨nb, rfl, H3⟩ := hcut
    have h3 := unhide H3
    obtain ⟨k0, k1, k2, k3, k4, k5, f0, f1, f2, f3, f4, f5⟩ := h3.six (b := nb) (.head _)
    clear hlk hlka q0 q0a e1 e1a H1 HU h3
    have hf := fun wx => folder_calls u wx
    unfold NV.val at hf
    by_cases hk : u.kind = kind
    · subst hk
      cases hk1 : (u.kind == 1) with
      | false =>
        rw [hk1] at hf
        have hk1' : ¬ u.kind = 1 := by simpa using hk1
        have hM : mayGoP N F nd u.kind = none := by rw [unhide Hm, if_neg (by simp), if_neg (by simp [hk1'])]
        have HM := hide hM
        have Hf := hide hf
        clear hf hM hk1' Hkk
        go_wp2_with fail
        refine (unhide Hf _).mono ?_
        rintro e w4 ⟨rfl, hb4⟩
        have H4 := hide ((unhide H3).step hb4)
        clear hb4 Hf
        go_wp2_with fail
        go_ret
        exact ⟨by rw [unhide HM]; rfl, ((unhide H4).forget []).forget []⟩
      | true =>
        rw [hk1] at hf
        have hk1' : u.kind = 1 := by simpa using hk1
        obtain ⟨tb, htb, ht⟩ := unhide Hkk hk1'
        have hup : u.ptr = some ⟨tb, 0, none⟩ := by unfold NV.ptr; rw [htb]; rfl
        have hee : entsOf F u = lookF F tb := by unfold entsOf; rw [htb]
        have hM : mayGoP N F nd u.kind = if 0 < (lookF F tb).length then some 6 else none := by rw [unhide Hm, if_neg (by simp), hee]; simp [hk1']
        have hG : ∀ wx l, FSIn w0 wx fb mb N F next l → Calls Tryz.prog 46 #[.pointer (some ⟨tb, 0, none⟩)] wx fun e w' => e = .returned (.int .i64 (lookF F tb).length) ∧ FSIn w0 w' fb mb N F next l := fun wx l hx => by
          obtain ⟨rest, hT, hback⟩ := hx.treeSame ht
          exact (many_calls _ _ _ wx tb _ rest hT (unhide Hfull tb ht) (by have := unhide Hfw tb; omega)).mono fun e w' ⟨he, hT'⟩ => ⟨he, hback w' hT'⟩
        rw [hup] at k5 hf H3
        have HM := hide hM
        have Hf := hide hf
        have HG := hide hG
        have hln := unhide Hfw tb
        obtain ⟨nl, hnl⟩ : ∃ nl, (lookF F tb).length = nl := ⟨_, rfl⟩
        rw [hnl] at HG HM hln
        clear hf hM hk1' Hkk hG htb ht hup hee
        go_wp2_with fail
        refine (unhide Hf _).mono ?_
        rintro e w4 ⟨rfl, hb4⟩
        have h4 := (unhide H3).step hb4
        have k5 := (h4.six (b := nb) (.head _)).2.2.2.2.2.1
        have hg := unhide HG w4 _ h4
        have HG4 := hide hg
        clear hb4 Hf h4 hg HG
        go_wp2_with fail
        refine (unhide HG4).mono ?_
        rintro e w5 ⟨rfl, h5⟩
        have H5 := hide h5
        clear h5 HG4
        by_cases hz : 0 < nl
        · have hz' : (0 : Int) < (nl : Int) := by omega
          have hM := unhide HM
          rw [if_pos hz] at hM
          have HM2 := hide hM
          clear hM HM hnl
          go_wp2_with fail
          go_ret
          exact ⟨by rw [unhide HM2]; rfl, ((unhide H5).forget []).forget []⟩
        · have hz' : ¬ (0 : Int) < (nl : Int) := by omega
          have hM := unhide HM
          rw [if_neg hz] at hM
          have HM2 := hide hM
          clear hM HM hnl
          go_wp2_with fail
          go_ret
          exact ⟨by rw [unhide HM2]; rfl, ((unhide H5).forget []).forget []⟩
    · have hM : mayGoP N F nd kind = some 7 := by rw [unhide Hm, if_pos hk]
      have HM := hide hM
      have hkz : (u.kind == kind) = false := by simpa using hk
      clear hM hf
      go_wp2_with fail
      go_ret
      exact ⟨by rw [unhide HM]; rfl, ((unhide H3).forget []).forget []⟩
end Go.Proofs.YtjpmomklkkifjaaGreatDoor.T
namespace Go.Proofs.YtjpmomklkkifjaaGreatDoor.T
open Go.RowKit
set_option maxRecDepth 100000
set_option linter.unusedVariables false
set_option linter.unusedSimpArgs false

/-- A file's text is written: the error, and the nodes. -/
noncomputable def writeP (N : List NV) (F : Forest) (s t : ByteArray) : Option Int × List NV :=
  if 20 < t.size then (some 2, N) else match fileP N F s with
    | .error k => (some k, N)
    | .ok v => (none, putN N { v with text := t })
theorem fileP_in {N : List NV} {F : Forest} {s : ByteArray} {v : NV} (h : fileP N F s = .ok v) : v ∈ N ∧ v.kind = 2 := by
  unfold fileP at h
  split at h
  · cases h
  rename_i u hu
  split at h
  · cases h
  rename_i hk
  have hk2 : u.kind = 2 := by simpa using hk
  cases h
  obtain ⟨i, hi⟩ := findP_at hu
  exact ⟨(atN_mem hi (by rw [hk2]; decide)).1, hk2⟩

variable (w0 w : World) (fb mb : Nat) (N : List NV) (F : Forest) (next : Int) (l2 : List Res)

set_option maxHeartbeats 4000000 in
theorem write_calls (hR : Ready w0) (h : FSIn w0 w fb mb N F next l2) (hF : Fits N F next) (s t : ByteArray) (hs : s.size ≤ 4000000000) (ht : t.size ≤ 4000000000) :
    Calls Tryz.prog 74 #[.pointer (some ⟨fb, 0, none⟩), .string s, .string t] w fun e w' => e = .returned (errV (writeP N F s t).1) ∧ FSIn w0 w' fb mb (writeP N F s t).2 F next l2 := by
  by_cases h20 : 20 < t.size
  · have hW : writeP N F s t = (some 2, N) := by unfold writeP; rw [if_pos h20]
    rw [hW]
    have hz : (20 : Int) < (t.size : Int) := by omega
    have H := hide h
    clear h hF hR hW
    go_enter Tryz.func74, Tryz.ntmps74
    go_wp2_with fail
    go_ret
    exact ⟨rfl, unhide H⟩
  have hz : ¬ (20 : Int) < (t.size : Int) := by omega
  have hf := file_calls w0 w fb mb N F next l2 hR h hF s hs
  unfold writeP
  rw [if_neg h20]
  have Hin : Hid (∀ v, fileP N F s = .ok v → 0 ≤ v.id ∧ v.id ≤ 999) := fun v hv => hF.id v (fileP_in hv).1
  have HN : Hid (N.length ≤ 1000) := by have := hF.few; show _ ≤ _; omega
  generalize fileP N F s = r at hf Hin ⊢
  cases r with
  | error k =>
    simp only [StepEnd, nodeRet_error] at hf
    have HFl := hide hf
    clear hf h hF hR Hin
    go_enter Tryz.func74, Tryz.ntmps74
    go_wp2_with fail
    refine (unhide HFl).mono ?_
    rintro e w2 ⟨rfl, h2⟩
    have H3 := hide (h2.made 80 [.int .i64 0, .int .i64 0, .int .i64 0, .int .i64 0, .string ⟨#[]⟩, .pointer none])
    clear h2 HFl
    go_wp2_with fail
    go_ret
    exact ⟨rfl, (unhide H3).forget []⟩
  | ok v =>
    simp only [StepEnd, nodeRet_ok] at hf
    have HFl := hide hf
    obtain ⟨i0, i1⟩ := unhide Hin v rfl
    clear hf h hF hR Hin
    go_enter Tryz.func74, Tryz.ntmps74
    go_wp2_with fail
    refine (unhide HFl).mono ?_
    rintro e w2 ⟨rfl, h2⟩
    obtain ⟨C, hC⟩ : ∃ C, w2.heap.size = C := ⟨_, rfl⟩
    have h3 := h2.made 80 [.int .i64 v.id, .int .i64 v.kind, .int .i64 v.up, .int .i64 v.links, .string t, .pointer v.ptr]
    rw [hC] at h3
    obtain ⟨w3, hw3⟩ : ∃ w3, w2.alloc (.cells [.int .i64 v.id, .int .i64 v.kind, .int .i64 v.up, .int .i64 v.links, .string t, .pointer v.ptr].toArray 80) = w3 := ⟨_, rfl⟩
    rw [hw3] at h3
    have q0 := h3.map0
    obtain ⟨n0, n1, n2, n3, n4, n5, _⟩ := h3.six (b := C) (.head _)
    obtain ⟨w4, hput, h4⟩ := h3.drew.mapPut (unhide HN) { v with text := t } (wfI_of (by simp only; omega) (by simp only; omega))
    unfold NV.val NV.ptr at hput
    simp only at hput
    have hput' : Sem.run Tryz.prog (Instr.mapUpdate 75 (.map (some mb)) (.int .i64 v.id) (.agg #[.int .i64 v.id, .int .i64 v.kind, .int .i64 v.up, .int .i64 v.links, .string t, .pointer v.ptr])) w3.drew = .ok () w4 := hput
    have H4 := hide h4
    clear h2 HFl h3 h4 hput
    go_wp2_with fail
    go_region
    all_goals
      go_wp2_with fail
      go_ret
      exact ⟨rfl, (unhide H4).forget []⟩
end Go.Proofs.YtjpmomklkkifjaaGreatDoor.T
namespace Go.Proofs.YtjpmomklkkifjaaGreatDoor.T
open Go.RowKit
set_option maxRecDepth 100000
set_option linter.unusedVariables false
set_option linter.unusedSimpArgs false

def PL.tb (p : PL) : Nat := p.v.tb.getD 0
theorem PlaceOk.tbs {N : List NV} {F : Forest} {p : PL} (h : PlaceOk N F p) : p.v.tb = some p.tb ∧ p.tb ∈ F.map (·.1) := by
  obtain ⟨tb, h1, h2⟩ := h.tree
  unfold PL.tb
  rw [h1]
  exact ⟨rfl, h2⟩
/-- A file has one more entry: the error, the nodes, the trees. -/
noncomputable def linkP (N : List NV) (F : Forest) (s t : ByteArray) : Option Int × List NV × Forest := match fileP N F s with
  | .error k => (some k, N, F)
  | .ok v => match freeP N F t with
    | .error k => (some k, N, F)
    | .ok p => (none, putN N { v with links := v.links + 1 }, putF F p.tb ⟨p.key, p.name, v.id⟩)

variable (w0 w : World) (fb mb : Nat) (N : List NV) (F : Forest) (next : Int) (l2 : List Res)

set_option maxHeartbeats 4000000 in
theorem link_calls (hR : Ready w0) (h : FSIn w0 w fb mb N F next l2) (hF : Fits N F next) (hL : ∀ v ∈ N, 0 ≤ v.links ∧ v.links ≤ 1000000) (s t : ByteArray) (hs : s.size ≤ 4000000000) (ht : t.size ≤ 4000000000) :
    Calls Tryz.prog 75 #[.pointer (some ⟨fb, 0, none⟩), .string s, .string t] w fun e w' => e = .returned (errV (linkP N F s t).1) ∧ FSIn w0 w' fb mb (linkP N F s t).2.1 (linkP N F s t).2.2 next l2 := by
  have hf := file_calls w0 w fb mb N F next l2 hR h hF s hs
  have hg := fun (wx : World) (l : List Res) (hx : FSIn w0 wx fb mb N F next l) => free_calls w0 wx fb mb N F next l hR hx hF t ht
  unfold linkP
  have Hin : Hid (∀ v, fileP N F s = .ok v → 0 ≤ v.id ∧ v.id ≤ 999 ∧ 0 ≤ v.links ∧ v.links ≤ 1000000) := fun v hv => by
    have h1 := (fileP_in hv).1
    have h2 := hF.id v h1
    have h3 := hL v h1
    exact ⟨h2.1, h2.2, h3.1, h3.2⟩
  have HN : Hid (N.length ≤ 1000) := by have := hF.few; show _ ≤ _; omega
  have Hpl : Hid (∀ p, freeP N F t = .ok p → PlaceOk N F p) := fun p hp => (freeP_ok hF hp).1
  generalize fileP N F s = r at hf Hin ⊢
  generalize freeP N F t = r2 at hg Hpl ⊢
  cases r with
  | error k =>
    simp only [StepEnd, nodeRet_error] at hf
    have HFl := hide hf
    clear hf h hF hR Hin hg Hpl hL
    go_enter Tryz.func75, Tryz.ntmps75
    go_wp2_with fail
    refine (unhide HFl).mono ?_
    rintro e w2 ⟨rfl, h2⟩
    have H3 := hide (h2.made 80 [.int .i64 0, .int .i64 0, .int .i64 0, .int .i64 0, .string ⟨#[]⟩, .pointer none])
    clear h2 HFl
    go_wp2_with fail
    go_ret
    exact ⟨rfl, (unhide H3).forget []⟩
  | ok v =>
    simp only [StepEnd, nodeRet_ok] at hf
    have HFl := hide hf
    obtain ⟨i0, i1, i2, i3⟩ := unhide Hin v rfl
    have HG := hide hg
    clear hf h hF hR Hin hg hL
    go_enter Tryz.func75, Tryz.ntmps75
    go_wp2_with fail
    refine (unhide HFl).mono ?_
    rintro e w2 ⟨rfl, h2⟩
    obtain ⟨C, hC⟩ : ∃ C, w2.heap.size = C := ⟨_, rfl⟩
    have h3 := h2.made 80 [.int .i64 v.id, .int .i64 v.kind, .int .i64 v.up, .int .i64 v.links, .string v.text, .pointer v.ptr]
    rw [hC] at h3
    obtain ⟨w3, hw3⟩ : ∃ w3, w2.alloc (.cells [.int .i64 v.id, .int .i64 v.kind, .int .i64 v.up, .int .i64 v.links, .string v.text, .pointer v.ptr].toArray 80) = w3 := ⟨_, rfl⟩
    rw [hw3] at h3
    have hg3 := unhide HG w3 _ h3
    cases r2 with
    | error k =>
      simp only [PlaceEnd, placeRet_error] at hg3
      have HG3 := hide hg3
      clear h2 h3 hg3 HG HFl Hpl
      go_wp2_with fail
      refine (unhide HG3).mono ?_
      rintro e w4 ⟨rfl, h4⟩
      have H5 := hide (h4.made 96 [.int .i64 0, .int .i64 0, .int .i64 0, .int .i64 0, .string ⟨#[]⟩, .pointer none, .string ⟨#[]⟩, .string ⟨#[]⟩])
      clear h4 HG3
      go_wp2_with fail
      go_ret
      exact ⟨rfl, ((unhide H5).forget []).forget []⟩
    | ok p =>
      simp only [PlaceEnd, placeRet_ok] at hg3
      have hpo := unhide Hpl p rfl
      obtain ⟨htb, htf⟩ := hpo.tbs
      have hkey : p.key.toList.isEmpty = false := by rw [hpo.key]; exact key_full hpo.name
      have HG3 := hide hg3
      have Htb := hide htb
      have Htf := hide htf
      have Hkey := hide hkey
      clear h2 h3 hg3 HG HFl Hpl hpo htb htf hkey
      go_wp2_with fail
      refine (unhide HG3).mono ?_
      rintro e w4 ⟨rfl, h4⟩
      obtain ⟨E, hE⟩ : ∃ E, w4.heap.size = E := ⟨_, rfl⟩
      have h5 := h4.made 96 [.int .i64 p.v.id, .int .i64 p.v.kind, .int .i64 p.v.up, .int .i64 p.v.links, .string p.v.text, .pointer p.v.ptr, .string p.key, .string p.name]
      rw [hE] at h5
      obtain ⟨w5, hw5⟩ : ∃ w5, w4.alloc (.cells [.int .i64 p.v.id, .int .i64 p.v.kind, .int .i64 p.v.up, .int .i64 p.v.links, .string p.v.text, .pointer p.v.ptr, .string p.key, .string p.name].toArray 96) = w5 := ⟨_, rfl⟩
      rw [hw5] at h5
      have c3 := (h5.six (b := C) (.tail _ (.head _))).2.2.2.1
      have f3 := h5.frozenAt (b := C) (.tail _ (.head _)) 3
      have h6 := FSIn.store [_] h5 3 (.int .i64 (v.links + 1)) _ rfl
      obtain ⟨w6, hw6⟩ : ∃ w6, w5.setCell ⟨C, 3, none⟩ (.int .i64 (v.links + 1)) = w6 := ⟨_, rfl⟩
      rw [hw6] at h6
      have q0 := h6.map0
      obtain ⟨n0, n1, n2, n3, n4, n5, _⟩ := h6.six (b := C) (.tail _ (.head _))
      obtain ⟨w7, hput, h7⟩ := h6.drew.mapPut (unhide HN) { v with links := v.links + 1 } (wfI_of (by simp only; omega) (by simp only; omega))
      unfold NV.val NV.ptr at hput
      simp only at hput
      have hput' : Sem.run Tryz.prog (Instr.mapUpdate 75 (.map (some mb)) (.int .i64 v.id) (.agg #[.int .i64 v.id, .int .i64 v.kind, .int .i64 v.up, .int .i64 (v.links + 1), .string v.text, .pointer v.ptr])) w6.drew = .ok () w7 := hput
      have hpp := pput_calls w0 w7 fb mb _ F next _ h7 p v.id p.tb (unhide Htb) (unhide Htf) (unhide Hkey)
      unfold PL.val at hpp
      have HPP := hide hpp
      obtain ⟨e0, e1, e2, e3, e4, e5, e6, e7, _⟩ := h7.eight (b := E) (.head _)
      obtain ⟨d0, d1, d2, d3, d4, d5, _⟩ := h7.six (b := C) (.tail _ (.head _))
      clear h4 HG3 h5 h6 h7 hput hpp
      go_wp2_with fail
      go_region
      all_goals
        go_wp2_with fail
        refine (unhide HPP).mono ?_
        rintro e w8 ⟨rfl, h8⟩
        have H8 := hide h8
        clear h8 HPP
        go_wp2_with fail
        go_ret
        exact ⟨rfl, ((unhide H8).forget []).forget []⟩
end Go.Proofs.YtjpmomklkkifjaaGreatDoor.T
