/-
  What Rows leans on: a node, an entry as a row; one row more beside folders and files. The contract of read: a row of a draft. A range over a map of values: what has come so far. A draft whose nodes are marked by the entries that name them; the contract of folder. The contract of link: every node is marked by the entries that name it.
-/
import Derived.Test.YtjpmomklkkifjaaGreatDoorCFListP
import Derived.Test.YtjpmomklkkifjaaGreatDoorCINode
import Derived.Test.YtjpmomklkkifjaaGreatDoorCIEntry
import Derived.Test.YtjpmomklkkifjaaGreatDoorCIDraft2
import Derived.Test.YtjpmomklkkifjaaGreatDoorCFSort
import Derived.Test.YtjpmomklkkifjaaGreatDoorCFNodes2
namespace Go.Proofs.YtjpmomklkkifjaaGreatDoor.T
open Go.RowKit
set_option maxRecDepth 100000
set_option linter.unusedVariables false
set_option linter.unusedSimpArgs false

theorem nodeRow_in (u : NV) (hi : 0 ≤ u.id ∧ u.id < 100) (hp : 0 ≤ u.up ∧ u.up < 100) (hl : 0 ≤ u.links ∧ u.links < 100) (ht : u.text.size ≤ 20) (W : World) :
    Calls Tryz.prog 69 #[.agg #[.int .i64 u.id, .int .i64 u.kind, .int .i64 u.up, .int .i64 u.links, .string u.text]] W fun e w' => e = .returned (.agg #[.string (nodeCh u).key, .string (nodeCh u).val, .bool false]) ∧ Below W.heap.size W w' := by
  have h := nodeRow_calls u.id.toNat u.kind u.up.toNat u.links.toNat u.text (by omega) (by omega) (by omega) (by omega) W
  rw [Int.toNat_of_nonneg hi.1, Int.toNat_of_nonneg hp.1, Int.toNat_of_nonneg hl.1] at h
  exact h
theorem entryRow_in (i : Int) (x : Item) (hi : 0 ≤ i ∧ i < 100) (hn : 0 ≤ x.node ∧ x.node < 100) (hc : checkP x.name = none) (W : World) (hR : Ready W) :
    Calls Tryz.prog 70 #[.int .i64 i, .agg #[.string x.name, .int .i64 x.node]] W fun e w' => e = .returned (.agg #[.string (entCh i x).key, .string (entCh i x).val, .bool false]) ∧ Below W.heap.size W w' := by
  have h := entryRow_calls i.toNat x.node.toNat x.name (by omega) (by omega) hc (by have := keyS_size hc; omega) (by have := name_size hc; omega) W hR
  rw [Int.toNat_of_nonneg hi.1, Int.toNat_of_nonneg hn.1] at h
  exact h

variable {w0 w : World} {fb mb : Nat} {N : List NV} {F : Forest} {next : Int} {l2 : List Res}
theorem FSIn.cellRow {b : Nat} {c : CH} (h : FSIn w0 w fb mb N F next (.cell b 69 (encC c) :: l2)) : FSIn w0 w fb mb N F next (rowCh (.slice (some ⟨b, 0, none⟩) 1 1) [c] :: l2) := by
  refine h.conv (fun x => ?_) fun hs q hq => ?_
  · simp only [total_cons]
    have : (rowCh (.slice (some ⟨b, 0, none⟩) 1 1) [c]).foot x = (Res.cell b 69 (encC c)).foot x := by
      show blkN (.slice (some ⟨b, 0, none⟩) 1 1) x = one b x
      unfold blkN one
      simp [Value.ownBlock, eq_comm]
    omega
  · rcases List.mem_cons.1 hq with rfl | hq
    · obtain ⟨h1, h2⟩ := hs (.cell b 69 (encC c)) (by simp)
      exact ⟨rfl, .inr ⟨b, 1, (encC c).toArray, rfl, h1, h2, Nat.le_refl 1, by decide, rfl, rfl⟩⟩
    · exact hs q (by simp [hq])
theorem FSIn.appC (l1 : List Res) {v : Value} {R : List CH} (h : FSIn w0 w fb mb N F next (l1 ++ rowCh v R :: l2)) {A : Nat} {c : CH} (hc : w.heap[A]? = some (.cells (encC c).toArray 69 (0, 0))) (hn : R.length ≤ 1000) (ty : TypeId) :
    ∃ v' w', (Builtin.append_ #[54, 54] ty #[v, .slice (some ⟨A, 0, none⟩) 1 1]).run Tryz.prog w = .ok v' w' ∧ FSIn w0 w' fb mb N F next (l1 ++ rowCh v' (R ++ [c]) :: l2) := by
  obtain ⟨i0, hi, hz0, hz1, hz2⟩ := info_parts infoChange
  have hv := h.rowAt (v := v) (e := 69) (k := 3) (n := R.length) (xs := flatC R) (by simp [rowCh])
  have hb := h.low
  obtain ⟨v', w', hr, ho, hg, _, ha⟩ := run_append_own_at (P := Tryz.prog) w w0.heap.size 54 ty 69 i0 _ 3 40 Tryz.underlying54 hi hz0 hz1 hz2 rfl (by decide) v _ _ hv ⟨A, 0, none⟩ 1 1 (encC c) rfl (fun j u hj => by
    rw [Addr.add_lit, Nat.zero_add, cell_of_row _ _ j _ 69 (0, 0) hc]
    simpa using hj) (fun u hu => by simp [encC] at hu; rcases hu with rfl | rfl | rfl <;> rfl) (by unfold maxLen; omega) (by omega) hb
  refine ⟨v', w', hr, ?_⟩
  rw [← flatC_snoc] at ho
  have e : R.length + 1 = (R ++ [c]).length := by simp
  rw [e] at ho
  exact FSIn.grow l1 h hg ho (ha.imp id fun h => ⟨_, h, Nat.le_refl _⟩)
theorem total_perm {a b : List Res} (h : a.Perm b) (x : Nat) : total a x = total b x := by
  unfold total
  exact (h.map _).sum_nat
theorem FSIn.perm {l3 : List Res} (h : FSIn w0 w fb mb N F next l2) (hp : l3.Perm l2) : FSIn w0 w fb mb N F next l3 :=
  h.conv (fun x => Nat.le_of_eq (total_perm hp x)) fun hs r hr => hs r (hp.mem_iff.1 hr)
end Go.Proofs.YtjpmomklkkifjaaGreatDoor.T
namespace Go.Proofs.YtjpmomklkkifjaaGreatDoor.T
open Go.RowKit
set_option maxRecDepth 100000
set_option linter.unusedVariables false
set_option linter.unusedSimpArgs false

variable {w0 w w' : World} {db nb eb : Nat} {D : List DN} {E : List DE} {next : Int} {l : List Res}
theorem H0.perm {a b : List Res} (h : H0 w0 w a) (hp : b.Perm a) : H0 w0 w b := Hold.conv h (fun x => Nat.le_of_eq (total_perm hp x)) fun r hr => Hold.sat h r (hp.mem_iff.1 hr)
theorem dfR_front {r : Res} : (dfR db nb eb D E next (r :: l)).Perm (r :: dfR db nb eb D E next l) := by
  have h : dfR db nb eb D E next (r :: l) = (.cell db 119 [.map (some nb), .map (some eb), .int .i64 next] :: .obj nb (P.IsMapP (D.map DN.pv)) :: .obj eb (P.IsMapP (E.map DE.pv)) :: (D.map DN.res ++ E.map DE.res)) ++ r :: l := by simp [dfR]
  have h2 : dfR db nb eb D E next l = (.cell db 119 [.map (some nb), .map (some eb), .int .i64 next] :: .obj nb (P.IsMapP (D.map DN.pv)) :: .obj eb (P.IsMapP (E.map DE.pv)) :: (D.map DN.res ++ E.map DE.res)) ++ l := by simp [dfR]
  rw [h, h2]
  exact List.perm_middle
theorem df_push {r : Res} (h : H0 w0 w (r :: dfR db nb eb D E next l)) : H0 w0 w (dfR db nb eb D E next (r :: l)) := H0.perm h dfR_front
theorem df_pop {r : Res} (h : H0 w0 w (dfR db nb eb D E next (r :: l))) : H0 w0 w (dfR db nb eb D E next l) := by
  have h1 := H0.perm h dfR_front.symm
  exact Hold.conv h1 (fun x => by simp only [total_cons]; omega) fun q hq => Hold.sat h1 q (by simp [hq])
theorem box_cells {b : Nat} {a0 a1 a2 : Value} (h : H0 w0 w (dfR db nb eb D E next (.cell b 69 [a0, a1, a2] :: l))) : w.cell? ⟨b, 0, none⟩ = some a0 ∧ w.cell? ⟨b, 1, none⟩ = some a1 := by
  have hm : Res.cell b 69 [a0, a1, a2] ∈ dfR db nb eb D E next (.cell b 69 [a0, a1, a2] :: l) := by simp [dfR]
  exact ⟨Hold.cellAt h hm rfl, Hold.cellAt h hm rfl⟩
theorem df_next (h : H0 w0 w (dfR db nb eb D E next l)) (n : Int) : H0 w0 (w.setCell ⟨db, 2, none⟩ (.int .i64 n)) (dfR db nb eb D E n l) := Hold.store [] h 2 (.int .i64 n) _ rfl

set_option maxHeartbeats 4000000 in
theorem readNext_calls (h : H0 w0 w (dfR db nb eb D E next l)) (n : Nat) (hn : n < 100) (g : Bool) :
    Calls Tryz.prog 77 #[.pointer (some ⟨db, 0, none⟩), .agg #[.string ⟨#[120]⟩, .string (toldS n), .bool g]] w fun e w' => e = .returned (.bool true) ∧ H0 w0 w' (dfR db nb eb D E n l) := by
  have ha := fun wx => atoi_calls n hn wx
  obtain ⟨s, hs⟩ : ∃ s, toldS n = s := ⟨_, rfl⟩
  rw [hs] at ha ⊢
  obtain ⟨B, hB⟩ : ∃ B, w.heap.size = B := ⟨_, rfl⟩
  have h1 := df_push (Hold.made h (H0.below h).size 69 [.string ⟨#[120]⟩, .string s, .bool g])
  rw [hB] at h1
  obtain ⟨w1, hw1⟩ : ∃ w1, w.alloc (.cells [.string ⟨#[120]⟩, .string s, .bool g].toArray 69) = w1 := ⟨_, rfl⟩
  rw [hw1] at h1
  have hw1' : w.alloc (.cells #[.string ⟨#[120]⟩, .string s, .bool g] 69) = w1 := hw1
  obtain ⟨b0, b1⟩ := box_cells h1
  have HA := hide ha
  have H1 := hide h1
  clear ha h h1 hs hw1
  go_enter Tryz.func77, Tryz.ntmps77
  go_wp2_with fail
  refine (unhide HA _).mono ?_
  rintro e w2 ⟨rfl, hb⟩
  have h3 := H0.step (unhide H1) hb
  obtain ⟨c0, c1, c2, c3⟩ := df_cells h3
  have H4 := hide (df_pop (df_next h3 (n : Int)))
  clear h3 hb HA H1 b0 b1
  go_wp2_with fail
  go_ret
  exact ⟨rfl, unhide H4⟩
set_option maxHeartbeats 4000000 in
theorem readNodeRow_calls (h : H0 w0 w (dfR db nb eb D E next l)) (hD : D.length ≤ 1000) (v : NV) (hi : 0 ≤ v.id ∧ v.id < 100) (hid : v.id ∉ D.map DN.id) (hu : 0 ≤ v.up ∧ v.up < 100) (hl : 0 ≤ v.links ∧ v.links < 100) (ht : v.text.size ≤ 20) (g : Bool) :
    Calls Tryz.prog 77 #[.pointer (some ⟨db, 0, none⟩), .agg #[.string (nodeCh v).key, .string (nodeCh v).val, .bool g]] w fun e w' => e = .returned (.bool true) ∧ ∃ blk, H0 w0 w' (dfR db nb eb (D ++ [⟨blk, v.id, ⟨#[if v.kind = 1 then 100 else 102]⟩, v.up, toldS v.links.toNat ++ v.text, 0, 0⟩]) E next l) := by
  have e1 : (nodeCh v).val = ⟨#[if v.kind = 1 then 100 else 102]⟩ ++ (toldS v.up.toNat ++ (toldS v.links.toNat ++ v.text)) := by
    show ((_ ++ _) ++ _) ++ _ = _
    rw [ByteArray.append_assoc, ByteArray.append_assoc]
  have e2 : (nodeCh v).key = ⟨#[110]⟩ ++ toldS v.id.toNat := rfl
  obtain ⟨k, hk⟩ : ∃ k : UInt8, (if v.kind = 1 then 100 else 102) = k := ⟨_, rfl⟩
  rw [hk] at e1 ⊢
  obtain ⟨tl, htl⟩ : ∃ tl, toldS v.links.toNat ++ v.text = tl := ⟨_, rfl⟩
  have hts : tl.size ≤ 1000 := by rw [← htl, ByteArray.size_append, told_size (by omega)]; omega
  rw [htl] at e1 ⊢
  have hcut := fun wx => cut_yes ⟨#[110]⟩ (toldS v.id.toNat) wx
  have hnum := fun wx => cutNumber_calls v.id.toNat (by omega) ⟨#[]⟩ (by decide) wx
  rw [Int.toNat_of_nonneg hi.1, show toldS v.id.toNat ++ ⟨#[]⟩ = toldS v.id.toNat from bytes_ext (by simp)] at hnum
  have hrn := fun (wx : World) (lx : List Res) (hx : H0 w0 wx (dfR db nb eb D E next lx)) => readNode_calls hx hD v.id (wfI_of (by omega) (by omega)) hid k v.up.toNat (by omega) tl hts
  rw [Int.toNat_of_nonneg hu.1] at hrn
  rw [e2] at *
  rw [← e1] at hrn
  have hx120 : ((⟨#[110]⟩ ++ toldS v.id.toNat : ByteArray).toList == [120]) = false := by
    rw [Lib.toList_data, app_list]
    simp
  obtain ⟨sk, hsk⟩ : ∃ sk, (⟨#[110]⟩ ++ toldS v.id.toNat : ByteArray) = sk := ⟨_, rfl⟩
  obtain ⟨si, hsi⟩ : ∃ si, toldS v.id.toNat = si := ⟨_, rfl⟩
  obtain ⟨sv, hsv⟩ : ∃ sv, (nodeCh v).val = sv := ⟨_, rfl⟩
  rw [hsv] at hrn ⊢
  rw [hsk] at hcut hx120 ⊢
  rw [hsi] at hcut hnum
  obtain ⟨vi, hvi⟩ : ∃ vi, v.id = vi := ⟨_, rfl⟩
  rw [hvi] at hnum hrn ⊢
  obtain ⟨vu, hvu⟩ : ∃ vu, v.up = vu := ⟨_, rfl⟩
  rw [hvu] at hrn ⊢
  obtain ⟨B, hB⟩ : ∃ B, w.heap.size = B := ⟨_, rfl⟩
  have h1 := df_push (Hold.made h (H0.below h).size 69 [.string sk, .string sv, .bool g])
  rw [hB] at h1
  obtain ⟨w1, hw1⟩ : ∃ w1, w.alloc (.cells [.string sk, .string sv, .bool g].toArray 69) = w1 := ⟨_, rfl⟩
  rw [hw1] at h1
  have hw1' : w.alloc (.cells #[.string sk, .string sv, .bool g] 69) = w1 := hw1
  obtain ⟨b0, b1⟩ := box_cells h1
  have HC := hide hcut
  have HN := hide hnum
  have HR := hide hrn
  have H1 := hide h1
  clear hcut hnum hrn h h1 hw1 e1 e2 hk htl hts hsk hsi hsv hvi hvu hi hid hu hl ht
  go_enter Tryz.func77, Tryz.ntmps77
  go_wp2_with fail
  refine (unhide HC _).mono ?_
  rintro e w2 ⟨rfl, rfl⟩
  go_wp2_with fail
  refine (unhide HN _).mono ?_
  rintro e w3 ⟨rfl, hb⟩
  have h3 := H0.step (unhide H1) hb
  obtain ⟨b2, b3⟩ := box_cells h3
  have hr3 := unhide HR _ _ h3
  have HR3 := hide hr3
  clear h3 hb HC HN HR hr3 b0 b1
  go_wp2_with fail
  refine (unhide HR3).mono ?_
  rintro e w4 ⟨rfl, blk, h4⟩
  have H4 := hide (df_pop h4)
  clear h4 HR3 H1
  go_wp2_with fail
  go_ret
  exact ⟨rfl, blk, unhide H4⟩
set_option maxHeartbeats 4000000 in
theorem readEntryRow_calls (hR : Ready w0) (h : H0 w0 w (dfR db nb eb D E next l)) (hf : (E.map DE.folder).Nodup) (hE : E.length ≤ 1000) (hI : ∀ e ∈ E, e.items.length ≤ 1000) (i : Int) (hi : 0 ≤ i ∧ i < 100) (x : Item) (hn : 0 ≤ x.node ∧ x.node < 100) (hc : checkP x.name = none) (g : Bool) :
    Calls Tryz.prog 77 #[.pointer (some ⟨db, 0, none⟩), .agg #[.string (entCh i x).key, .string (entCh i x).val, .bool g]] w fun e w' => e = .returned (.bool true) ∧ ∃ E', EntAdd E E' i x ∧ H0 w0 w' (dfR db nb eb D E' next l) := by
  have e2 : (entCh i x).key = ⟨#[101]⟩ ++ (toldS i.toNat ++ keyS x.name) := by
    show (_ ++ _) ++ _ = _
    rw [ByteArray.append_assoc]
  have hcut := fun wx => cut_yes ⟨#[101]⟩ (toldS i.toNat ++ keyS x.name) wx
  have hnum := fun wx => cutNumber_calls i.toNat (by omega) (keyS x.name) (by have := keyS_size hc; omega) wx
  rw [Int.toNat_of_nonneg hi.1] at hnum
  have hre := fun (wx : World) (lx : List Res) (hx : H0 w0 wx (dfR db nb eb D E next lx)) => readEntry_calls hR hx hf hE hI i (wfI_of (by omega) (by omega)) x.node.toNat (by omega) x.key x.name hc (by have := name_size hc; omega)
  rw [Int.toNat_of_nonneg hn.1] at hre
  have hno := fun wx => cut_no (s := ⟨#[101]⟩ ++ (toldS i.toNat ++ keyS x.name)) (p := ⟨#[110]⟩) (by unfold Lib.hasPrefix; rw [app_list]; simp [List.isPrefixOf]) wx
  have hx120 : ((⟨#[101]⟩ ++ (toldS i.toNat ++ keyS x.name) : ByteArray).toList == [120]) = false := by
    rw [Lib.toList_data, app_list]
    simp
  rw [e2]
  have e3 : (entCh i x).val = toldS x.node.toNat ++ x.name := rfl
  rw [e3]
  obtain ⟨sk, hsk⟩ : ∃ sk, (⟨#[101]⟩ ++ (toldS i.toNat ++ keyS x.name) : ByteArray) = sk := ⟨_, rfl⟩
  obtain ⟨si, hsi⟩ : ∃ si, (toldS i.toNat ++ keyS x.name) = si := ⟨_, rfl⟩
  obtain ⟨sv, hsv⟩ : ∃ sv, toldS x.node.toNat ++ x.name = sv := ⟨_, rfl⟩
  obtain ⟨sy, hsy⟩ : ∃ sy, keyS x.name = sy := ⟨_, rfl⟩
  rw [hsv] at hre ⊢
  rw [hsk] at hcut hno hx120 ⊢
  rw [hsi] at hcut hnum
  rw [hsy] at hnum
  obtain ⟨B, hB⟩ : ∃ B, w.heap.size = B := ⟨_, rfl⟩
  have h1 := df_push (Hold.made h (H0.below h).size 69 [.string sk, .string sv, .bool g])
  rw [hB] at h1
  obtain ⟨w1, hw1⟩ : ∃ w1, w.alloc (.cells [.string sk, .string sv, .bool g].toArray 69) = w1 := ⟨_, rfl⟩
  rw [hw1] at h1
  have hw1' : w.alloc (.cells #[.string sk, .string sv, .bool g] 69) = w1 := hw1
  obtain ⟨b0, b1⟩ := box_cells h1
  have HC := hide hcut
  have HNo := hide hno
  have HN := hide hnum
  have HRe := hide hre
  have H1 := hide h1
  clear hcut hnum hre hno h h1 hw1 e2 e3 hsk hsi hsv hsy hi hn hc hf hE hI
  go_enter Tryz.func77, Tryz.ntmps77
  go_wp2_with fail
  refine (unhide HNo _).mono ?_
  rintro e w2 ⟨rfl, rfl⟩
  go_wp2_with fail
  refine (unhide HC _).mono ?_
  rintro e w2 ⟨rfl, rfl⟩
  go_wp2_with fail
  refine (unhide HN _).mono ?_
  rintro e w3 ⟨rfl, hb⟩
  have h3 := H0.step (unhide H1) hb
  obtain ⟨b2, b3⟩ := box_cells h3
  have hr3 := unhide HRe _ _ h3
  have HR3 := hide hr3
  clear h3 hb HC HN HRe hr3 b0 b1 HNo
  go_wp2_with fail
  refine (unhide HR3).mono ?_
  rintro e w4 ⟨rfl, E', hadd, h4⟩
  have H4 := hide (df_pop h4)
  have Ha := hide hadd
  clear h4 HR3 H1 hadd
  go_wp2_with fail
  go_ret
  exact ⟨rfl, E', unhide Ha, unhide H4⟩
end Go.Proofs.YtjpmomklkkifjaaGreatDoor.T
namespace Go.Proofs.YtjpmomklkkifjaaGreatDoor.T.P
open Go.RowKit
open Go.Maps (Keyed)
open Go.Proofs.YtjpmomklkkifjaaGreatDoor.T
set_option maxRecDepth 100000
set_option linter.unusedVariables false
set_option linter.unusedSimpArgs false

structure Came (N : List PV) (acc : List PV) (left : Lit → Bool) : Prop where
  sub : ∀ u ∈ acc, u ∈ N
  nodup : (acc.map PV.id).Nodup
  left : ∀ i, WfI i → (left (.int .i64 i) = true ↔ (findP N i).isSome = true ∧ i ∉ acc.map PV.id)
variable {N : List PV}
theorem Came.all {acc : List PV} {left : Lit → Bool} (h : Came N acc left) (hn : (N.map PV.id).Nodup) (hw : ∀ v ∈ N, WfI v.id) (h0 : ∀ kl, left kl = false) : acc.Perm N := by
  have hsub : ∀ v ∈ N, v ∈ acc := fun v hv => by
    have h1 := h.left v.id (hw v hv)
    rw [h0] at h1
    have h2 : v.id ∈ acc.map PV.id := by
      apply Classical.byContradiction
      intro hno
      have := h1.2 ⟨by rw [findP_mem hn hv]; rfl, hno⟩
      cases this
    obtain ⟨u, hu, e⟩ := List.mem_map.1 h2
    have : u = v := by
      have a := findP_mem hn (h.sub u hu)
      have b := findP_mem hn hv
      rw [e, b] at a
      exact (Option.some.inj a).symm
    rw [← this]; exact hu
  have hna : acc.Nodup := (List.pairwise_map.1 h.nodup).imp fun hne e => hne (by rw [e])
  have hnN : N.Nodup := (List.pairwise_map.1 hn).imp fun hne e => hne (by rw [e])
  exact (List.perm_ext_iff_of_nodup hna hnN).2 fun v => ⟨fun hv => h.sub v hv, hsub v⟩
theorem Came.more {acc : List PV} {left : Lit → Bool} (h : Came N acc left) {u : PV} (hw : WfI u.id) (hu : findP N u.id = some u) (hl : left (.int .i64 u.id) = true) : Came N (acc ++ [u]) (fun z => left z && !z.sameKey (.int .i64 u.id)) := by
  have h1 := (h.left u.id hw).1 hl
  refine ⟨fun x hx => ?_, ?_, fun i hi => ?_⟩
  · rcases List.mem_append.1 hx with hx | hx
    · exact h.sub x hx
    · rw [List.mem_singleton.1 hx]; exact (findP_some hu).1
  · rw [List.map_append, List.nodup_append]
    refine ⟨h.nodup, by simp, fun a ha b hb e => ?_⟩
    simp at hb
    subst hb
    rw [e] at ha
    exact h1.2 ha
  · have hs : (Lit.int .i64 i).sameKey (.int .i64 u.id) = decide (i = u.id) := by
      simp [Lit.sameKey]
    simp only [hs]
    rw [List.map_append, List.mem_append]
    by_cases e : i = u.id
    · subst e; simp
    · have := h.left i hi
      simp [e, this]

theorem came_start {N : List PV} {D : DataW Value} (hm : MapP N D) : Came N [] (Maps.has D) := ⟨by simp, by simp, fun i hi => by rw [hm.has hi]; simp⟩
theorem nodup_subP {N acc : List PV} (h1 : (acc.map PV.id).Nodup) (h2 : ∀ u ∈ acc, u ∈ N) : acc.length ≤ N.length := by
  have := nodup_sub h1 (m := N.map PV.id) fun x hx => by
    obtain ⟨u, hu, rfl⟩ := List.mem_map.1 hx
    exact List.mem_map.2 ⟨u, h2 u hu, rfl⟩
  rwa [List.length_map, List.length_map] at this
end Go.Proofs.YtjpmomklkkifjaaGreatDoor.T.P
namespace Go.Proofs.YtjpmomklkkifjaaGreatDoor.T
open Go.RowKit
set_option maxRecDepth 100000
set_option linter.unusedVariables false
set_option linter.unusedSimpArgs false

def lastF (A : List (Int × Item)) (i : Int) : Int := A.foldl (fun a p => if p.2.node = i then p.1 else a) 0
theorem lastF_snoc (A : List (Int × Item)) (p : Int × Item) (i : Int) : lastF (A ++ [p]) i = if p.2.node = i then p.1 else lastF A i := by
  unfold lastF
  rw [List.foldl_append]
  rfl
theorem refsE_snoc (A : List (Int × Item)) (p : Int × Item) (i : Int) : refsE (A ++ [p]) i = refsE A i + if p.2.node = i then 1 else 0 := by
  unfold refsE
  rw [List.countP_append, List.countP_cons]
  simp
def mk1 (A : List (Int × Item)) (d : DN) : DN := ⟨d.blk, d.id, d.kind, d.up, d.tail, refsE A d.id, lastF A d.id⟩
def mark (A : List (Int × Item)) (D : List DN) : List DN := D.map (mk1 A)
theorem mark_pv (A : List (Int × Item)) (D : List DN) : (mark A D).map DN.pv = D.map DN.pv := by simp [mark, mk1, DN.pv, Function.comp_def]
theorem mark_nil {D : List DN} (h : ∀ d ∈ D, d.named = 0 ∧ d.fr = 0) : mark [] D = D := by
  unfold mark
  conv => rhs; rw [← List.map_id D]
  refine List.map_congr_left fun d hd => ?_
  obtain ⟨h1, h2⟩ := h d hd
  unfold mk1
  show (⟨d.blk, d.id, d.kind, d.up, d.tail, 0, 0⟩ : DN) = d
  cases d
  simp only at h1 h2
  subst h1 h2
  rfl

variable {w0 w w' : World} {db nb eb : Nat} {D : List DN} {E : List DE} {next : Int} {l : List Res} {A : List (Int × Item)}
theorem find_dn (hn : (D.map DN.id).Nodup) {d : DN} (hd : d ∈ D) : P.findP (D.map DN.pv) d.id = some d.pv := by
  have h1 : ((D.map DN.pv).map P.PV.id).Nodup := by rw [dn_ids]; exact hn
  exact P.findP_mem h1 (List.mem_map.2 ⟨d, hd, rfl⟩)
theorem df_look (h : H0 w0 w (dfR db nb eb (mark A D) E next l)) (hn : (D.map DN.id).Nodup) {d : DN} (hd : d ∈ D) (hi : WfI d.id) :
    (Instr.lookup 116 (.map (some nb)) (.int .i64 d.id) true).run Tryz.prog w = .ok (.tuple #[.pointer (some ⟨d.blk, 0, none⟩), .bool true]) w ∧ (Instr.lookup 116 (.map (some nb)) (.int .i64 d.id) false).run Tryz.prog w = .ok (.pointer (some ⟨d.blk, 0, none⟩)) w := by
  have hs := Hold.sat h (.obj nb (P.IsMapP ((mark A D).map DN.pv))) (by simp [dfR])
  have h1 := P.look116 hs hi
  have h2 := P.look116f hs hi
  rw [mark_pv] at h1 h2
  unfold P.atP at h1 h2
  rw [find_dn hn hd] at h1 h2
  exact ⟨h1, h2⟩
theorem df_dn (h : H0 w0 w (dfR db nb eb (mark A D) E next l)) {d : DN} (hd : d ∈ D) :
    w.cell? ⟨d.blk, 0, none⟩ = some (.string d.kind) ∧ w.cell? ⟨d.blk, 1, none⟩ = some (.int .i64 d.up) ∧ w.cell? ⟨d.blk, 2, none⟩ = some (.string d.tail) ∧ w.cell? ⟨d.blk, 3, none⟩ = some (.int .i64 (refsE A d.id)) ∧ w.cell? ⟨d.blk, 4, none⟩ = some (.int .i64 (lastF A d.id)) ∧ w.frozen? ⟨d.blk, 3, none⟩ = false ∧ w.frozen? ⟨d.blk, 4, none⟩ = false := by
  have hm : Res.cell d.blk 170 [.string d.kind, .int .i64 d.up, .string d.tail, .int .i64 (refsE A d.id), .int .i64 (lastF A d.id)] ∈ dfR db nb eb (mark A D) E next l := by
    unfold dfR
    simp only [List.mem_cons, List.mem_append]
    exact .inr (.inr (.inr (.inl (List.mem_map.2 ⟨mk1 A d, List.mem_map.2 ⟨d, hd, rfl⟩, rfl⟩))))
  exact ⟨Hold.cellAt h hm rfl, Hold.cellAt h hm rfl, Hold.cellAt h hm rfl, Hold.cellAt h hm rfl, Hold.cellAt h hm rfl, Hold.frozenAt h hm _, Hold.frozenAt h hm _⟩
set_option maxHeartbeats 1000000 in
theorem folder_yes (h : H0 w0 w (dfR db nb eb (mark A D) E next l)) (hn : (D.map DN.id).Nodup) {d : DN} (hd : d ∈ D) (hi : WfI d.id) (hk : d.kind = ⟨#[100]⟩) :
    Calls Tryz.prog 119 #[.pointer (some ⟨db, 0, none⟩), .int .i64 d.id] w fun e w' => e = .returned (.bool true) ∧ Below w.heap.size w w' := by
  obtain ⟨c0, _, _, _⟩ := df_cells h
  obtain ⟨hl, _⟩ := df_look h hn hd hi
  have b0 := (df_dn h hd).1
  rw [hk] at b0
  generalize d.id = i at hl ⊢
  generalize d.blk = b at hl b0
  clear h hn hd hi hk
  go_enter Tryz.func119, Tryz.ntmps119
  go_wp2_with fail
  go_ret
  exact ⟨rfl, Below.refl _ _⟩
theorem df_mark (h : H0 w0 w (dfR db nb eb (mark A D) E next l)) (hn : (D.map DN.id).Nodup) {d : DN} (hd : d ∈ D) (p : Int × Item) (hp : p.2.node = d.id) :
    H0 w0 ((w.setCell ⟨d.blk, 3, none⟩ (.int .i64 (refsE A d.id + 1))).setCell ⟨d.blk, 4, none⟩ (.int .i64 p.1)) (dfR db nb eb (mark (A ++ [p]) D) E next l) := by
  obtain ⟨D1, D2, rfl⟩ := List.append_of_mem hd
  have hn2 := List.nodup_append.1 (by simpa using hn : (D1.map DN.id ++ d.id :: D2.map DN.id).Nodup)
  have e1 : mark (A ++ [p]) D1 = mark A D1 := List.map_congr_left fun x hx => by
    have : x.id ≠ d.id := hn2.2.2 x.id (List.mem_map.2 ⟨x, hx, rfl⟩) d.id (by simp)
    unfold mk1
    rw [refsE_snoc, lastF_snoc, if_neg (by rw [hp]; exact fun e => this e.symm), if_neg (by rw [hp]; exact fun e => this e.symm)]
    rfl
  have e2 : mark (A ++ [p]) D2 = mark A D2 := List.map_congr_left fun x hx => by
    have : x.id ≠ d.id := fun e => (List.nodup_cons.1 hn2.2.1).1 (by rw [← e]; exact List.mem_map.2 ⟨x, hx, rfl⟩)
    unfold mk1
    rw [refsE_snoc, lastF_snoc, if_neg (by rw [hp]; exact fun e => this e.symm), if_neg (by rw [hp]; exact fun e => this e.symm)]
    rfl
  have e3 : mk1 (A ++ [p]) d = ⟨d.blk, d.id, d.kind, d.up, d.tail, refsE A d.id + 1, p.1⟩ := by
    unfold mk1
    rw [refsE_snoc, lastF_snoc, if_pos hp, if_pos hp]
    simp
  have h1 : H0 w0 w ((.cell db 119 [.map (some nb), .map (some eb), .int .i64 next] :: .obj nb (P.IsMapP ((D1 ++ d :: D2).map DN.pv)) :: .obj eb (P.IsMapP (E.map DE.pv)) :: (mark A D1).map DN.res) ++ .cell d.blk 170 [.string d.kind, .int .i64 d.up, .string d.tail, .int .i64 (refsE A d.id), .int .i64 (lastF A d.id)] :: ((mark A D2).map DN.res ++ (E.map DE.res ++ l))) := by
    have h2 := h
    unfold dfR at h2
    rw [mark_pv] at h2
    have e4 : (mark A (D1 ++ d :: D2)).map DN.res = (mark A D1).map DN.res ++ .cell d.blk 170 [.string d.kind, .int .i64 d.up, .string d.tail, .int .i64 (refsE A d.id), .int .i64 (lastF A d.id)] :: (mark A D2).map DN.res := by
      simp [mark, DN.res, DN.cells, mk1]
    rw [e4] at h2
    simpa using h2
  have h3 := Hold.store _ h1 3 (.int .i64 (refsE A d.id + 1)) [.string d.kind, .int .i64 d.up, .string d.tail, .int .i64 (refsE A d.id + 1), .int .i64 (lastF A d.id)] rfl
  have h4 := Hold.store _ h3 4 (.int .i64 p.1) [.string d.kind, .int .i64 d.up, .string d.tail, .int .i64 (refsE A d.id + 1), .int .i64 p.1] rfl
  unfold dfR
  rw [mark_pv]
  have e5 : (mark (A ++ [p]) (D1 ++ d :: D2)).map DN.res = (mark A D1).map DN.res ++ .cell d.blk 170 [.string d.kind, .int .i64 d.up, .string d.tail, .int .i64 (refsE A d.id + 1), .int .i64 p.1] :: (mark A D2).map DN.res := by
    have : mark (A ++ [p]) (D1 ++ d :: D2) = mark (A ++ [p]) D1 ++ mk1 (A ++ [p]) d :: mark (A ++ [p]) D2 := by simp [mark]
    rw [this, e1, e2, e3]
    simp [DN.res, DN.cells]
  rw [e5]
  simpa using h4
end Go.Proofs.YtjpmomklkkifjaaGreatDoor.T
namespace Go.Proofs.YtjpmomklkkifjaaGreatDoor.T
open Go.RowKit
open Go.Maps (Keyed)
set_option maxRecDepth 100000
set_option linter.unusedVariables false
set_option linter.unusedSimpArgs false

variable {w0 w w' : World} {db nb eb : Nat} {D : List DN} {E : List DE} {next : Int} {l : List Res} {A : List (Int × Item)}
def tagsOf (E : List DE) : List (Int × Item) := E.flatMap fun e => tagE e.folder e.items
theorem H0.foundObj {rs : List Res} (h : H0 w0 w rs) (hb : Below w.heap.size w w') {b : Nat} (h1 : w.heap.size ≤ b) (h2 : b < w'.heap.size) : H0 w0 w' (someB b :: rs) := by
  have hs := (H0.below h).size
  exact Hold.new (r := someB b) h (Kept.of_below hb) ⟨by omega, _, Array.getElem?_eq_getElem h2, trivial⟩ (fun x hx => by obtain rfl := one_pos.1 hx; exact h1) (one_le b)
theorem H0.turned (l1 : List Res) {b : Nat} {l2 : List Res} (h : H0 w0 w (l1 ++ someB b :: l2)) (hg : w.grownBy w' (some b)) : H0 w0 w' (l1 ++ someB b :: l2) := by
  have hs := Hold.sat h (someB b) (by simp)
  obtain ⟨hb1, o, ho, _⟩ := hs
  have hlt : b < w.heap.size := (Array.getElem?_eq_some_iff.1 ho).1
  exact Hold.put _ h ((Kept.refl _ w).grown hg fun x hx _ => by cases hx; show 0 < one b b; rw [one_self]; decide) ⟨hb1, _, Array.getElem?_eq_getElem (Nat.lt_of_lt_of_le hlt hg.size), trivial⟩ (fun x _ => Nat.le_refl _) (one_le b)
theorem df_apart {rb : Nat} (h : H0 w0 w (someB rb :: dfR db nb eb (mark A D) E next l)) {d : DN} (hd : d ∈ D) : eb ≠ d.blk ∧ rb ≠ d.blk ∧ eb ≠ rb := by
  have hm : 1 ≤ total ((mark A D).map DN.res) d.blk := by
    have h1 : DN.res (mk1 A d) ∈ (mark A D).map DN.res := List.mem_map.2 ⟨_, List.mem_map.2 ⟨d, hd, rfl⟩, rfl⟩
    have h2 := total_mem h1 d.blk
    have h3 : (DN.res (mk1 A d)).foot d.blk = 1 := by show one d.blk d.blk = 1; exact one_self _
    omega
  refine ⟨fun e => ?_, fun e => ?_, fun e => ?_⟩
  · have := Hold.uniq h d.blk
    simp only [dfR, total_cons, total_append] at this
    have h4 : (Res.obj eb (P.IsMapP (E.map DE.pv))).foot d.blk = 1 := by rw [e]; exact one_self _
    omega
  · have := Hold.uniq h d.blk
    simp only [dfR, total_cons, total_append] at this
    have h4 : (someB rb).foot d.blk = 1 := by rw [e]; exact one_self _
    omega
  · have := Hold.uniq h rb
    simp only [dfR, total_cons, total_append] at this
    have h4 : (Res.obj eb (P.IsMapP (E.map DE.pv))).foot rb = 1 := by rw [e]; exact one_self _
    have h5 : (someB rb).foot rb = 1 := one_self _
    omega
theorem nodup_inj {α β : Type} (f : α → β) : ∀ {L : List α}, (L.map f).Nodup → ∀ {a b : α}, a ∈ L → b ∈ L → f a = f b → a = b
  | [], _, a, b, ha, _, _ => by cases ha
  | x :: L, hn, a, b, ha, hb, e => by
    rw [List.map_cons, List.nodup_cons] at hn
    rcases List.mem_cons.1 ha with ha | ha <;> rcases List.mem_cons.1 hb with hb | hb
    · rw [ha, hb]
    · exact absurd (List.mem_map.2 ⟨b, hb, by rw [← e, ha]⟩) hn.1
    · exact absurd (List.mem_map.2 ⟨a, ha, by rw [e, hb]⟩) hn.1
    · exact nodup_inj f hn.2 ha hb e
theorem df_mem {e : DE} (he : e ∈ E) : rowE e.v e.items ∈ dfR db nb eb D E next l := by
  unfold dfR
  simp only [List.mem_cons, List.mem_append]
  exact .inr (.inr (.inr (.inr (.inl (List.mem_map.2 ⟨e, he, rfl⟩)))))
theorem tags_len : ∀ (F : List DE), (∀ e ∈ F, e.items.length ≤ 1000) → (tagsOf F).length ≤ F.length * 1000
  | [], _ => by simp [tagsOf]
  | e :: F, h => by
    have h1 := tags_len F fun x hx => h x (List.mem_cons_of_mem _ hx)
    have h2 := h e List.mem_cons_self
    have h3 : tagsOf (e :: F) = tagE e.folder e.items ++ tagsOf F := rfl
    rw [h3, List.length_append, List.length_cons, Nat.add_mul]
    have h4 : (tagE e.folder e.items).length = e.items.length := by simp [tagE]
    omega
theorem refs_le (A : List (Int × Item)) (i : Int) : refsE A i ≤ A.length := List.countP_le_length
theorem df_pop' {r : Res} (h : H0 w0 w (dfR db nb eb D E next (r :: l))) : H0 w0 w (r :: dfR db nb eb D E next l) := H0.perm h dfR_front.symm
theorem mark_perm {A B : List (Int × Item)} (h : A.Perm B) (i : Int) : refsE A i = refsE B i := by unfold refsE; exact h.countP_eq _
theorem take_snoc {α : Type} {L : List α} {j : Nat} {x : α} (h : L[j]? = some x) : L.take (j + 1) = L.take j ++ [x] := by rw [List.take_add_one, h]; rfl

set_option maxHeartbeats 16000000 in
theorem dlink_calls (h : H0 w0 w (dfR db nb eb (mark [] D) E next l)) (hn : (D.map DN.id).Nodup) (hD : ∀ d ∈ D, WfI d.id) (hE : (E.map DE.folder).Nodup) (hE1 : E.length ≤ 1000) (hI : ∀ e ∈ E, e.items.length ≤ 1000)
    (hf : ∀ e ∈ E, WfI e.folder ∧ ∃ d ∈ D, d.id = e.folder ∧ d.kind = ⟨#[100]⟩) (hx : ∀ e ∈ E, ∀ x ∈ e.items, x.node ≠ 1 ∧ ∃ d ∈ D, d.id = x.node) (hcnt : (tagsOf E).length ≤ 1000) :
    Calls Tryz.prog 78 #[.pointer (some ⟨db, 0, none⟩)] w fun e w' => e = .returned (.bool true) ∧ ∃ A, A.Perm (tagsOf E) ∧ H0 w0 w' (dfR db nb eb (mark A D) E next l) := by
  obtain ⟨c0, c1, _, _⟩ := df_cells h
  obtain ⟨M, hown, hm⟩ := P.sat_owns (Hold.sat h (.obj eb (P.IsMapP (E.map DE.pv))) (by simp [dfR]))
  rw [List.length_map] at hown
  have hmn : ((E.map DE.pv).map P.PV.id).Nodup := by rw [de_ids]; exact hE
  have hmw : ∀ v ∈ E.map DE.pv, WfI v.id := fun v hv => by
    obtain ⟨e, he, rfl⟩ := List.mem_map.1 hv
    exact (hf e he).1
  have HCm := hide (P.came_start hm)
  have Hsz : Hid (Maps.size M = E.length) := by show _ = _; rw [hm.size, List.length_map]
  have HM := hide hm
  have H1 := hide h
  have Hmn := hide hmn
  have Hmw := hide hmw
  have HN := hide hn
  have HDw := hide hD
  have HI := hide hI
  have HF := hide hf
  have HX := hide hx
  clear h hn hD hE hI hf hx hm hmn hmw c0
  go_enter Tryz.func78, Tryz.ntmps78
  go_wp2_with (first | (at_range; refine wpList_range_own _ rfl _ 117 rfl 3 30 kI Tryz.underlying117 Rv eb _ M rfl hown ?_; intro w1 hrg1 hg1 hs1) | go_in)
  go_frame
  have hb1 : Below w.heap.size w w1 := (Below.refl _ w).grown hg1 (Nat.le_refl _) (fun j hj => by cases hj)
  have h2 := H0.foundObj (unhide H1) hb1 (b := w.heap.size) (Nat.le_refl _) (by omega)
  have H2 := hide h2
  have Hrg := hide hrg1
  clear h2 hb1 hg1 hs1 hown hrg1 c1 H1
  go_wp2_with fail
  go_loopg [3] (E.length + 1) (fun k v3 wr => ∃ (acc : List P.PV) (left : Lit → Bool) (cnt : Nat), cnt < k ∧ Hid (wr.ranges Tryz.prog 3 Rv eb w.heap.size E.length M left cnt) ∧ Hid (P.Came (E.map DE.pv) acc left) ∧ Hid (∃ F : List DE, acc = F.map DE.pv ∧ (∀ e ∈ F, e ∈ E) ∧ H0 w0 wr (someB w.heap.size :: dfR db nb eb (mark (tagsOf F) D) E next l)))
  case atStart => exact ⟨[], _, _, by have := unhide Hsz; omega, Hrg, HCm, [], rfl, by simp, unhide H2⟩
  case round =>
    obtain ⟨acc, left, cnt, hk, Hrg3, HC3, HI3⟩ := hrel
    clear Hrg H2 HCm Hsz
    have hrg := unhide Hrg3
    obtain ⟨F, hF, hFE, hI3⟩ := unhide HI3
    have HFm := hide hF
    have HFE := hide hFE
    have H3 := hide hI3
    clear hF hFE hI3 HI3
    go_wp2_with (first | (at_next; refine wpList_next_ranges _ rfl _ rfl 3 kI Rv (Value.int .i64) id (fun key kl hkey => (by obtain ⟨x, hx, _⟩ := Maps.keyOf_int_inv Tryz.underlying3 hkey; exact ⟨x, hx⟩)) (fun v y hv => ⟨v, rfl⟩) eb w.heap.size E.length M left cnt rfl hrg ?_ ?_) | go_in)
    · intro hc0 hl0
      have hperm := P.Came.all (unhide HC3) (unhide Hmn) (unhide Hmw) hl0
      rw [unhide HFm] at hperm
      have hfn : (F.map DE.folder).Nodup := by
        have := hperm.map P.PV.id
        rw [de_ids, de_ids] at this
        exact this.nodup_iff.2 (by have := unhide Hmn; rw [de_ids] at this; exact this)
      have hen : (E.map DE.folder).Nodup := by have := unhide Hmn; rw [de_ids] at this; exact this
      have hFn : F.Nodup := (List.pairwise_map.1 hfn).imp fun hne e => hne (by rw [e])
      have hEn : E.Nodup := (List.pairwise_map.1 hen).imp fun hne e => hne (by rw [e])
      have hFEp : F.Perm E := (List.perm_ext_iff_of_nodup hFn hEn).2 fun e => ⟨unhide HFE e, fun he => by
        have h1 : e.pv ∈ F.map DE.pv := hperm.mem_iff.2 (List.mem_map.2 ⟨e, he, rfl⟩)
        obtain ⟨e2, he2, e3⟩ := List.mem_map.1 h1
        have h4 : e2.folder = e.folder := congrArg P.PV.id e3
        have : e2 = e := nodup_inj DE.folder hen (unhide HFE e2 he2) he h4
        rw [← this]; exact he2⟩
      have Hp : Hid ((tagsOf F).Perm (tagsOf E)) := hFEp.flatMap_right _
      clear hperm hfn hen hFn hEn hFEp hc0 hl0 hrg
      go_wp2_with fail
      go_ret
      exact ⟨rfl, _, unhide Hp, Hold.conv (unhide H3) (fun x => by simp only [total_cons]; omega) fun r hr => Hold.sat (unhide H3) r (by simp [hr])⟩
    · intro x c kl y1 y2 w2 cnt2 hkey hlk hv hat hrg2 hlt hgr hsz2 hen
      obtain ⟨x', ex, hkl, hwx⟩ := Maps.keyOf_int_inv Tryz.underlying3 hkey
      cases ex
      subst hkl
      have hy : y1 = .held c := by
        have : some ((.held c, []) : DataW Value × List MemPlace) = some (y1, y2) := hv
        exact (congrArg Prod.fst (Option.some.inj this)).symm
      subst hy
      obtain ⟨u, hu, hcu⟩ : ∃ u, P.findP (E.map DE.pv) x = some u ∧ c = u.val := by
        have hl := fun z => (unhide HM).look x z hwx
        cases hf : P.findP (E.map DE.pv) x with
        | none =>
          exfalso
          have h1 := hl (.lit (.bool true))
          rw [hat, hf] at h1
          cases h1
        | some u =>
          refine ⟨u, rfl, ?_⟩
          have h1 := hl (.lit (.bool true))
          rw [hat, hf] at h1
          exact DataW.held.inj h1
      subst hcu
      have hmore := P.Came.more (unhide HC3) (u := u) (by rw [(P.findP_some hu).2]; exact hwx) (by rw [(P.findP_some hu).2]; exact hu) (by rw [(P.findP_some hu).2]; exact hlk)
      obtain ⟨e, he, rfl⟩ := List.mem_map.1 (P.findP_some hu).1
      have hex : e.folder = x := (P.findP_some hu).2
      subst hex
      have h3 : H0 w0 w2 (someB w.heap.size :: dfR db nb eb (mark (tagsOf F) D) E next l) := H0.turned [] (unhide H3) hgr
      have hev : e.pv.val = e.v := rfl
      obtain ⟨hwf, d, hd, hdi, hdk⟩ := unhide HF e he
      have hfo := folder_yes (df_push h3) (unhide HN) hd (unhide HDw d hd) hdk
      rw [hdi] at hfo
      have heb : eb < w2.heap.size := hrg2.owns.lt
      have hrb : w.heap.size < w2.heap.size := hrg2.lt
      have hrow0 : w2.ownsRow w0.heap.size 38 2 e.v e.items.length (flatE e.items) := Hold.sat h3 (rowE e.v e.items) (.tail _ (df_mem he))
      obtain ⟨p0, c0, hsl⟩ := row_cut hrow0
      obtain ⟨m, hm⟩ : ∃ m, e.items.length = m := ⟨_, rfl⟩
      have Hm := hide hm
      have hm1000 : m ≤ 1000 := by rw [← hm]; exact unhide HI e he
      rw [hm] at hsl
      have hAl : (tagsOf F).length ≤ 1000 * 1000 := by
        have h1 := tags_len F fun x hx => unhide HI x (unhide HFE x hx)
        have h2 := P.nodup_subP (unhide HC3).nodup (unhide HC3).sub
        rw [unhide HFm, List.length_map, List.length_map] at h2
        omega
      have Hmore : Hid (P.Came (E.map DE.pv) (acc ++ [e.pv]) (fun z => left z && !z.sameKey (.int .i64 e.folder))) := hmore
      have H4 := hide h3
      have Hfo := hide hfo
      have Hrg2 := hide hrg2
      have He := hide he
      rw [hev, hsl] at hen
      have Hsl := hide hsl
      clear hkey hlk hv hat hrg2 hgr hsz2 hrg hmore h3 hfo HC3 Hrg3 hu hwx hd hdi hdk hwf he hev hsl H3 hrow0 hm
      go_wp2_with fail
      refine (unhide Hfo).mono ?_
      rintro e4 w4 ⟨rfl, hb4⟩
      have h4 := H0.step (unhide H4) hb4
      have hrg4 := ranges_same (unhide Hrg2) (hb4.block eb heb) (hb4.block _ hrb)
      have heb4 : eb < w4.heap.size := Nat.lt_of_lt_of_le heb hb4.size
      have hrb4 : w.heap.size < w4.heap.size := Nat.lt_of_lt_of_le hrb hb4.size
      have Hrg4 := hide hrg4
      have H5 : Hid (H0 w0 w4 (someB w.heap.size :: dfR db nb eb (mark (tagsOf F ++ tagE e.folder (e.items.take 0)) D) E next l)) := by
        rw [List.take_zero]
        show H0 w0 w4 (someB w.heap.size :: dfR db nb eb (mark (tagsOf F ++ []) D) E next l)
        rw [List.append_nil]
        exact h4
      clear h4 hrg4 hb4 Hfo H4 Hrg2 heb hrb
      go_wp2_with fail
      go_loopg [25] (m + 1) (fun k2 v25 wr2 => ∃ i : Nat, m - i < k2 ∧ i ≤ m ∧ v25 = .int .i64 i ∧ eb < wr2.heap.size ∧ w.heap.size < wr2.heap.size ∧ Hid (wr2.ranges Tryz.prog 3 Rv eb w.heap.size E.length M (fun z => left z && !z.sameKey (.int .i64 e.folder)) cnt2) ∧ Hid (H0 w0 wr2 (someB w.heap.size :: dfR db nb eb (mark (tagsOf F ++ tagE e.folder (e.items.take i)) D) E next l)))
      case atStart => exact ⟨0, by omega, by omega, rfl, heb4, hrb4, Hrg4, H5⟩
      case round =>
        obtain ⟨i, hk2, hi, rfl, heb5, hrb5, Hrg5, HJ⟩ := hrel
        clear H5 Hrg4 heb4 hrb4
        by_cases him : i < m
        · have hiz : (i : Int) < (m : Int) := by omega
          have hil : i < e.items.length := by rw [unhide Hm]; exact him
          obtain ⟨x, hx⟩ : ∃ x, e.items[i]? = some x := ⟨e.items[i], by simp [hil]⟩
          obtain ⟨hx1, d2, hd2, hdi2⟩ := unhide HX e (unhide He) x (List.mem_of_getElem? hx)
          have hj := unhide HJ
          have hrow : wr.ownsRow w0.heap.size 38 2 e.v e.items.length (flatE e.items) := Hold.sat hj (rowE e.v e.items) (.tail _ (df_mem (unhide He)))
          rw [unhide Hsl, unhide Hm] at hrow
          obtain ⟨g, cap, e5, _⟩ := row_shape hrow (by omega)
          injection e5 with e5 _ e6
          subst e5 e6
          obtain ⟨r0, r1⟩ := entry_cell hrow hx
          have hz1 : (x.node == 1) = false := by simpa using hx1
          have hA1 : (tagsOf F ++ tagE e.folder (e.items.take i)).length ≤ 1001000 := by
            rw [List.length_append]
            have : (tagE e.folder (e.items.take i)).length ≤ i := by simp [tagE]; omega
            omega
          have hrefs := refs_le (tagsOf F ++ tagE e.folder (e.items.take i)) d2.id
          obtain ⟨xn, hxn⟩ : ∃ xn, x.node = xn := ⟨_, rfl⟩
          obtain ⟨xs, hxs⟩ : ∃ xs, x.name = xs := ⟨_, rfl⟩
          rw [hxn] at r1 hz1 hdi2
          rw [hxs] at r0
          have hj2 := H0.step hj ((Below.refl _ wr).alloc (Nat.le_refl _) (.cells #[.string xs, .int .i64 xn] 38))
          have hrg6 := (unhide Hrg5).alloc (.cells #[.string xs, .int .i64 xn] 38)
          obtain ⟨w6, hw6⟩ : ∃ w6, wr.alloc (.cells #[.string xs, .int .i64 xn] 38) = w6 := ⟨_, rfl⟩
          have hsz6 : wr.heap.size + 1 = w6.heap.size := by rw [← hw6, World.size_alloc]
          have x0 : w6.cell? ⟨wr.heap.size, 0, none⟩ = some (.string xs) := by rw [← hw6]; exact cell_list_new wr [.string xs, .int .i64 xn] 38 0 _ rfl
          have x1 : w6.cell? ⟨wr.heap.size, 1, none⟩ = some (.int .i64 xn) := by rw [← hw6]; exact cell_list_new wr [.string xs, .int .i64 xn] 38 1 _ rfl
          rw [hw6] at hj2 hrg6
          have hl1 := (df_look (df_push (Hold.drew hj2)) (unhide HN) hd2 (unhide HDw d2 hd2)).1
          have hdn := df_dn (df_push hj2) hd2
          have s3 := hdn.2.2.2.1
          have s4 := hdn.2.2.2.2.1
          have f3 := hdn.2.2.2.2.2.1
          have f4 := hdn.2.2.2.2.2.2
          have k0 := (df_cells (df_push hj2)).1
          have hm1 := df_pop' (df_mark (df_push hj2) (unhide HN) hd2 (e.folder, x) (hxn.trans hdi2.symm))
          have htk : tagsOf F ++ tagE e.folder (e.items.take (i + 1)) = (tagsOf F ++ tagE e.folder (e.items.take i)) ++ [(e.folder, x)] := by
            rw [take_snoc hx, List.append_assoc]
            unfold tagE
            rw [List.map_append]
            rfl
          have hap := df_apart hj hd2
          rw [← htk] at hm1
          rw [hdi2] at hl1
          generalize lastF (tagsOf F ++ tagE e.folder (e.items.take i)) d2.id = lf at s4
          generalize refsE (tagsOf F ++ tagE e.folder (e.items.take i)) d2.id = rf at s3 hrefs hm1
          obtain ⟨b2, hb2⟩ : ∃ b2, d2.blk = b2 := ⟨_, rfl⟩
          rw [hb2] at hl1 s3 s4 f3 f4 hm1 hap
          have Hm1 := hide hm1
          have Hrg6 := hide hrg6
          have Hap := hide hap
          have Hsz6 := hide hsz6
          have hrz : ¬ (9223372036854775807 : Int) < (rf : Int) + 1 := by omega
          have hrz2 : ¬ ((rf : Int) + 1 < -9223372036854775808) := by omega
          clear hj hrow hj2 hm1 hrg6 hap hd2 hdi2 hx hil htk HJ Hrg5 hx1 hxn hxs hb2 hA1 hrefs hdn hsz6
          go_wp2_with fail
          go_region
          all_goals
            go_wp2_with fail
            go_roundg (m - i)
            case measure => omega
            case rel => exact ⟨i + 1, by omega, by omega, by simp, by have := unhide Hsz6; simp; omega, by have := unhide Hsz6; simp; omega, ranges_same (ranges_same (unhide Hrg6) (Below.heap_setCell _ ⟨b2, 3, none⟩ _ eb (unhide Hap).1) (Below.heap_setCell _ ⟨b2, 3, none⟩ _ _ (unhide Hap).2.1)) (Below.heap_setCell _ ⟨b2, 4, none⟩ _ eb (unhide Hap).1) (Below.heap_setCell _ ⟨b2, 4, none⟩ _ _ (unhide Hap).2.1), Hold.drew (unhide Hm1)⟩
        · have hiz : ¬ (i : Int) < (m : Int) := by omega
          have hj := unhide HJ
          rw [List.take_of_length_le (by rw [unhide Hm]; omega)] at hj
          have HJ2 : Hid (H0 w0 wr (someB w.heap.size :: dfR db nb eb (mark (tagsOf (F ++ [e])) D) E next l)) := by
            have e1 : tagsOf (F ++ [e]) = tagsOf F ++ tagE e.folder e.items := by simp [tagsOf]
            rw [e1]
            exact hj
          clear hj HJ
          go_wp2_with fail
          go_roundg cnt
          case measure => omega
          case rel => exact ⟨acc ++ [e.pv], _, cnt2, hlt, Hrg5, Hmore, F ++ [e], by rw [unhide HFm]; simp, fun z hz => by
            rcases List.mem_append.1 hz with hz | hz
            · exact unhide HFE z hz
            · rw [List.mem_singleton.1 hz]; exact unhide He, unhide HJ2⟩
end Go.Proofs.YtjpmomklkkifjaaGreatDoor.T
