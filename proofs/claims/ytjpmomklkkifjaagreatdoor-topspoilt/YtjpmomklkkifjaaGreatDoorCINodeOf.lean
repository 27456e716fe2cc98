import Derived.Test.YtjpmomklkkifjaaGreatDoorCJCut
import Derived.Test.YtjpmomklkkifjaaGreatDoorCFWalk
import Derived.RegionTactic
import Derived.Deep.RegionHeld3
import Derived.Test.YtjpmomklkkifjaaGreatDoorCJNode
import Derived.Test.YtjpmomklkkifjaaGreatDoorCILink
import Derived.Test.YtjpmomklkkifjaaGreatDoorCFAddF
import Derived.Test.YtjpmomklkkifjaaGreatDoorCFListP
import Derived.Test.YtjpmomklkkifjaaGreatDoorCFCopy
set_option maxRecDepth 100000
set_option linter.unusedVariables false
set_option linter.unusedSimpArgs false
namespace Go.Proofs.YtjpmomklkkifjaaGreatDoor.T.J
open Go.RowKit
section
variable {W w w' : World} {B : Nat} {a b c n0 d0 : Value}
abbrev rowX (B : Nat) (a b c n0 d0 : Value) : List Res := [.cell (B + 1) 69 [a, b, c], .cell B 38 [n0, d0]]
theorem xStep (hb : Below w.heap.size w w') (h : Hid (H0 W w (rowX B a b c n0 d0))) : Hid (H0 W w' (rowX B a b c n0 d0)) := H0.step (unhide h) hb
theorem xCells (h : Hid (H0 W w (rowX B a b c n0 d0))) : w.cell? ⟨B, 0, none⟩ = some n0 ∧ w.cell? ⟨B, 1, none⟩ = some d0 ∧
    w.cell? ⟨B + 1, 0, none⟩ = some a ∧ w.cell? ⟨B + 1, 1, none⟩ = some b ∧ w.cell? ⟨B + 1, 2, none⟩ = some c ∧ w.frozen? ⟨B + 1, 0, none⟩ = false ∧ w.frozen? ⟨B + 1, 1, none⟩ = false ∧ w.frozen? ⟨B + 1, 2, none⟩ = false := by
  have H : H0 W w (rowX B a b c n0 d0) := unhide h
  have h38 : Res.cell B 38 [n0, d0] ∈ rowX B a b c n0 d0 := by simp
  have h69 : Res.cell (B + 1) 69 [a, b, c] ∈ rowX B a b c n0 d0 := by simp
  exact ⟨Hold.cellAt H h38 rfl, Hold.cellAt H h38 rfl, Hold.cellAt H h69 rfl, Hold.cellAt H h69 rfl, Hold.cellAt H h69 rfl, Hold.frozenAt H h69 _, Hold.frozenAt H h69 _, Hold.frozenAt H h69 _⟩
theorem xEnd (x y z : Value) (h : Hid (H0 W w (rowX B a b c n0 d0))) :
    (((w.setCell ⟨B + 1, 0, none⟩ x).setCell ⟨B + 1, 1, none⟩ y).setCell ⟨B + 1, 2, none⟩ z).heap[B + 1]? = some (.cells #[x, y, z] 69 (0, 0)) ∧ Below W.heap.size W (((w.setCell ⟨B + 1, 0, none⟩ x).setCell ⟨B + 1, 1, none⟩ y).setCell ⟨B + 1, 2, none⟩ z) := by
  have H : H0 W w (rowX B a b c n0 d0) := unhide h
  have H1 := Hold.store [] H 0 x [x, b, c] rfl
  have H2 := Hold.store [] H1 1 y [x, y, c] rfl
  have H3 := Hold.store [] H2 2 z [x, y, z] rfl
  exact ⟨(Hold.sat H3 (.cell (B + 1) 69 [x, y, z]) (by simp)).2, H0.below H3⟩
end
set_option maxHeartbeats 16000000 in
theorem entryRow_calls (i d : Nat) (nm : ByteArray) (hi : i < 1000) (hd : d < 1000) (hc : checkP nm = none) (hk : (keyS nm).size ≤ 100000) (hn : nm.size ≤ 100000) (W : World) (hR : Ready8 W) :
    Calls Tryz.prog 70 #[.int .i64 i, .agg #[.string nm, .int .i64 d]] W fun e w' =>
      e = .returned (.agg #[.string ((⟨#[101]⟩ ++ toldS i) ++ keyS nm), .string (toldS d ++ nm), .bool false]) ∧ Below W.heap.size W w' := by
  obtain ⟨sa, hsa⟩ : ∃ sa, toldS i = sa := ⟨_, rfl⟩
  obtain ⟨sb, hsb⟩ : ∃ sb, toldS d = sb := ⟨_, rfl⟩
  obtain ⟨sk, hsk⟩ : ∃ sk, keyS nm = sk := ⟨_, rfl⟩
  obtain ⟨B, hB⟩ : ∃ B, W.heap.size = B := ⟨_, rfl⟩
  have T1 : ∀ wx, Hid (H0 W wx (rowX B (.string ⟨#[]⟩) (.string ⟨#[]⟩) (.bool false) (.string nm) (.int .i64 d))) → Calls Tryz.prog 68 #[.int .i64 i] wx fun e w' => e = .returned (.string sa) ∧ Below wx.heap.size wx w' := fun wx hx => by rw [← hsa]; exact told_calls i (by omega) wx (hR.later (H0.below (unhide hx)))
  have T2 : ∀ wx, Hid (H0 W wx (rowX B (.string ⟨#[]⟩) (.string ⟨#[]⟩) (.bool false) (.string nm) (.int .i64 d))) → Calls Tryz.prog 68 #[.int .i64 d] wx fun e w' => e = .returned (.string sb) ∧ Below wx.heap.size wx w' := fun wx hx => by rw [← hsb]; exact told_calls d (by omega) wx (hR.later (H0.below (unhide hx)))
  have T3 : ∀ wx, Hid (H0 W wx (rowX B (.string ⟨#[]⟩) (.string ⟨#[]⟩) (.bool false) (.string nm) (.int .i64 d))) → Calls Tryz.prog 54 #[.string nm] wx fun e w' => e = .returned (.string sk) ∧ Below wx.heap.size wx w' := fun wx h => by rw [← hsk]; exact key_calls hc wx (hR.r.later (H0.below (unhide h)))
  have HT1 := hide T1
  have HT2 := hide T2
  have HT3 := hide T3
  have a1 : sa.size = 3 := by rw [← hsa]; exact told_size hi
  have a2 : sb.size = 3 := by rw [← hsb]; exact told_size hd
  have k1 : ByteArray.size ⟨#[101]⟩ = 1 := rfl
  have a4 : ((⟨#[101]⟩ : ByteArray) ++ sa).size = 4 := by rw [ByteArray.size_append, a1]; rfl
  have a5 : ¬ 9223372036854775807 < 4 + sk.size := by rw [hsk] at hk; omega
  have a6 : ¬ 9223372036854775807 < 3 + nm.size := by omega
  rw [hsa, hsb, hsk]
  clear T1 T2 T3 hsa hsb hsk
  have h1 := Hold.made (Hold.made (H0.start W) (Nat.le_refl _) 38 [.string nm, .int .i64 d]) (by simp) 69 [.string ⟨#[]⟩, .string ⟨#[]⟩, .bool false]
  rw [World.size_alloc] at h1
  obtain ⟨w1, hw1⟩ : ∃ w1, (W.alloc (.cells [.string nm, .int .i64 d].toArray 38)).alloc (.cells [.string ⟨#[]⟩, .string ⟨#[]⟩, .bool false].toArray 69) = w1 := ⟨_, rfl⟩
  rw [hw1] at h1
  have HH : Hid (H0 W w1 (rowX B (.string ⟨#[]⟩) (.string ⟨#[]⟩) (.bool false) (.string nm) (.int .i64 d))) := by rw [← hB]; exact hide h1
  have HD : Hid (H0 W w1.drew (rowX B (.string ⟨#[]⟩) (.string ⟨#[]⟩) (.bool false) (.string nm) (.int .i64 d))) := by rw [← hB]; exact hide (Hold.drew h1)
  obtain ⟨c0, c1, d0, d1, d2, f0, f1, f2⟩ := xCells HH
  have HST := fun (wx wy : World) (hb : Below wx.heap.size wx wy) (h : Hid (H0 W wx (rowX B (.string ⟨#[]⟩) (.string ⟨#[]⟩) (.bool false) (.string nm) (.int .i64 d)))) => (⟨xStep hb h, xCells (xStep hb h)⟩ : _ ∧ _)
  clear h1 hi hd hc hk hn hR
  go_enter Tryz.func70, Tryz.ntmps70
  go_wp2_with fail
  go_region_held3 (fun w' => w'.cell? ⟨B, 0, none⟩ = some (.string nm) ∧ w'.cell? ⟨B, 1, none⟩ = some (.int .i64 d)) (first | exact ⟨by assumption, by assumption⟩ | go_keep) (((first | (go_at_call_of 68 i; refine (unhide HT1 _ (by assumption)).mono ?_) | (go_at_call_of 68 d; refine (unhide HT2 _ (by assumption)).mono ?_) | (go_at_call 54; refine (unhide HT3 _ (by assumption)).mono ?_)); rintro e wy ⟨rfl, hb⟩; obtain ⟨hy, b0, b1, e0, e1, e2, g0, g1, g2⟩ := HST _ _ hb (by assumption); clear hb))
  all_goals
    go_wp2_with fail
    refine bodyPost_ret (results_cell_row (p := 4) rfl _ _ (B + 1) _ _ (0, 0) _ rfl (xEnd _ _ _ (by assumption)).1 Tryz.underlying69 rfl (by kernel_rfl)) rfl ?_
    exact ⟨rfl, (xEnd _ _ _ (by assumption)).2⟩
end Go.Proofs.YtjpmomklkkifjaaGreatDoor.T.J
namespace Go.Proofs.YtjpmomklkkifjaaGreatDoor.T.J
open Go.RowKit
structure RowsOk8 (N : List NV) (F : Forest) (next : Int) : Prop where
  fits : Fits N F next
  nodup : (N.map NV.id).Nodup
  root : N ≠ []
  ids : ∀ v ∈ N, 0 ≤ v.id ∧ v.id < 1000
  ups : ∀ v ∈ N, 0 ≤ v.up ∧ v.up < 1000
  links : ∀ v ∈ N, 0 ≤ v.links ∧ v.links < 1000
  text : ∀ v ∈ N, v.text.size ≤ 20
  top : 0 ≤ next ∧ next ≤ 1000
  ents : ∀ v ∈ N, ∀ x ∈ entsK F v, x.key = keyS x.name ∧ checkP x.name = none ∧ 0 ≤ x.node ∧ x.node < 1000
  sorted : ∀ v ∈ N, Sorted (entsK F v)
  many : (rowsOf F next N).length ≤ 1000
theorem ok8 {N : List NV} {F : Forest} {next : Int} (h : RowsOk N F next) : RowsOk8 N F next :=
  ⟨h.fits, h.nodup, h.root, fun v hv => by have := h.ids v hv; omega, fun v hv => by have := h.ups v hv; omega, fun v hv => by have := h.links v hv; omega, h.text, by have := h.top; omega, fun v hv x hx => by obtain ⟨a, b, c, d⟩ := h.ents v hv x hx; exact ⟨a, b, c, by omega⟩, h.sorted, h.many⟩
theorem nodeKey_inj {u v : NV} (hu : 0 ≤ u.id ∧ u.id < 1000) (hv : 0 ≤ v.id ∧ v.id < 1000) (h : (nodeCh u).key = (nodeCh v).key) : u.id = v.id := by
  have h1 := (app_left rfl h).2
  have := told_inj (by omega) (by omega) h1
  omega
theorem entKey_inj {i j : Int} {x y : Item} (hi : 0 ≤ i ∧ i < 1000) (hj : 0 ≤ j ∧ j < 1000) (h : (entCh i x).key = (entCh j y).key) : i = j ∧ keyS x.name = keyS y.name := by
  have hi2 : i.toNat < 1000 := by omega
  have hj2 : j.toNat < 1000 := by omega
  have h0 : ((⟨#[101]⟩ : ByteArray) ++ toldS i.toNat).size = ((⟨#[101]⟩ : ByteArray) ++ toldS j.toNat).size := by
    rw [ByteArray.size_append, ByteArray.size_append, told_size hi2, told_size hj2]
  obtain ⟨h1, h2⟩ := app_left h0 h
  have h3 := (app_left rfl h1).2
  have := told_inj hi2 hj2 h3
  exact ⟨by omega, h2⟩
theorem RowsOk8.keys {N : List NV} {F : Forest} {next : Int} (h : RowsOk8 N F next) : ((rowsOf F next N).map CH.key).Nodup := by
  have hall : ∀ (M : List NV), (∀ v ∈ M, v ∈ N) → (M.map NV.id).Nodup → ((M.flatMap (ofNode F)).map CH.key).Nodup := by
    intro M
    induction M with
    | nil => intros; simp
    | cons v M ih =>
      intro hs hn
      rw [List.map_cons, List.nodup_cons] at hn
      have ihM := ih (fun u hu => hs u (List.mem_cons_of_mem _ hu)) hn.2
      have hvN := hs v List.mem_cons_self
      rw [List.flatMap_cons, List.map_append, List.nodup_append]
      refine ⟨?_, ihM, ?_⟩
      · show (((nodeCh v).key) :: ((entsK F v).map (entCh v.id)).map CH.key).Nodup
        rw [List.nodup_cons]
        refine ⟨fun hm => ?_, ?_⟩
        · obtain ⟨c, hc, e⟩ := List.mem_map.1 hm
          obtain ⟨x, hx, rfl⟩ := List.mem_map.1 hc
          exact nodeEnt_ne e.symm
        · rw [List.map_map]
          refine List.pairwise_map.2 ?_
          refine (List.Pairwise.imp_of_mem (fun {a b} ha hb hk e => ?_) (h.sorted v hvN))
          have h1 := (entKey_inj (h.ids v hvN) (h.ids v hvN) e).2
          rw [← (h.ents v hvN a ha).1, ← (h.ents v hvN b hb).1] at h1
          rw [h1] at hk
          exact kLt_irrefl _ hk
      · intro a ha b hb e
        subst e
        obtain ⟨c, hc, e1⟩ := List.mem_map.1 ha
        obtain ⟨d, hd, e2⟩ := List.mem_map.1 hb
        obtain ⟨u, hu, hdu⟩ := List.mem_flatMap.1 hd
        have huN := hs u (List.mem_cons_of_mem _ hu)
        have hne : v.id ≠ u.id := fun e => hn.1 (e ▸ List.mem_map.2 ⟨u, hu, rfl⟩)
        have hk : c.key = d.key := e1.trans e2.symm
        rcases ofNode_keys hc with rfl | ⟨x, hx, rfl⟩ <;> rcases ofNode_keys hdu with rfl | ⟨y, hy, rfl⟩
        · exact hne (nodeKey_inj (h.ids v hvN) (h.ids u huN) hk)
        · exact nodeEnt_ne hk
        · exact nodeEnt_ne hk.symm
        · exact hne (entKey_inj (h.ids v hvN) (h.ids u huN) hk).1
  show ((nextCh next).key :: (N.flatMap (ofNode F)).map CH.key).Nodup
  rw [List.nodup_cons]
  refine ⟨fun hm => ?_, hall N (fun v hv => hv) h.nodup⟩
  obtain ⟨c, hc, e⟩ := List.mem_map.1 hm
  obtain ⟨u, hu, hcu⟩ := List.mem_flatMap.1 hc
  rcases ofNode_keys hcu with rfl | ⟨x, hx, rfl⟩
  · exact nodeKey_ne e
  · exact entKey_ne e
theorem nodeRow_in (u : NV) (hi : 0 ≤ u.id ∧ u.id < 1000) (hp : 0 ≤ u.up ∧ u.up < 1000) (hl : 0 ≤ u.links ∧ u.links < 1000) (ht : u.text.size ≤ 20) (W : World) (hR : Ready8 W) :
    Calls Tryz.prog 69 #[.agg #[.int .i64 u.id, .int .i64 u.kind, .int .i64 u.up, .int .i64 u.links, .string u.text]] W fun e w' => e = .returned (.agg #[.string (nodeCh u).key, .string (nodeCh u).val, .bool false]) ∧ Below W.heap.size W w' := by
  have h := nodeRow_calls u.id.toNat u.kind u.up.toNat u.links.toNat u.text (by omega) (by omega) (by omega) (by omega) W hR
  rw [Int.toNat_of_nonneg hi.1, Int.toNat_of_nonneg hp.1, Int.toNat_of_nonneg hl.1] at h
  exact h
theorem entryRow_in (i : Int) (x : Item) (hi : 0 ≤ i ∧ i < 1000) (hn : 0 ≤ x.node ∧ x.node < 1000) (hc : checkP x.name = none) (W : World) (hR : Ready8 W) :
    Calls Tryz.prog 70 #[.int .i64 i, .agg #[.string x.name, .int .i64 x.node]] W fun e w' => e = .returned (.agg #[.string (entCh i x).key, .string (entCh i x).val, .bool false]) ∧ Below W.heap.size W w' := by
  have h := entryRow_calls i.toNat x.node.toNat x.name (by omega) (by omega) hc (by have := keyS_size hc; omega) (by have := name_size hc; omega) W hR
  rw [Int.toNat_of_nonneg hi.1, Int.toNat_of_nonneg hn.1] at h
  exact h
end Go.Proofs.YtjpmomklkkifjaaGreatDoor.T.J
namespace Go.Proofs.YtjpmomklkkifjaaGreatDoor.T
open Go.RowKit
def putAll (L : List Item) : List Item := L.foldl putL []
theorem putAll_snoc (L : List Item) (x : Item) : putAll (L ++ [x]) = putL (putAll L) x := by unfold putAll; rw [List.foldl_append]; rfl
variable {w0 w : World} {fb mb : Nat} {N : List NV} {F : Forest} {next : Int} {l2 : List Res}
theorem setF_head {tb : Nat} {L L' : List Item} (h : tb ∉ F.map (·.1)) : setF ((tb, L) :: F) tb L' = (tb, L') :: F := by
  unfold setF
  rw [List.map_cons]
  simp only [beq_self_eq_true, if_true]
  congr 1
  conv => rhs; rw [← List.map_id F]
  refine List.map_congr_left fun x hx => ?_
  have : x.1 ≠ tb := fun e => h (by rw [← e]; exact List.mem_map.2 ⟨x, hx, rfl⟩)
  rw [if_neg (by simpa using this)]
  rfl
theorem put_head {tb : Nat} {L : List Item} (h : FSIn w0 w fb mb N ((tb, L) :: F) next l2) (it : Item) (hk : it.key.toList.isEmpty = false) :
    Calls Tryz.prog 150 #[.pointer (some ⟨tb, 0, none⟩), .string it.key, .agg #[.string it.name, .int .i64 it.node]] w fun e w' => e = .returned (.tuple #[]) ∧ FSIn w0 w' fb mb N ((tb, putL L it) :: F) next l2 := by
  have hnd := h.nodup
  rw [List.map_cons, List.nodup_cons] at hnd
  obtain ⟨rest, hT, hback⟩ := h.tree (tb := tb) (by simp)
  have hl : lookF ((tb, L) :: F) tb = L := by simp [lookF]
  rw [hl] at hT
  refine (treePut_calls _ _ _ w tb L it rest hT hk).mono ?_
  intro e w' hE
  obtain ⟨he, hT'⟩ := hE
  refine ⟨he, ?_⟩
  have := hback w' _ hT'
  rw [setF_head hnd.1] at this
  exact this
theorem entry_name {it : Item} (h1 : it.key = keyS it.name) (h2 : checkP it.name = none) : it.key.toList.isEmpty = false := by rw [h1]; exact key_full h2
set_option maxHeartbeats 8000000 in
theorem nodeOf_ents (hR : Ready w0) (h : FSIn w0 w fb mb N F next l2) (id up links : Int) (text : ByteArray) {v : Value} {L : List Item} (hm : rowE v L ∈ l2) (hl : L.length ≤ 1000) (hL : ∀ x ∈ L, x.key = keyS x.name ∧ checkP x.name = none) :
    Calls Tryz.prog 105 #[.agg #[.int .i64 id, .int .i64 1, .int .i64 up, .int .i64 links, .string text], v] w fun e w' => ∃ tb, e = .returned (.agg #[.int .i64 id, .int .i64 1, .int .i64 up, .int .i64 links, .string text, .pointer (some ⟨tb, 0, none⟩)]) ∧ FSIn w0 w' fb mb N ((tb, putAll L) :: F) next l2 := by
  obtain ⟨B, hB⟩ : ∃ B, w.heap.size = B := ⟨_, rfl⟩
  have h1 := (h.made 33 [.int .i64 id, .int .i64 1, .int .i64 up, .int .i64 links, .string text]).made 80 [.int .i64 0, .int .i64 0, .int .i64 0, .int .i64 0, .string ⟨#[]⟩, .pointer none]
  have hz : (w.alloc (.cells [.int .i64 id, .int .i64 1, .int .i64 up, .int .i64 links, .string text].toArray 33)).heap.size = B + 1 := by simp [hB]
  rw [hz, hB] at h1
  have hn := newTree_calls h1
  have HNw := hide hn
  have hrow0 := h.rowAt (v := v) (e := 38) (k := 2) hm
  obtain ⟨p, c, rfl⟩ := row_cut hrow0
  have HKy : Hid (∀ x ∈ L, ∀ wx l, (∃ G, FSIn w0 wx fb mb N G next l) → Calls Tryz.prog 54 #[.string x.name] wx fun e w' => e = .returned (.string x.key) ∧ Below wx.heap.size wx w') := fun x hx wx l ⟨G, hg⟩ => by
    rw [(hL x hx).1]
    exact key_calls (hL x hx).2 wx (hg.ready hR)
  have HPt : Hid (∀ x ∈ L, ∀ wx tb M l, FSIn w0 wx fb mb N ((tb, M) :: F) next l → Calls Tryz.prog 150 #[.pointer (some ⟨tb, 0, none⟩), .string x.key, .agg #[.string x.name, .int .i64 x.node]] wx fun e w' => e = .returned (.tuple #[]) ∧ FSIn w0 w' fb mb N ((tb, putL M x) :: F) next l) := fun x hx wx tb M l hg => put_head hg x (entry_name (hL x hx).1 (hL x hx).2)
  obtain ⟨m, hmm⟩ : ∃ m, L.length = m := ⟨_, rfl⟩
  have Hm := hide hm
  have Hmm := hide hmm
  rw [hmm] at hl hm ⊢
  clear h h1 hz hn hrow0 hL
  go_enter Tryz.func105, Tryz.ntmps105
  go_wp2_with fail
  refine (unhide HNw).mono ?_
  rintro e w2 ⟨tb, rfl, h2⟩
  have H2 : Hid (FSIn w0 w2 fb mb N ((tb, putAll (L.take 0)) :: F) next (.cell (B + 1) 80 [.int .i64 0, .int .i64 0, .int .i64 0, .int .i64 0, .string ⟨#[]⟩, .pointer none] :: .cell B 33 [.int .i64 id, .int .i64 1, .int .i64 up, .int .i64 links, .string text] :: l2)) := h2
  clear h2 HNw hB hm hmm
  go_wp2_with fail
  go_loopg [16] (m + 1) (fun g vi wr => ∃ i : Nat, m - i < g ∧ i ≤ m ∧ vi = .int .i64 i ∧ Hid (FSIn w0 wr fb mb N ((tb, putAll (L.take i)) :: F) next (.cell (B + 1) 80 [.int .i64 0, .int .i64 0, .int .i64 0, .int .i64 0, .string ⟨#[]⟩, .pointer none] :: .cell B 33 [.int .i64 id, .int .i64 1, .int .i64 up, .int .i64 links, .string text] :: l2)))
  case atStart => exact ⟨0, by omega, by omega, rfl, H2⟩
  case round =>
    obtain ⟨i, hg, hi, rfl, HI⟩ := hrel
    clear H2
    by_cases him : i < m
    · have hiz : (i : Int) < (m : Int) := by omega
      have hil : i < L.length := by rw [unhide Hmm]; exact him
      obtain ⟨x, hx⟩ : ∃ x, L[i]? = some x := ⟨L[i], by simp [hil]⟩
      have hxm := List.mem_of_getElem? hx
      have hrow := (unhide HI).rowAt (v := .slice p L.length c) (e := 38) (k := 2) (.tail _ (.tail _ (unhide Hm)))
      rw [unhide Hmm] at hrow
      obtain ⟨g1, cap, e5, _⟩ := row_shape hrow (by omega)
      injection e5 with e5 _ e6
      subst e5 e6
      obtain ⟨r0, r1⟩ := entry_cell hrow hx
      have h3 := (unhide HI).alloc (.cells #[.string x.name, .int .i64 x.node] 38)
      have hky := fun wx (hx2 : FSIn w0 wx fb mb N ((tb, putAll (L.take i)) :: F) next (.cell (B + 1) 80 [.int .i64 0, .int .i64 0, .int .i64 0, .int .i64 0, .string ⟨#[]⟩, .pointer none] :: .cell B 33 [.int .i64 id, .int .i64 1, .int .i64 up, .int .i64 links, .string text] :: l2)) => unhide HKy x hxm wx _ ⟨_, hx2⟩
      have hpt := fun wx (hx2 : FSIn w0 wx fb mb N ((tb, putAll (L.take i)) :: F) next (.cell (B + 1) 80 [.int .i64 0, .int .i64 0, .int .i64 0, .int .i64 0, .string ⟨#[]⟩, .pointer none] :: .cell B 33 [.int .i64 id, .int .i64 1, .int .i64 up, .int .i64 links, .string text] :: l2)) => unhide HPt x hxm wx tb _ _ hx2
      have htk : putAll (L.take (i + 1)) = putL (putAll (L.take i)) x := by rw [List.take_add_one, hx]; exact putAll_snoc _ _
      obtain ⟨C, hC⟩ : ∃ C, wr.heap.size = C := ⟨_, rfl⟩
      have hx0 := cell_list_new wr [.string x.name, .int .i64 x.node] 38
      obtain ⟨w4, hw4⟩ : ∃ w4, wr.alloc (.cells #[.string x.name, .int .i64 x.node] 38) = w4 := ⟨_, rfl⟩
      have hCs : C < w4.heap.size := by rw [← hw4, World.size_alloc, hC]; omega
      have y0 : w4.cell? ⟨C, 0, none⟩ = some (.string x.name) := by rw [← hw4, ← hC]; exact hx0 0 _ rfl
      have y1 : w4.cell? ⟨C, 1, none⟩ = some (.int .i64 x.node) := by rw [← hw4, ← hC]; exact hx0 1 _ rfl
      rw [hw4] at h3
      rw [← htk] at hpt
      have H4 := hide h3
      have HK2 := hide hky
      have HP2 := hide hpt
      have HCs := hide hCs
      obtain ⟨xn, hxn⟩ : ∃ xn, x.name = xn := ⟨_, rfl⟩
      obtain ⟨xd, hxd⟩ : ∃ xd, x.node = xd := ⟨_, rfl⟩
      obtain ⟨xk, hxk⟩ : ∃ xk, x.key = xk := ⟨_, rfl⟩
      rw [hxn] at r0 y0 HK2 HP2 hw4
      rw [hxd] at r1 y1 HP2 hw4
      rw [hxk] at HK2 HP2
      clear h3 hky hpt hrow hx hil hxm hx0 htk hxn hxd hxk hCs
      go_wp2_with fail
      go_region_with (first | (go_at_call 54; refine (unhide HK2 _ (FSIn.drew (unhide H4))).mono ?_; rintro e w5 ⟨rfl, hb5⟩; have h5 := (FSIn.drew (unhide H4)).step hb5; have z0 := cell_later hb5 (show w4.drew.cell? ⟨C, 0, none⟩ = some (.string xn) from y0); have z1 := cell_later hb5 (show w4.drew.cell? ⟨C, 1, none⟩ = some (.int .i64 xd) from y1); have H5 := hide h5; clear h5 hb5) | (go_at_call 150; refine (unhide HP2 _ (unhide H5)).mono ?_; rintro e w6 ⟨rfl, h6⟩; have H6 := hide h6; clear h6))
      all_goals
        go_wp2_with fail
        go_roundg (m - i)
        case measure => omega
        case rel => exact ⟨i + 1, by omega, by omega, by simp, unhide H6⟩
    · have hiz : ¬ (i : Int) < (m : Int) := by omega
      have h3 := unhide HI
      rw [List.take_of_length_le (by rw [unhide Hmm]; omega)] at h3
      have b0 : wr.cell? ⟨B, 0, none⟩ = some (.int .i64 id) := h3.cellAt (.tail _ (.head _)) rfl
      have b1 : wr.cell? ⟨B, 1, none⟩ = some (.int .i64 1) := h3.cellAt (.tail _ (.head _)) rfl
      have b2 : wr.cell? ⟨B, 2, none⟩ = some (.int .i64 up) := h3.cellAt (.tail _ (.head _)) rfl
      have b3 : wr.cell? ⟨B, 3, none⟩ = some (.int .i64 links) := h3.cellAt (.tail _ (.head _)) rfl
      have b4 : wr.cell? ⟨B, 4, none⟩ = some (.string text) := h3.cellAt (.tail _ (.head _)) rfl
      obtain ⟨k0, k1, k2, k3, k4, k5, f0, f1, f2, f3, f4, f5⟩ := h3.six (b := B + 1) (.head _)
      have H3 := hide h3
      clear h3 HI
      go_wp2_with fail
      have h4 := (unhide H3).putsix [] (.int .i64 id) (.int .i64 1) (.int .i64 up) (.int .i64 links) (.string text) (.pointer (some ⟨tb, 0, none⟩))
      refine bodyPost_ret (results_cell_row (p := 4) rfl _ _ (B + 1) _ _ (0, 0) _ rfl (h4.heapAt (t := 80) (.head _)) Tryz.underlying80 rfl (by kernel_rfl)) rfl ?_
      exact ⟨tb, rfl, (h4.forget []).forget []⟩
end Go.Proofs.YtjpmomklkkifjaaGreatDoor.T
