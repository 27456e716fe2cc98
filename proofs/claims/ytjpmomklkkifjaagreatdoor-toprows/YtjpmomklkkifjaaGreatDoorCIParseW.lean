/-
  What has been read of rows that Rows has written goes together. Plain facts, and made upon every node. The contract of image.Changes upon two rows that differ in one value at most. The contract of slices.Equal upon two rows that tell the same. The contract of image.Rows: the rows of all, rising by their keys. The contract of image.Parse, upon rows that Rows has written. The walk of image.Parse, upon rows that Rows has written.
-/
import Derived.Test.YtjpmomklkkifjaaGreatDoorCIParseP
import Derived.Test.YtjpmomklkkifjaaGreatDoorCIMadeF
import Derived.Test.YtjpmomklkkifjaaGreatDoorCBCopied
import Derived.Test.YtjpmomklkkifjaaGreatDoorCFListP
import Derived.BigQuiet
import Derived.Test.YtjpmomklkkifjaaGreatDoorCILink
namespace Go.Proofs.YtjpmomklkkifjaaGreatDoor.T
open Go.RowKit
set_option maxRecDepth 100000
set_option linter.unusedVariables false
set_option linter.unusedSimpArgs false

variable {N M : List NV} {F : Forest} {next : Int} {A A2 : List (Int × Item)} {D : List DN} {E : List DE}
def bare (v : NV) : NV := ⟨v.id, v.kind, v.up, v.links, v.text, none⟩
structure AllRead (N : List NV) (F : Forest) (next : Int) (A : List (Int × Item)) (M : List NV) (D : List DN) (E : List DE) : Prop where
  whole : Whole N F next
  rows : RowsOk N F next
  read : RdOk A M D E
  nodes : M.Perm N
  prs : A.Perm (pairs N F)
  few : A.length ≤ 1000
theorem AllRead.dnode (h : AllRead N F next A M D E) {d : DN} (hd : d ∈ D) : ∃ v ∈ N, v.id = d.id ∧ d.kind = ⟨#[if v.kind = 1 then 100 else 102]⟩ ∧ d.up = v.up ∧ d.tail = toldS v.links.toNat ++ v.text := by
  have h1 : (d.id, d.kind, d.up, d.tail) ∈ D.map (fun d => (d.id, d.kind, d.up, d.tail)) := List.mem_map.2 ⟨d, hd, rfl⟩
  rw [h.read.dn] at h1
  obtain ⟨v, hv, e⟩ := List.mem_map.1 h1
  simp only [Prod.mk.injEq] at e
  exact ⟨v, h.nodes.mem_iff.1 hv, e.1, e.2.1.symm, e.2.2.1.symm, e.2.2.2.symm⟩
theorem AllRead.noded (h : AllRead N F next A M D E) {v : NV} (hv : v ∈ N) : ∃ d ∈ D, d.id = v.id ∧ d.kind = ⟨#[if v.kind = 1 then 100 else 102]⟩ ∧ d.up = v.up ∧ d.tail = toldS v.links.toNat ++ v.text := by
  have h1 : (v.id, (⟨#[if v.kind = 1 then 100 else 102]⟩ : ByteArray), v.up, toldS v.links.toNat ++ v.text) ∈ M.map (fun v => (v.id, (⟨#[if v.kind = 1 then 100 else 102]⟩ : ByteArray), v.up, toldS v.links.toNat ++ v.text)) := List.mem_map.2 ⟨v, h.nodes.mem_iff.2 hv, rfl⟩
  rw [← h.read.dn] at h1
  obtain ⟨d, hd, e⟩ := List.mem_map.1 h1
  simp only [Prod.mk.injEq] at e
  exact ⟨d, hd, e.1, e.2.1, e.2.2.1, e.2.2.2⟩
theorem AllRead.ids (h : AllRead N F next A M D E) : D.map DN.id = M.map NV.id := by
  have := congrArg (List.map Prod.fst) h.read.dn
  simpa [Function.comp_def] using this
theorem AllRead.nodup (h : AllRead N F next A M D E) : (D.map DN.id).Nodup := by
  rw [h.ids]
  exact (h.nodes.map NV.id).nodup_iff.2 h.rows.nodup
theorem AllRead.length (h : AllRead N F next A M D E) : D.length = N.length := by
  have := congrArg List.length h.ids
  simp only [List.length_map] at this
  rw [this, h.nodes.length_eq]
theorem AllRead.wf (h : AllRead N F next A M D E) {d : DN} (hd : d ∈ D) : WfI d.id ∧ 1 ≤ d.id ∧ d.id < next := by
  obtain ⟨v, hv, e, _⟩ := h.dnode hd
  have h1 := h.whole.ids v hv
  have h2 := h.rows.ids v hv
  rw [← e]
  exact ⟨wfI_of (by omega) (by omega), h1.1, h1.2⟩
theorem entsT_mem {i : Int} {x : Item} (h : x ∈ entsT i A) : (i, x) ∈ A := by
  unfold entsT at h
  obtain ⟨p, hp, e⟩ := List.mem_filterMap.1 h
  split at e
  · rename_i h1
    cases e
    rw [← h1]
    exact hp
  · cases e
theorem AllRead.item (h : AllRead N F next A M D E) {e : DE} (he : e ∈ E) {x : Item} (hx : x ∈ e.items) : (e.folder, x) ∈ pairs N F ∧ ∃ u ∈ N, u.id = e.folder ∧ u.kind = 1 ∧ x ∈ entsK F u := by
  have h1 : (e.folder, x) ∈ pairs N F := h.prs.mem_iff.1 (entsT_mem (by rw [← (h.read.ei e he).1]; exact hx))
  refine ⟨h1, ?_⟩
  obtain ⟨u, hu, h2⟩ := List.mem_flatMap.1 h1
  obtain ⟨y, hy, e2⟩ := List.mem_map.1 h2
  injection e2 with e2 e3
  subst e3
  refine ⟨u, hu, e2, ?_, hy⟩
  unfold entsK at hy
  split at hy
  · assumption
  · cases hy
theorem AllRead.folder (h : AllRead N F next A M D E) {e : DE} (he : e ∈ E) : WfI e.folder ∧ ∃ d ∈ D, d.id = e.folder ∧ d.kind = ⟨#[100]⟩ := by
  obtain ⟨x, hx⟩ := List.exists_mem_of_ne_nil _ (h.read.ei e he).2
  obtain ⟨_, u, hu, hui, huk, _⟩ := h.item he hx
  obtain ⟨d, hd, hdi, hdk, _⟩ := h.noded hu
  refine ⟨?_, d, hd, by rw [hdi, hui], by rw [hdk, huk]; rfl⟩
  rw [← hui, ← hdi]
  exact (h.wf hd).1
theorem AllRead.items (h : AllRead N F next A M D E) {e : DE} (he : e ∈ E) : e.items.length ≤ 1000 ∧ (∀ x ∈ e.items, x.key = keyS x.name ∧ checkP x.name = none) ∧ ∀ x ∈ e.items, x.node ≠ 1 ∧ ∃ d ∈ D, d.id = x.node := by
  refine ⟨?_, fun x hx => ?_, fun x hx => ?_⟩
  · rw [(h.read.ei e he).1]
    have := List.length_filterMap_le (fun p : Int × Item => if p.1 = e.folder then some p.2 else none) A
    have := h.few
    unfold entsT
    omega
  · obtain ⟨_, u, hu, _, _, hxu⟩ := h.item he hx
    have := h.rows.ents u hu x hxu
    exact ⟨this.1, this.2.1⟩
  · obtain ⟨h1, v, hv, e1⟩ := h.whole.linked.named _ (h.item he hx).1
    obtain ⟨d, hd, hdi, _⟩ := h.noded hv
    exact ⟨h1, d, hd, by rw [hdi, e1]⟩
theorem entsT_pairs : ∀ {N : List NV}, (N.map NV.id).Nodup → ∀ {v : NV}, v ∈ N → entsT v.id (pairs N F) = entsK F v
  | u :: N, hn, v, hv => by
    rw [List.map_cons, List.nodup_cons] at hn
    have e0 : ∀ (i j : Int) (L : List Item), entsT i (tagE j L) = if j = i then L else [] := fun i j L => by
      induction L with
      | nil => by_cases h : j = i <;> simp [entsT, tagE, h]
      | cons x L ih =>
        unfold entsT tagE at ih ⊢
        rw [List.map_cons, List.filterMap_cons]
        by_cases h : j = i
        · simp only [h, if_true] at ih ⊢
          rw [ih]
        · simp only [h, if_false] at ih ⊢
          exact ih
    have e1 : entsT v.id (pairs (u :: N) F) = entsT v.id (tagE u.id (entsK F u)) ++ entsT v.id (pairs N F) := by
      rw [pairs_cons]
      unfold entsT
      rw [List.filterMap_append]
    rw [e1, e0]
    rcases List.mem_cons.1 hv with rfl | hv
    · rw [if_pos rfl]
      have : entsT v.id (pairs N F) = [] := by
        unfold entsT
        rw [List.filterMap_eq_nil_iff]
        intro p hp
        rw [if_neg]
        intro e2
        obtain ⟨w, hw, hp2⟩ := List.mem_flatMap.1 hp
        obtain ⟨y, _, e3⟩ := List.mem_map.1 hp2
        have : w.id = v.id := by rw [← e2, ← e3]
        exact hn.1 (by rw [← this]; exact List.mem_map.2 ⟨w, hw, rfl⟩)
      rw [this, List.append_nil]
    · rw [if_neg fun e2 => hn.1 (by rw [e2]; exact List.mem_map.2 ⟨v, hv, rfl⟩), List.nil_append]
      exact entsT_pairs hn.2 hv
theorem AllRead.built (h : AllRead N F next A M D E) {v : NV} (hv : v ∈ N) : putAll (itemsOf E v.id) = entsK F v := by
  have hp : (entsT v.id A).Perm (entsK F v) := by
    rw [← entsT_pairs (F := F) h.rows.nodup hv]
    exact h.prs.filterMap _
  have hi : itemsOf E v.id = entsT v.id A := by
    unfold itemsOf
    cases hf : E.find? (fun e => e.folder == v.id) with
    | none =>
      simp only
      symm
      unfold entsT
      rw [List.filterMap_eq_nil_iff]
      intro p hp
      rw [if_neg]
      intro e2
      obtain ⟨e, he, hef⟩ := h.read.ex p hp
      have := List.find?_eq_none.1 hf e he
      exact this (by rw [hef, e2]; simp)
    | some e =>
      simp only
      have h1 := List.mem_of_find?_eq_some hf
      have h2 : e.folder = v.id := by have := List.find?_some hf; simpa using this
      rw [(h.read.ei e h1).1, h2]
  rw [hi]
  exact putAll_eq hp (h.rows.sorted v hv)
theorem lastF_named {i : Int} : ∀ (n : Nat) (A : List (Int × Item)), A.length = n → (∃ p ∈ A, p.2.node = i) → ∃ p ∈ A, p.2.node = i ∧ lastF A i = p.1 := by
  intro n
  induction n with
  | zero =>
    intro A hl ⟨p, hp, _⟩
    rw [List.eq_nil_of_length_eq_zero hl] at hp
    cases hp
  | succ n ih =>
    intro A hl hx
    have hne : A ≠ [] := fun e => by rw [e] at hl; simp at hl
    have hdl := List.dropLast_concat_getLast hne
    generalize A.dropLast = A0 at hdl
    generalize A.getLast hne = q at hdl
    subst hdl
    have hl0 : A0.length = n := by simpa using hl
    rw [lastF_snoc]
    by_cases hq : q.2.node = i
    · rw [if_pos hq]
      exact ⟨q, by simp, hq, rfl⟩
    · rw [if_neg hq]
      obtain ⟨p, hp, hpi⟩ := hx
      have hp0 : p ∈ A0 := by
        rcases List.mem_append.1 hp with hp | hp
        · exact hp
        · rw [List.mem_singleton.1 hp] at hpi; exact absurd hpi hq
      obtain ⟨r, hr, h1, h2⟩ := ih A0 hl0 ⟨p, hp0, hpi⟩
      exact ⟨r, List.mem_append_left _ hr, h1, h2⟩
theorem AllRead.marked (h : AllRead N F next A M D E) (hA2 : A2.Perm (tagsOf E)) {v : NV} (hv : v ∈ N) (h1 : v.id ≠ 1) : (refsE A2 v.id : Int) = v.links ∧ 1 ≤ v.links ∧ (v.kind = 1 → refsE A2 v.id = 1 ∧ lastF A2 v.id = v.up) := by
  have hp : A2.Perm (T.pairs N F) := hA2.trans (h.read.pr.trans h.prs)
  have hc := h.whole.linked.cnt v hv h1
  have hr : refsE A2 v.id = refsE (T.pairs N F) v.id := mark_perm hp _
  rw [hr]
  refine ⟨hc.1, hc.2, fun hk => ?_⟩
  have hl : v.links = 1 := by
    rcases h.whole.linked.kinds v hv with e | e
    · exact e.2.1
    · rw [e.1] at hk; exact absurd hk (by decide)
  have hone : refsE (T.pairs N F) v.id = 1 := by have := hc.1; omega
  refine ⟨hone, ?_⟩
  obtain ⟨it, hit, hin⟩ := h.whole.linked.ups v hv hk h1
  obtain ⟨p, hp2, hpn, hpl⟩ := lastF_named _ A2 rfl ⟨(v.up, it), hp.mem_iff.2 hit, hin⟩
  have := refs_one hone (hp.mem_iff.1 hp2) hit hpn hin
  rw [hpl, this]
theorem AllRead.hangs (h : AllRead N F next A M D E) (hA2 : A2.Perm (tagsOf E)) {v : NV} (hv : v ∈ N) (hk : v.kind = 1) : ∃ k, k < D.length ∧ iterF (lastF A2) k v.id = 1 ∧ ∀ j, j < k → iterF (lastF A2) j v.id ≠ 1 ∧ ∃ d ∈ D, d.id = iterF (lastF A2) j v.id ∧ WfI d.id ∧ refsE A2 d.id = 1 ∧ lastF A2 d.id = d.up := by
  have hhang := h.whole.linked.hang v hv hk
  obtain ⟨k, hk1, hk2, hk3⟩ := h.whole.linked.short hhang
  obtain ⟨d0, _, hall⟩ := h.whole.linked.way hhang
  -- every node on the way is a folder
  have hway : ∀ j, j ≤ k → ∃ u ∈ N, u.id = upk N j v.id ∧ u.kind = 1 := fun j hj => by
    by_cases hjd : j ≤ d0
    · obtain ⟨h1, h2⟩ := hall j hjd
      obtain ⟨u, hu, e⟩ := List.mem_map.1 h1
      refine ⟨u, hu, e, ?_⟩
      rw [← e, atN_of h.rows.nodup hu] at h2
      exact h2
    · obtain ⟨a1, a2, a3, a4⟩ := h.whole.linked.at1
      have : upk N d0 v.id = 1 := by
        rename_i hd0
        exact hd0
      have hlt : d0 < k := by omega
      exact absurd this (hk3 d0 hlt)
  have heq : ∀ j, j ≤ k → iterF (lastF A2) j v.id = upk N j v.id := by
    intro j
    induction j with
    | zero => intro _; rfl
    | succ j ih =>
      intro hj
      rw [iterF_succ, ih (by omega)]
      obtain ⟨u, hu, hui, huk⟩ := hway j (by omega)
      have hne := hk3 j (by omega)
      rw [← hui] at hne ⊢
      rw [((h.marked hA2 hu hne).2.2 huk).2]
      have h2 : upk N (j + 1) v.id = (atN N (upk N j v.id)).up := by
        rw [upk_add]
        rfl
      rw [h2, ← hui, atN_of h.rows.nodup hu]
  refine ⟨k, by rw [h.length]; exact hk1, by rw [heq k (Nat.le_refl _)]; exact hk2, fun j hj => ?_⟩
  rw [heq j (by omega)]
  refine ⟨hk3 j hj, ?_⟩
  obtain ⟨u, hu, hui, huk⟩ := hway j (by omega)
  obtain ⟨d, hd, hdi, _, hdu, _⟩ := h.noded hu
  have hne := hk3 j hj
  rw [← hui] at hne
  have hm := (h.marked hA2 hu hne).2.2 huk
  exact ⟨d, hd, by rw [hdi, hui], (h.wf hd).1, by rw [hdi]; exact hm.1, by rw [hdi, hdu]; exact hm.2⟩
end Go.Proofs.YtjpmomklkkifjaaGreatDoor.T
namespace Go.Proofs.YtjpmomklkkifjaaGreatDoor.T
open Go.RowKit Go.Lib
set_option maxRecDepth 100000
set_option linter.unusedVariables false
set_option linter.unusedSimpArgs false

theorem H0.nilRow {w0 w : World} (h : H0 w0 w []) : H0 w0 w [rowCh (.slice none 0 0) []] := Hold.nilRow h 69 3
theorem H0.appC {w0 w : World} {v : Value} {R : List CH} (h : H0 w0 w [rowCh v R]) {A : Nat} {c : CH} (hc : w.heap[A]? = some (.cells (encC c).toArray 69 (0, 0))) (hn : R.length ≤ 1000) (ty : TypeId) :
    ∃ v' w', (Builtin.append_ #[54, 54] ty #[v, .slice (some ⟨A, 0, none⟩) 1 1]).run Tryz.prog w = .ok v' w' ∧ H0 w0 w' [rowCh v' (R ++ [c])] := by
  obtain ⟨i0, hi, hz0, hz1, hz2⟩ := info_parts infoChange
  have hv : w.ownsRow w0.heap.size 69 3 v R.length (flatC R) := Hold.sat h (rowCh v R) (by simp)
  have hb : w0.heap.size ≤ w.heap.size := (H0.below h).size
  obtain ⟨v', w', hr, ho, hg, _, ha⟩ := run_append_own_at (P := Tryz.prog) w w0.heap.size 54 ty 69 i0 _ 3 40 Tryz.underlying54 hi hz0 hz1 hz2 rfl (by decide) v _ _ hv ⟨A, 0, none⟩ 1 1 (encC c) rfl (fun j u hj => by
    rw [Addr.add_lit, Nat.zero_add, cell_of_row _ _ j _ 69 (0, 0) hc]
    simpa using hj) (fun u hu => by simp [encC] at hu; rcases hu with rfl | rfl | rfl <;> rfl) (by unfold maxLen; omega) (by omega) hb
  refine ⟨v', w', hr, ?_⟩
  rw [← flatC_snoc] at ho
  have e : R.length + 1 = (R ++ [c]).length := by simp
  rw [e] at ho
  exact Hold.grow [] h hg ho (ha.imp id fun h => ⟨_, h, Nat.le_refl _⟩)
end Go.Proofs.YtjpmomklkkifjaaGreatDoor.T
namespace Go.Proofs.YtjpmomklkkifjaaGreatDoor.T
open Go.RowKit Go.Lib
set_option maxRecDepth 100000
set_option linter.unusedVariables false
set_option linter.unusedSimpArgs false

set_option maxHeartbeats 4000000 in
theorem slEqual_calls {w : World} {b1 b2 n : Nat} {va vb : Value} {L : List CH} (ha : w.ownsRow b1 69 3 va n (flatC L)) (hb : w.ownsRow b2 69 3 vb n (flatC L)) (hn : L.length = n) (hm : n ≤ 200000) :
    Calls Tryz.prog 81 #[va, vb] w fun e w' => e = .returned (.bool true) ∧ Below w.heap.size w w' := by
  obtain ⟨pa, ca, rfl⟩ := row_cut ha
  obtain ⟨pb, cb, rfl⟩ := row_cut hb
  have HN := hide hn
  have HR : Hid (w.ownsRow b1 69 3 (.slice pa n ca) n (flatC L) ∧ w.ownsRow b2 69 3 (.slice pb n cb) n (flatC L) ∧ Below w.heap.size w w) := ⟨ha, hb, Below.refl _ _⟩
  clear ha hb hn
  go_enter Tryz.func81, Tryz.ntmps81
  go_wp2_with fail
  go_loopg [13] (n + 1) (fun k vi wr => ∃ j : Nat, n - j < k ∧ j ≤ n ∧ vi = .int .i64 j ∧ Hid (wr.ownsRow b1 69 3 (.slice pa n ca) n (flatC L) ∧ wr.ownsRow b2 69 3 (.slice pb n cb) n (flatC L) ∧ Below w.heap.size w wr))
  case atStart => exact ⟨0, by omega, by omega, rfl, HR⟩
  case round =>
    obtain ⟨j, hk, hj, rfl, HI⟩ := hrel
    clear HR
    by_cases hjn : j < n
    · have hjz : (j : Int) < (n : Int) := by omega
      have hjl : j < L.length := by rw [unhide HN]; exact hjn
      obtain ⟨x, hx⟩ : ∃ x, L[j]? = some x := ⟨L[j]'hjl, by simp [hjl]⟩
      obtain ⟨g1, cap1, e1, _⟩ := row_shape (unhide HI).1 (by omega)
      injection e1 with e1 _ e2
      subst e1 e2
      obtain ⟨g2, cap2, e3, _⟩ := row_shape (unhide HI).2.1 (by omega)
      injection e3 with e3 _ e4
      subst e3 e4
      obtain ⟨x0, x1, x2⟩ := ch_cell (unhide HI).1 hx
      obtain ⟨y0, y1, y2⟩ := ch_cell (unhide HI).2.1 hx
      clear hx hjl
      go_wp2_with fail
      go_region
      all_goals
        go_wp2_with fail
        go_roundg (n - j)
        case measure => omega
        case rel => exact ⟨j + 1, by omega, by omega, by simp, (unhide HI).1, (unhide HI).2.1, (unhide HI).2.2.drew⟩
    · have hjz : ¬ (j : Int) < (n : Int) := by omega
      go_wp2_with fail
      go_ret
      exact ⟨rfl, (unhide HI).2.2⟩
end Go.Proofs.YtjpmomklkkifjaaGreatDoor.T
namespace Go.Proofs.YtjpmomklkkifjaaGreatDoor.T
open Go.RowKit
set_option maxRecDepth 100000
set_option linter.unusedVariables false
set_option linter.unusedSimpArgs false

theorem rows_len {F : Forest} {next : Int} {N L : List NV} (h : L.Perm N) (hm : (rowsOf F next N).length ≤ 1000) {R T : List CH} (he : rowsOf F next L = R ++ T) : R.length ≤ 1000 ∧ R.length + T.length ≤ 1000 := by
  have h1 := (rowsOf_perm (F := F) (next := next) h).length_eq
  have h2 := congrArg List.length he
  rw [List.length_append] at h2
  omega
theorem drop_flat {F : Forest} {L : List NV} {j : Nat} {u : NV} (hu : L[j]? = some u) : (L.drop j).flatMap (ofNode F) = nodeCh u :: ((entsK F u).map (entCh u.id) ++ (L.drop (j + 1)).flatMap (ofNode F)) := by
  obtain ⟨hj, e⟩ := List.getElem?_eq_some_iff.1 hu
  rw [List.drop_eq_getElem_cons hj, e, List.flatMap_cons]
  rfl
theorem drop_map {α β : Type} {L : List α} {j : Nat} {u : α} (hu : L[j]? = some u) (f : α → β) : (L.drop j).map f = f u :: (L.drop (j + 1)).map f := by
  obtain ⟨hj, e⟩ := List.getElem?_eq_some_iff.1 hu
  rw [List.drop_eq_getElem_cons hj, e, List.map_cons]

variable {w0 w : World} {fb mb : Nat} {N : List NV} {F : Forest} {next : Int} {l2 : List Res}
set_option maxHeartbeats 16000000 in
theorem rows_calls (hR : Ready w0) (h : FSIn w0 w fb mb N F next l2) (hO : RowsOk N F next) :
    Calls Tryz.prog 31 #[.pointer (some ⟨fb, 0, none⟩)] w fun e w' => ∃ v R, e = .returned v ∧ R.Perm (rowsOf F next N) ∧ R.Pairwise (fun a b => ¬ kLt b.key a.key) ∧ FSIn w0 w' fb mb N F next (rowCh v R :: l2) := by
  have hnd := nodes_calls h hO.fits hO.nodup hO.root
  obtain ⟨nx, hnx⟩ : ∃ nx : Nat, next = (nx : Int) := ⟨next.toNat, by have := hO.top; omega⟩
  have htl : ∀ wx, Calls Tryz.prog 68 #[.int .i64 next] wx fun e w' => e = .returned (.string (nextCh next).val) ∧ Below wx.heap.size wx w' := fun wx => by
    have h1 := told_calls next.toNat (by have := hO.top; omega) wx
    rw [Int.toNat_of_nonneg hO.top.1] at h1
    exact h1
  have HNd := hide hnd
  have HTl := hide htl
  have HO := hide hO
  have HR := hide hR
  clear hnd htl hO hR h hnx
  go_enter Tryz.func31, Tryz.ntmps31
  go_wp2_with fail
  refine (unhide HNd).mono ?_
  rintro e w1 ⟨v1, L, rfl, hperm, hsort, h1⟩
  have hlen : L.length ≤ 16 := by rw [hperm.length_eq]; exact (unhide HO).fits.few
  have H1 := hide h1
  have HP := hide hperm
  clear h1 HNd hperm hsort
  go_wp2_with fail
  refine (unhide HTl _).mono ?_
  rintro e w2 ⟨rfl, hb2⟩
  have h2 := (unhide H1).step hb2
  obtain ⟨B, hB⟩ : ∃ B, w2.heap.size = B := ⟨_, rfl⟩
  have h3 := h2.made 69 (encC (nextCh next))
  rw [hB] at h3
  obtain ⟨w3, hw3⟩ : ∃ w3, w2.alloc (.cells (encC (nextCh next)).toArray 69) = w3 := ⟨_, rfl⟩
  rw [hw3] at h3
  have hw3' : w2.alloc (.cells #[.string ⟨#[120]⟩, .string (nextCh next).val, .bool false] 69) = w3 := hw3
  have h4 := h3.cellRow
  obtain ⟨nv, hnv⟩ : ∃ nv, (nextCh next).val = nv := ⟨_, rfl⟩
  rw [hnv] at hw3'
  have H4 : Hid (∃ R, rowsOf F next L = R ++ (L.drop 0).flatMap (ofNode F) ∧ FSIn w0 w3 fb mb N F next (rowCh (.slice (some ⟨B, 0, none⟩) 1 1) R :: rowNd v1 L :: l2)) := ⟨_, rfl, h4⟩
  have hrN := h4.rowAt (v := v1) (.tail _ (.head _))
  obtain ⟨n, hn⟩ : ∃ n, L.length = n := ⟨_, rfl⟩
  obtain ⟨pN, cN, rfl⟩ := row_cut hrN
  rw [hn] at hlen H1 H4 ⊢
  have Hn := hide hn
  clear h2 h3 h4 hb2 H1 HTl hw3 hrN hn
  go_wp2_with fail
  go_loopg [5, 21] (n + 1) (fun k v5 v21 wr => ∃ j : Nat, n - j < k ∧ j ≤ n ∧ v21 = .int .i64 j ∧ Hid (∃ R, rowsOf F next L = R ++ (L.drop j).flatMap (ofNode F) ∧ FSIn w0 wr fb mb N F next (rowCh v5 R :: rowNd (.slice pN n cN) L :: l2)))
  case atStart => exact ⟨0, by omega, by omega, rfl, H4⟩
  case round =>
    obtain ⟨j, hk, hj, rfl, HI⟩ := hrel
    clear H4
    by_cases hjn : j < n
    · have hjz : (j : Int) < (n : Int) := by omega
      have hjl : j < L.length := by rw [unhide Hn]; exact hjn
      obtain ⟨u, hu⟩ : ∃ u, L[j]? = some u := ⟨L[j], by simp [hjl]⟩
      obtain ⟨R, hRe, hI⟩ := unhide HI
      rw [drop_flat hu] at hRe
      have hrowN := hI.rowAt (v := .slice pN n cN) (.tail _ (.head _))
      rw [unhide Hn] at hrowN
      obtain ⟨g, cap, e1, _⟩ := row_shape hrowN (by omega)
      injection e1 with e1 _ e2
      subst e1 e2
      obtain ⟨c0, c1, c2, c3, c4⟩ := node_cell hrowN hu
      have huN : u ∈ N := (unhide HP).mem_iff.1 (List.mem_of_getElem? hu)
      have hids := (unhide HO).ids u huN
      have hnr := fun wx => nodeRow_in u hids ((unhide HO).ups u huN) ((unhide HO).links u huN) ((unhide HO).text u huN) wx
      have hent := fun wx l (hx : FSIn w0 wx fb mb N F next l) => entries_calls hx (unhide HO).fits u.id (wfI_of (by omega) (by omega))
      rw [atN_of (unhide HO).nodup huN] at hent
      have her : ∀ (x : Item), x ∈ entsK F u → ∀ wx l, FSIn w0 wx fb mb N F next l → Calls Tryz.prog 70 #[.int .i64 u.id, .agg #[.string x.name, .int .i64 x.node]] wx fun e w' => e = .returned (.agg #[.string (entCh u.id x).key, .string (entCh u.id x).val, .bool false]) ∧ FSIn w0 w' fb mb N F next l := fun x hx wx l h => by
        have h1 := (unhide HO).ents u huN x hx
        exact (entryRow_in u.id x hids h1.2.2 h1.2.1 wx (h.ready (unhide HR))).mono fun e w' ⟨he, hb⟩ => ⟨he, h.step hb⟩
      obtain ⟨hR1, _⟩ := rows_len (unhide HP) (unhide HO).many hRe
      have hbox := hI.made 33 [.int .i64 u.id, .int .i64 u.kind, .int .i64 u.up, .int .i64 u.links, .string u.text]
      obtain ⟨C, hC⟩ : ∃ C, wr.heap.size = C := ⟨_, rfl⟩
      rw [hC] at hbox
      obtain ⟨cn, hcn⟩ : ∃ cn, nodeCh u = cn := ⟨_, rfl⟩
      have hgn : cn.gone = false := by rw [← hcn]; rfl
      rw [hcn] at hRe hnr
      obtain ⟨w5, hw5⟩ : ∃ w5, wr.alloc (.cells [.int .i64 u.id, .int .i64 u.kind, .int .i64 u.up, .int .i64 u.links, .string u.text].toArray 33) = w5 := ⟨_, rfl⟩
      rw [hw5] at hbox
      have hw5' : wr.alloc (.cells #[.int .i64 u.id, .int .i64 u.kind, .int .i64 u.up, .int .i64 u.links, .string u.text] 33) = w5 := hw5
      have x0 : w5.cell? ⟨C, 0, none⟩ = some (.int .i64 u.id) := hbox.cellAt (.head _) (j := 0) rfl
      have x1 : w5.cell? ⟨C, 1, none⟩ = some (.int .i64 u.kind) := hbox.cellAt (.head _) (j := 1) rfl
      have x2 : w5.cell? ⟨C, 2, none⟩ = some (.int .i64 u.up) := hbox.cellAt (.head _) (j := 2) rfl
      have x3 : w5.cell? ⟨C, 3, none⟩ = some (.int .i64 u.links) := hbox.cellAt (.head _) (j := 3) rfl
      have x4 : w5.cell? ⟨C, 4, none⟩ = some (.string u.text) := hbox.cellAt (.head _) (j := 4) rfl
      have HBox := hide hbox
      have HRe := hide hRe
      have HNr := hide hnr
      have HEn := hide hent
      have HEr := hide her
      have Hu := hide hu
      clear hI HI hrowN huN hids hnr hent her hRe hbox hcn hw5 hu hjl
      generalize u.id = uid at *
      go_wp2_with fail
      refine (unhide HNr _).mono ?_
      rintro e w6 ⟨rfl, hb6⟩
      have h6 := (unhide HBox).step hb6
      obtain ⟨ck, cv, cg⟩ := cn
      simp only at hgn
      subst hgn
      have h7 := h6.alloc (.cells #[.string ck, .string cv, .bool false] 69)
      obtain ⟨v8, w8, hap, h8⟩ := FSIn.appC [_] h7 (c := ⟨ck, cv, false⟩) (heap_alloc_new w6 _) hR1 54
      have y0 : w8.cell? ⟨C, 0, none⟩ = some (.int .i64 uid) := h8.cellAt (.head _) (j := 0) rfl
      have HAp := hide hap
      have H8 := hide h8
      have he8 := unhide HEn w8 _ h8
      have HE8 := hide he8
      clear h6 h7 hap h8 he8 hb6 HNr HBox HEn x0 x1 x2 x3 x4 c0 c1 c2 c3 c4 hw5' hC hR1
      go_wp2_with (at_builtin; refine wpList_appendI rfl _ _ 54 54 rfl _ _ rfl rfl (unhide HAp) ?_)
      refine (unhide HE8).mono ?_
      rintro e w9 ⟨vE, rfl, h9⟩
      obtain ⟨E, hE⟩ : ∃ E, entsK F u = E := ⟨_, rfl⟩
      rw [hE] at h9 HRe HEr
      have hrE := h9.rowAt (v := vE) (e := 38) (k := 2) (.head _)
      have hEl : E.length ≤ 1000 := by
        have h1 := (rows_len (unhide HP) (unhide HO).many (R := R ++ [⟨ck, cv, false⟩]) (T := E.map (entCh uid) ++ (L.drop (j + 1)).flatMap (ofNode F)) (by rw [unhide HRe]; simp)).2
        simp only [List.length_append, List.length_map] at h1
        omega
      have H9 : Hid (∃ R1, rowsOf F next L = R1 ++ ((E.drop 0).map (entCh uid) ++ (L.drop (j + 1)).flatMap (ofNode F)) ∧ FSIn w0 w9 fb mb N F next (rowE vE E :: .cell C 33 [.int .i64 uid, .int .i64 u.kind, .int .i64 u.up, .int .i64 u.links, .string u.text] :: rowCh v8 R1 :: rowNd (.slice (some ⟨g, 0, none⟩) n cN) L :: l2)) := ⟨R ++ [(⟨ck, cv, false⟩ : CH)], by rw [unhide HRe]; simp, h9⟩
      obtain ⟨m, hm⟩ : ∃ m, E.length = m := ⟨_, rfl⟩
      obtain ⟨pE, cE, rfl⟩ := row_cut hrE
      rw [hm] at H9 hEl ⊢
      have Hm := hide hm
      clear h9 hrE hE hm HE8 HRe H8 HAp y0
      go_wp2_with fail
      go_loopg [5, 35] (m + 1) (fun k2 v5 v35 wr2 => ∃ i : Nat, m - i < k2 ∧ i ≤ m ∧ v35 = .int .i64 i ∧ Hid (∃ R1, rowsOf F next L = R1 ++ ((E.drop i).map (entCh uid) ++ (L.drop (j + 1)).flatMap (ofNode F)) ∧ FSIn w0 wr2 fb mb N F next (rowE (.slice pE m cE) E :: .cell C 33 [.int .i64 uid, .int .i64 u.kind, .int .i64 u.up, .int .i64 u.links, .string u.text] :: rowCh v5 R1 :: rowNd (.slice (some ⟨g, 0, none⟩) n cN) L :: l2)))
      case atStart => exact ⟨0, by omega, by omega, rfl, H9⟩
      case round =>
        obtain ⟨i, hk2, hi, rfl, HJ⟩ := hrel
        clear H9
        by_cases him : i < m
        · have hiz : (i : Int) < (m : Int) := by omega
          have hil : i < E.length := by rw [unhide Hm]; exact him
          obtain ⟨x, hx⟩ : ∃ x, E[i]? = some x := ⟨E[i], by simp [hil]⟩
          obtain ⟨R1, hR1e, hJ⟩ := unhide HJ
          rw [drop_map hx] at hR1e
          obtain ⟨hR2, _⟩ := rows_len (unhide HP) (unhide HO).many hR1e
          have hrowE := hJ.rowAt (v := .slice pE m cE) (e := 38) (k := 2) (.head _)
          rw [unhide Hm] at hrowE
          obtain ⟨g2, cap2, e3, _⟩ := row_shape hrowE (by omega)
          injection e3 with e3 _ e4
          subst e3 e4
          obtain ⟨d0, d1⟩ := entry_cell hrowE hx
          have y0 : wr.cell? ⟨C, 0, none⟩ = some (.int .i64 uid) := hJ.cellAt (.tail _ (.head _)) (j := 0) rfl
          have h10 := hJ.alloc (.cells #[.string x.name, .int .i64 x.node] 38)
          obtain ⟨D, hD⟩ : ∃ D, wr.heap.size = D := ⟨_, rfl⟩
          obtain ⟨w10, hw10⟩ : ∃ w10, wr.alloc (.cells #[.string x.name, .int .i64 x.node] 38) = w10 := ⟨_, rfl⟩
          have h10b := hJ.made 38 [.string x.name, .int .i64 x.node]
          rw [hD] at h10b
          have h10c := h10b
          have hw10b : wr.alloc (.cells [.string x.name, .int .i64 x.node].toArray 38) = w10 := hw10
          rw [hw10b] at h10c
          rw [hw10] at h10
          have z0 : w10.cell? ⟨D, 0, none⟩ = some (.string x.name) := h10c.cellAt (.head _) (j := 0) rfl
          have z1 : w10.cell? ⟨D, 1, none⟩ = some (.int .i64 x.node) := h10c.cellAt (.head _) (j := 1) rfl
          have y1 : w10.cell? ⟨C, 0, none⟩ = some (.int .i64 uid) := h10c.cellAt (.tail _ (.tail _ (.head _))) (j := 0) rfl
          have her := unhide HEr x (List.mem_of_getElem? hx) w10 _ h10
          obtain ⟨ce, hce⟩ : ∃ ce, entCh uid x = ce := ⟨_, rfl⟩
          have hge : ce.gone = false := by rw [← hce]; rfl
          rw [hce] at her hR1e
          obtain ⟨ek, ev, eg⟩ := ce
          simp only at hge her
          subst hge
          have HE10 := hide her
          have HR1e := hide hR1e
          clear hJ HJ hrowE her hx hil hR1e hce h10 h10b h10c hw10b
          go_wp2_with fail
          refine (unhide HE10).mono ?_
          rintro e w11 ⟨rfl, h11⟩
          have h12 := h11.alloc (.cells #[.string ek, .string ev, .bool false] 69)
          obtain ⟨v13, w13, hap, h13⟩ := FSIn.appC [_, _] h12 (c := ⟨ek, ev, false⟩) (heap_alloc_new w11 _) hR2 54
          have HAp := hide hap
          have H13 := hide h13
          clear h11 h12 hap h13 HE10 y0 y1 z0 z1 d0 d1 hw10 hD
          go_wp2_with (at_builtin; refine wpList_appendI rfl _ _ 54 54 rfl _ _ rfl rfl (unhide HAp) ?_)
          go_roundg (m - i)
          case measure => omega
          case rel => exact ⟨i + 1, by omega, by omega, by simp, R1 ++ [(⟨ek, ev, false⟩ : CH)], by rw [unhide HR1e]; simp, unhide H13⟩
        · have hiz : ¬ (i : Int) < (m : Int) := by omega
          obtain ⟨R1, hR1e, hJ⟩ := unhide HJ
          rw [List.drop_eq_nil_of_le (by rw [unhide Hm]; omega), List.map_nil, List.nil_append] at hR1e
          have H15 := hide (FSIn.forget [] (FSIn.forget [] hJ))
          have HR15 := hide hR1e
          clear hJ HJ hR1e
          go_wp2_with fail
          go_roundg (n - j)
          case measure => omega
          case rel => exact ⟨j + 1, by omega, by omega, by simp, R1, unhide HR15, unhide H15⟩
    · have hjz : ¬ (j : Int) < (n : Int) := by omega
      obtain ⟨R, hRe, hI⟩ := unhide HI
      rw [List.drop_eq_nil_of_le (by rw [unhide Hn]; omega), List.flatMap_nil, List.append_nil] at hRe
      have hrow := hI.rowAt (e := 69) (k := 3) (.head _)
      have hpR : R.Perm (rowsOf F next N) := by rw [← hRe]; exact rowsOf_perm (unhide HP)
      have hl1 : R.length ≤ 1000 := by rw [hpR.length_eq]; exact (unhide HO).many
      have hl0 : 0 < R.length := by rw [← hRe]; simp [rowsOf]
      obtain ⟨gR0, cR, rfl, _⟩ := row_shape hrow hl0
      have hso := sortRows_calls hrow rfl hl1
      have HSo := hide hso
      have HI2 := hide hI
      have HpR := hide hpR
      obtain ⟨r, hr⟩ : ∃ r, R.length = r := ⟨_, rfl⟩
      rw [hr] at HSo
      have Hr := hide hr
      rw [hr]
      clear hso hI HI hpR hl1 hl0 hrow hRe hr
      go_wp2_with fail
      refine (unhide HSo).mono ?_
      rintro e w20 ⟨rfl, R', hp', hsorted, hrow', hgrow⟩
      have hRl : R'.length = r := by rw [hp'.length_eq, unhide Hr]
      have h20 : FSIn w0 w20 fb mb N F next (rowCh (.slice (some ⟨gR0, 0, none⟩) r cR) R' :: rowNd (.slice pN n cN) L :: l2) := by
        unfold rowCh
        rw [hRl]
        exact FSIn.grow [] (unhide HI2) hgrow hrow' (.inl rfl)
      have H20 := hide (FSIn.forget [_] h20)
      have Hp2 := hide (hp'.trans (unhide HpR))
      have Hs := hide hsorted
      clear h20 hRl hp' hrow' hgrow hsorted HSo HI2 HpR Hr
      go_wp2_with fail
      go_ret
      exact ⟨_, R', rfl, unhide Hp2, unhide Hs, unhide H20⟩
end Go.Proofs.YtjpmomklkkifjaaGreatDoor.T
namespace Go.Proofs.YtjpmomklkkifjaaGreatDoor.T
open Go.RowKit
set_option maxRecDepth 100000
set_option linter.unusedVariables false
set_option linter.unusedSimpArgs false

section
variable {N M : List NV} {F F' : Forest} {next : Int} {A A2 : List (Int × Item)} {D : List DN} {E : List DE} {w0 w : World} {db nb eb : Nat}
theorem AllRead.madeOk (h : AllRead N F next A M D E) (hA2 : A2.Perm (tagsOf E)) : MadeOk w0 db nb eb A2 D E next (fun d => bare (atN N d.id)) := by
  intro d hd
  obtain ⟨v, hv, hvi, hdk, hdu, hdt⟩ := h.dnode hd
  have hat : atN N d.id = v := by rw [← hvi]; exact atN_of h.rows.nodup hv
  simp only
  rw [hat]
  refine ⟨hvi, fun wx lx hx => ?_⟩
  have hDl : D.length ≤ 1000 := by have := h.length; have := h.rows.fits.few; omega
  rcases h.whole.linked.kinds v hv with ⟨hk, hl, ht⟩ | ⟨hk, hu, ht⟩
  · have htl : d.tail = toldS 1 := by
      rw [hdt, hl, ht]
      exact bytes_ext (by simp)
    obtain ⟨k, hk1, hk2, hk3⟩ := h.hangs hA2 hv hk
    rw [hvi] at hk2 hk3
    have := made_folder hx d hd (by rw [hdk, hk]; rfl) htl fun wy ly hy => hangs_calls hy h.nodup hDl d.id k hk1 hk2 hk3
    refine this.mono fun e w' ⟨he, h2, h3⟩ => ⟨?_, h2, h3⟩
    rw [he]
    unfold bare
    simp only
    rw [hvi, hk, hl, ht, hdu]
  · have h1 : v.id ≠ 1 := fun e => by
      obtain ⟨r, hr, hr1, hr2, _⟩ := h.whole.linked.root
      have : v = r := uniq_of h.rows.nodup hv hr (by rw [e, hr1])
      rw [this, hr2] at hk
      exact absurd hk (by decide)
    have hm := h.marked hA2 hv h1
    have hlk := h.rows.links v hv
    rw [hvi] at hm
    have hrn : refsE A2 d.id = v.links.toNat := by have := hm.1; omega
    have := made_file hx d hd (by rw [hdk, hk]; rfl) (by rw [hdu, hu]) v.text ht (by rw [hdt, hrn]) (by omega) (by omega)
    refine this.mono fun e w' ⟨he, h2, h3⟩ => ⟨?_, h2, h3⟩
    rw [he]
    unfold bare
    simp only
    rw [hvi, hk, hu, hm.1]
theorem snoc_inj {α : Type} {a b : List α} {x y : α} (h : a ++ [x] = b ++ [y]) : a = b ∧ x = y := by
  have h1 := congrArg List.length h
  simp only [List.length_append, List.length_cons, List.length_nil] at h1
  obtain ⟨h2, h3⟩ := List.append_inj h (by omega)
  exact ⟨h2, by injection h3⟩
theorem AllRead.twins (h : AllRead N F next A M D E) {L N' : List NV} (hb : Built E F' L N') : ∀ (Fd : List DN), L = Fd.map (fun d => bare (atN N d.id)) → (∀ d ∈ Fd, d ∈ D) → Twins F F' (Fd.map fun d => atN N d.id) N' := by
  induction hb with
  | nil =>
    intro Fd e _
    have : Fd = [] := by cases Fd with | nil => rfl | cons x Fd => simp at e
    subst this
    exact .nil
  | @snoc X Y u v hb h1 ih =>
    intro Fd e hFd
    have hne : Fd ≠ [] := fun e2 => by rw [e2] at e; simp at e
    have hdl := List.dropLast_concat_getLast hne
    generalize Fd.dropLast = F0 at hdl
    generalize Fd.getLast hne = d at hdl
    subst hdl
    rw [List.map_append, List.map_cons, List.map_nil] at e
    obtain ⟨e1, e2⟩ := snoc_inj e
    rw [List.map_append, List.map_cons, List.map_nil]
    have hd := hFd d (by simp)
    obtain ⟨x, hx, hxi, _⟩ := h.dnode hd
    have hat : atN N d.id = x := by rw [← hxi]; exact atN_of h.rows.nodup hx
    rw [hat] at e2 ⊢
    subst e2
    refine .snoc (ih F0 e1 fun z hz => hFd z (List.mem_append_left _ hz)) ⟨h1.id, h1.kind, h1.up, h1.links, h1.text, ?_, h1.tree⟩
    rw [h1.ents]
    unfold entsOfE
    show (if x.kind = 1 then putAll (itemsOf E x.id) else []) = _
    by_cases hk : x.kind = 1
    · rw [if_pos hk, h.built hx]
    · rw [if_neg hk, entsK_file hk]
theorem AllRead.perm (h : AllRead N F next A M D E) {Fd : List DN} (hp : Fd.Perm D) : (Fd.map fun d => atN N d.id).Perm N := by
  have h1 : D.map (fun d => atN N d.id) = M := by
    have : D.map (fun d => atN N d.id) = (D.map DN.id).map (atN N) := by rw [List.map_map]; rfl
    rw [this, h.ids, List.map_map]
    conv => rhs; rw [← List.map_id M]
    refine List.map_congr_left fun v hv => ?_
    exact atN_of h.rows.nodup (h.nodes.mem_iff.1 hv)
  exact (hp.map _).trans (by rw [h1]; exact h.nodes)
theorem AllRead.drawn (h : AllRead N F next A M D E) {Fd : List DN} (hFd : ∀ d ∈ Fd, d ∈ D) (hd : ∀ x ∈ F', ∃ u ∈ Fd.map (fun d => bare (atN N d.id)), u.kind = 1 ∧ x.2 = putAll (itemsOf E u.id)) : Drawn F F' := by
  intro x hx
  obtain ⟨u, hu, hk, e⟩ := hd x hx
  obtain ⟨d, hdm, rfl⟩ := List.mem_map.1 hu
  obtain ⟨v, hv, hvi, _⟩ := h.dnode (hFd d hdm)
  have hat : atN N d.id = v := by rw [← hvi]; exact atN_of h.rows.nodup hv
  rw [hat] at hk e
  obtain ⟨tb, htb, ht⟩ := h.whole.tree v hv hk
  refine ⟨tb, ht, ?_⟩
  rw [e]
  show putAll (itemsOf E v.id) = _
  have hk2 : v.kind = 1 := hk
  rw [h.built hv, entsK_folder hk2 htb]
end

variable {w0 w : World} {N : List NV} {F : Forest} {next : Int} {l0 : List Res}
theorem df_start (h : H0 w0 w l0) : H0 w0 (((w.alloc (.map #[] 0)).alloc (.map #[] 0)).alloc (.cells #[.map (some w.heap.size), .map (some (w.heap.size + 1)), .int .i64 0] 119)) (dfR (w.heap.size + 1 + 1) w.heap.size (w.heap.size + 1) [] [] 0 l0) := by
  have hb := (H0.below h).size
  have h1 := P.mapNew h hb
  have h2 := P.mapNew h1 (by rw [World.size_alloc]; omega)
  have h3 := Hold.made h2 (by rw [World.size_alloc, World.size_alloc]; omega) 119 [.map (some w.heap.size), .map (some (w.heap.size + 1)), .int .i64 0]
  simp only [World.size_alloc] at h3
  refine H0.perm h3 ?_
  show (.cell _ _ _ :: .obj w.heap.size _ :: .obj (w.heap.size + 1) _ :: l0 : List Res).Perm (.cell _ _ _ :: .obj (w.heap.size + 1) _ :: .obj w.heap.size _ :: l0)
  exact List.Perm.cons _ (List.Perm.swap _ _ _)
end Go.Proofs.YtjpmomklkkifjaaGreatDoor.T
namespace Go.Proofs.YtjpmomklkkifjaaGreatDoor.T
open Go.RowKit
set_option maxRecDepth 100000
set_option linter.unusedVariables false
set_option linter.unusedSimpArgs false

variable {w0 w : World} {N : List NV} {F : Forest} {next : Int} {l0 : List Res}
def ReadTo (w0 w : World) (db nb eb : Nat) (next : Int) (l0 : List Res) (T : List Tag) : Prop := ∃ D E nx, RdOk (pairsT T) (nodesT T) D E ∧ (Tag.nx ∈ T → nx = next) ∧ H0 w0 w (dfR db nb eb D E nx l0)
theorem nodesT_snoc (T : List Tag) (t : Tag) : nodesT (T ++ [t]) = nodesT T ++ (match t.node with | some v => [v] | none => []) := by
  unfold nodesT
  rw [List.filterMap_append]
  congr 1
  cases t <;> rfl
theorem pairsT_snoc (T : List Tag) (t : Tag) : pairsT (T ++ [t]) = pairsT T ++ (match t.pair with | some v => [v] | none => []) := by
  unfold pairsT
  rw [List.filterMap_append]
  congr 1
  cases t <;> rfl
theorem rd_ids {A : List (Int × Item)} {M : List NV} {D : List DN} {E : List DE} (h : RdOk A M D E) : D.map DN.id = M.map NV.id := by
  have := congrArg (List.map Prod.fst) h.dn
  simpa [Function.comp_def] using this
theorem read_any (hR : Ready w0) (hO : RowsOk N F next) {db nb eb : Nat} {T T2 : List Tag} {t : Tag} (hT : (T ++ t :: T2).Perm (tagsN N F)) (hl : T.length ≤ 1000) (h : ReadTo w0 w db nb eb next l0 T) :
    Calls Tryz.prog 77 #[.pointer (some ⟨db, 0, none⟩), .agg #[.string (t.row next).key, .string (t.row next).val, .bool (t.row next).gone]] w fun e w' => e = .returned (.bool true) ∧ ReadTo w0 w' db nb eb next l0 (T ++ [t]) := by
  obtain ⟨D, E, nx, hrd, hnx, hx⟩ := h
  have hmem : t ∈ tagsN N F := hT.mem_iff.1 (by simp)
  have hnp : (nodesT (T ++ t :: T2)).Perm N := by
    have := hT.filterMap Tag.node
    rw [show (tagsN N F).filterMap Tag.node = N from tags_nodes N F] at this
    exact this
  have hpl : (pairsT T).length ≤ T.length := List.length_filterMap_le _ _
  have hnl : (nodesT T).length ≤ T.length := List.length_filterMap_le _ _
  have hDl : D.length ≤ 1000 := by
    have := congrArg List.length (rd_ids hrd)
    simp only [List.length_map] at this
    omega
  have hEl : E.length ≤ 1000 := by have := hrd.len; omega
  have hIl : ∀ e ∈ E, e.items.length ≤ 1000 := fun e he => by
    rw [(hrd.ei e he).1]
    have := List.length_filterMap_le (fun p : Int × Item => if p.1 = e.folder then some p.2 else none) (pairsT T)
    unfold entsT
    omega
  cases t with
  | nx =>
    have h1 := readNext_calls hx next.toNat (by have := hO.top; omega) false
    rw [Int.toNat_of_nonneg hO.top.1] at h1
    refine Calls.mono (show Calls Tryz.prog 77 _ _ _ from h1) ?_
    rintro e w' ⟨he, h2⟩
    refine ⟨he, D, E, next, ?_, fun _ => rfl, h2⟩
    rw [nodesT_snoc, pairsT_snoc]
    show RdOk (pairsT T ++ []) (nodesT T ++ []) D E
    rw [List.append_nil, List.append_nil]
    exact hrd
  | nd v =>
    have hvN : v ∈ N := by
      have h1 : v ∈ nodesT (T ++ Tag.nd v :: T2) := List.mem_filterMap.2 ⟨Tag.nd v, by simp, rfl⟩
      exact hnp.mem_iff.1 h1
    have hfresh : v.id ∉ D.map DN.id := by
      rw [rd_ids hrd]
      have h1 := (hnp.map NV.id).nodup_iff.2 hO.nodup
      have e1 : nodesT (T ++ Tag.nd v :: T2) = nodesT T ++ v :: nodesT T2 := by
        unfold nodesT
        rw [List.filterMap_append, List.filterMap_cons]
        rfl
      rw [e1, List.map_append, List.map_cons, List.nodup_append] at h1
      intro hm
      exact h1.2.2 _ hm v.id (by simp) rfl
    have h1 := readNodeRow_calls hx hDl v (hO.ids v hvN) hfresh (hO.ups v hvN) (hO.links v hvN) (hO.text v hvN) false
    refine Calls.mono (show Calls Tryz.prog 77 _ _ _ from h1) ?_
    rintro e w' ⟨he, blk, h2⟩
    refine ⟨he, _, E, nx, ?_, fun hm => ?_, h2⟩
    · rw [nodesT_snoc, pairsT_snoc]
      show RdOk (pairsT T ++ []) (nodesT T ++ [v]) _ E
      rw [List.append_nil]
      exact hrd.node v blk
    · rcases List.mem_append.1 hm with hm | hm
      · exact hnx hm
      · simp at hm
  | en i x =>
    have hpx : (i, x) ∈ pairs N F := by
      have h1 : (i, x) ∈ pairsT (tagsN N F) := List.mem_filterMap.2 ⟨Tag.en i x, hmem, rfl⟩
      rw [tags_pairs] at h1
      exact h1
    obtain ⟨u, hu, hm⟩ := List.mem_flatMap.1 hpx
    obtain ⟨y, hy, e1⟩ := List.mem_map.1 hm
    injection e1 with e1 e2
    subst e2
    have hxo := hO.ents u hu y hy
    have hio := hO.ids u hu
    rw [e1] at hio
    have h1 := readEntryRow_calls hR hx hrd.ef hEl hIl i hio y hxo.2.2 hxo.2.1 false
    refine Calls.mono (show Calls Tryz.prog 77 _ _ _ from h1) ?_
    rintro e w' ⟨he, E', hadd, h2⟩
    refine ⟨he, D, E', nx, ?_, fun hm => ?_, h2⟩
    · rw [nodesT_snoc, pairsT_snoc]
      show RdOk (pairsT T ++ [(i, y)]) (nodesT T ++ []) D E'
      rw [List.append_nil]
      exact hrd.ent hadd
    · rcases List.mem_append.1 hm with hm | hm
      · exact hnx hm
      · simp at hm
end Go.Proofs.YtjpmomklkkifjaaGreatDoor.T
