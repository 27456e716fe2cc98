import Derived.Test.YtjpmomklkkifjaaGreatDoorCFEntsK
import Derived.Test.YtjpmomklkkifjaaGreatDoorCFRename
import Derived.Test.YtjpmomklkkifjaaGreatDoorCFAddF
import Derived.Lib.SplitLaws
import Derived.Lib.IndexBytes
import Derived.Test.YtjpmomklkkifjaaGreatDoorCWrite
import Derived.Deep.QuietTactic
import Derived.BigQuiet
import Derived.BigRegion
set_option maxRecDepth 100000
set_option linter.unusedVariables false
set_option linter.unusedSimpArgs false
namespace Go.Proofs.YtjpmomklkkifjaaGreatDoor.T
open Go.RowKit
def tagE (i : Int) (L : List Item) : List (Int × Item) := L.map fun it => (i, it)
def pairs (N : List NV) (F : Forest) : List (Int × Item) := N.flatMap fun v => tagE v.id (entsK F v)
structure Trees (F : Forest) : Prop where
  keys : (F.map (·.1)).Nodup
  named : ∀ x ∈ F, ∀ it ∈ x.2, it.key = keyS it.name ∧ checkP it.name = none
  sorted : ∀ x ∈ F, Sorted x.2
structure Whole (N : List NV) (F : Forest) (next : Int) : Prop where
  linked : Linked N (pairs N F)
  trees : Trees F
  ids : ∀ v ∈ N, 1 ≤ v.id ∧ v.id < next
  tree : ∀ v ∈ N, v.kind = 1 → ∃ tb, v.tb = some tb ∧ tb ∈ F.map (·.1)
  tbs : ∀ u ∈ N, ∀ v ∈ N, u.kind = 1 → v.kind = 1 → u.tb = v.tb → u.id = v.id
variable {N : List NV} {F : Forest} {next : Int}
theorem Trees.set (h : Trees F) {tb : Nat} {L : List Item} (h1 : ∀ it ∈ L, it.key = keyS it.name ∧ checkP it.name = none) (h2 : Sorted L) : Trees (setF F tb L) := by
  refine ⟨by rw [setF_keys]; exact h.keys, fun x hx it hit => ?_, fun x hx => ?_⟩
  · rcases mem_setF hx with e | e
    · rw [e] at hit; exact h1 it hit
    · exact h.named x e it hit
  · rcases mem_setF hx with e | e
    · rw [e]; exact h2
    · exact h.sorted x e
theorem Trees.look (h : Trees F) {tb : Nat} (ht : tb ∈ F.map (·.1)) : Sorted (lookF F tb) ∧ ∀ it ∈ lookF F tb, it.key = keyS it.name ∧ checkP it.name = none := ⟨h.sorted _ (lookF_in ht), h.named _ (lookF_in ht)⟩
theorem Trees.put (h : Trees F) {tb : Nat} (ht : tb ∈ F.map (·.1)) {it : Item} (h1 : it.key = keyS it.name ∧ checkP it.name = none) : Trees (putF F tb it) :=
  h.set (fun x hx => by
    rcases mem_putL hx with rfl | hx
    · exact h1
    · exact (h.look ht).2 x hx) (putL_sorted (h.look ht).1)
theorem Trees.drop (h : Trees F) {tb : Nat} (ht : tb ∈ F.map (·.1)) (key : ByteArray) : Trees (dropF F tb key) :=
  h.set (fun x hx => (h.look ht).2 x (mem_dropL hx)) (dropL_sorted (h.look ht).1)
theorem Trees.new (h : Trees F) {tb : Nat} (ht : tb ∉ F.map (·.1)) : Trees ((tb, []) :: F) :=
  ⟨by rw [List.map_cons, List.nodup_cons]; exact ⟨ht, h.keys⟩, fun x hx it hit => by
    rcases List.mem_cons.1 hx with rfl | hx
    · cases hit
    · exact h.named x hx it hit, fun x hx => by
    rcases List.mem_cons.1 hx with rfl | hx
    · exact List.Pairwise.nil
    · exact h.sorted x hx⟩
theorem putL_perm {it : Item} : ∀ {L : List Item}, getL L it.key = none → (putL L it).Perm (it :: L)
  | [], _ => List.Perm.refl _
  | x :: L, h => by
    unfold getL at h
    rw [List.find?_cons] at h
    unfold putL
    split
    · exact List.Perm.refl _
    split
    · rename_i he
      rw [decide_eq_true he] at h
      cases h
    · rename_i he
      rw [decide_eq_false he] at h
      exact ((putL_perm (L := L) h).cons x).trans (List.Perm.swap it x L)
theorem dropL_perm {key : ByteArray} {it : Item} : ∀ {L : List Item}, Sorted L → getL L key = some it → L.Perm (it :: dropL L key)
  | [], _, h => by cases h
  | x :: L, hs, h => by
    obtain ⟨h1, h2⟩ := List.pairwise_cons.1 hs
    unfold getL at h
    rw [List.find?_cons] at h
    unfold dropL
    rw [List.filter_cons]
    by_cases he : x.key = key
    · rw [decide_eq_true he] at h
      have hx : x = it := by simpa using h
      rw [decide_eq_true he, hx]
      simp only [Bool.not_true, Bool.false_eq_true, if_false]
      have : L.filter (fun y => !decide (y.key = key)) = L := List.filter_eq_self.2 fun y hy => by
        have := kLt_ne (h1 y hy)
        rw [he] at this
        simp only [Bool.not_eq_true', decide_eq_false_iff_not]
        exact fun e => this e.symm
      rw [this]
    · rw [decide_eq_false he] at h
      rw [decide_eq_false he]
      simp only [Bool.not_false, if_true]
      exact ((dropL_perm h2 h).cons x).trans (List.Perm.swap it x _)
theorem getL_drop_same (L : List Item) (key : ByteArray) : getL (dropL L key) key = none := getL_none fun x hx e => by
  have := (List.mem_filter.1 hx).2
  simp [e] at this
theorem getL_drop_other {key k2 : ByteArray} (h : k2 ≠ key) : ∀ (L : List Item), getL (dropL L key) k2 = getL L k2
  | [] => rfl
  | x :: L => by
    have ih := getL_drop_other h L
    unfold getL dropL at ih ⊢
    rw [List.filter_cons]
    by_cases he : x.key = key
    · rw [decide_eq_true he]
      simp only [Bool.not_true, Bool.false_eq_true, if_false]
      rw [ih, List.find?_cons, decide_eq_false (by rw [he]; exact fun e => h e.symm)]
    · rw [decide_eq_false he]
      simp only [Bool.not_false, if_true]
      rw [List.find?_cons, List.find?_cons, ih]
theorem getL_drop_none {L : List Item} {k2 : ByteArray} (key : ByteArray) (h : getL L k2 = none) : getL (dropL L key) k2 = none := getL_none fun x hx e => by
  have := List.find?_eq_none.1 h x (mem_dropL hx)
  simp [e] at this
theorem entsK_folder {v : NV} {tb : Nat} (hk : v.kind = 1) (htb : v.tb = some tb) (F : Forest) : entsK F v = lookF F tb := by unfold entsK entsOf; rw [if_pos hk, htb]
theorem entsK_set_other {v : NV} {tb : Nat} (h : v.kind = 1 → v.tb ≠ some tb) (F : Forest) (L : List Item) : entsK (setF F tb L) v = entsK F v := by
  unfold entsK
  split
  · rename_i hk
    unfold entsOf
    cases hv : v.tb with
    | none => rfl
    | some t => exact lookF_set_other F tb t L fun e => h hk (by rw [hv, e])
  · rfl
theorem pairs_append (A B : List NV) (F : Forest) : pairs (A ++ B) F = pairs A F ++ pairs B F := by simp [pairs]
theorem pairs_cons (v : NV) (B : List NV) (F : Forest) : pairs (v :: B) F = tagE v.id (entsK F v) ++ pairs B F := rfl
theorem pairs_congr {F G : Forest} : ∀ {A : List NV}, (∀ u ∈ A, entsK F u = entsK G u) → pairs A F = pairs A G
  | [], _ => rfl
  | u :: A, h => by rw [pairs_cons, pairs_cons, h u (by simp), pairs_congr fun x hx => h x (by simp [hx])]
theorem pairs_set (hn : (N.map NV.id).Nodup) (ht : ∀ u ∈ N, ∀ v ∈ N, u.kind = 1 → v.kind = 1 → u.tb = v.tb → u.id = v.id) {v : NV} (hv : v ∈ N) (hk : v.kind = 1) {tb : Nat} (htb : v.tb = some tb) (hF : tb ∈ F.map (·.1)) :
    ∃ R, (pairs N F).Perm (tagE v.id (lookF F tb) ++ R) ∧ ∀ L, (pairs N (setF F tb L)).Perm (tagE v.id L ++ R) := by
  obtain ⟨A, B, rfl⟩ := List.append_of_mem hv
  have hoth : ∀ L, ∀ u ∈ A ++ B, entsK (setF F tb L) u = entsK F u := fun L u hu => by
    refine entsK_set_other (fun huk e => ?_) F L
    have hu' : u ∈ A ++ v :: B := by
      rcases List.mem_append.1 hu with h | h <;> simp [h]
    have hid := ht u hu' v hv huk hk (by rw [e, htb])
    rw [List.map_append, List.map_cons] at hn
    have h2 := List.nodup_append.1 hn
    have h3 := List.nodup_cons.1 h2.2.1
    rcases List.mem_append.1 hu with h | h
    · exact h2.2.2 _ (List.mem_map.2 ⟨u, h, rfl⟩) v.id (by simp) hid
    · exact h3.1 (List.mem_map.2 ⟨u, h, hid⟩)
  refine ⟨pairs A F ++ pairs B F, ?_, fun L => ?_⟩
  · rw [pairs_append, pairs_cons, entsK_folder hk htb]
    exact List.perm_append_comm_assoc _ _ _
  · rw [pairs_append, pairs_cons, entsK_folder hk htb, lookF_set _ _ _ hF, pairs_congr (G := F) (fun u hu => hoth L u (by simp [hu])), pairs_congr (A := B) (G := F) (fun u hu => hoth L u (by simp [hu]))]
    exact List.perm_append_comm_assoc _ _ _
theorem Whole.setP (h : Whole N F next) {v : NV} (hv : v ∈ N) (hk : v.kind = 1) {tb : Nat} (htb : v.tb = some tb) (hF : tb ∈ F.map (·.1)) :
    ∃ R, (pairs N F).Perm (tagE v.id (lookF F tb) ++ R) ∧ ∀ L, (pairs N (setF F tb L)).Perm (tagE v.id L ++ R) := pairs_set h.linked.nodup h.tbs hv hk htb hF
theorem pairs_put (h : Whole N F next) {v : NV} (hv : v ∈ N) (hk : v.kind = 1) {tb : Nat} (htb : v.tb = some tb) (hF : tb ∈ F.map (·.1)) {it : Item} (hg : getL (lookF F tb) it.key = none) :
    (pairs N (putF F tb it)).Perm ((v.id, it) :: pairs N F) := by
  obtain ⟨R, h1, h2⟩ := h.setP hv hk htb hF
  refine (h2 _).trans ?_
  refine List.Perm.trans ?_ (h1.symm.cons _)
  exact ((putL_perm hg).map _).append_right R
theorem pairs_drop (h : Whole N F next) {v : NV} (hv : v ∈ N) (hk : v.kind = 1) {tb : Nat} (htb : v.tb = some tb) (hF : tb ∈ F.map (·.1)) {key : ByteArray} {it : Item} (hg : getL (lookF F tb) key = some it) :
    (pairs N F).Perm ((v.id, it) :: pairs N (dropF F tb key)) := by
  obtain ⟨R, h1, h2⟩ := h.setP hv hk htb hF
  refine h1.trans ?_
  refine List.Perm.trans ?_ ((h2 _).symm.cons _)
  exact ((dropL_perm (h.trees.look hF).1 hg).map _).append_right R
theorem pairs_same (hn : (N.map NV.id).Nodup) {v v' : NV} (hv : v ∈ N) (h1 : v'.id = v.id) (h2 : v'.kind = v.kind) (h3 : v'.tb = v.tb) (F : Forest) : pairs (putN N v') F = pairs N F := by
  have he : entsK F v' = entsK F v := by unfold entsK entsOf; rw [h2, h3]
  have hf : (findN N v'.id).isSome = true := by rw [h1, findN_mem hn hv]; rfl
  unfold putN
  rw [if_pos hf]
  have key : ∀ A : List NV, (∀ u ∈ A, u ∈ N) → pairs (A.map fun x => if x.id == v'.id then v' else x) F = pairs A F := by
    intro A
    induction A with
    | nil => intro _; rfl
    | cons u A ih =>
      intro hA
      rw [List.map_cons, pairs_cons, pairs_cons, ih fun x hx => hA x (by simp [hx])]
      congr 1
      split
      · rename_i e
        have : u = v := uniq_of hn (hA u (by simp)) hv (by rw [← h1]; simpa using e)
        rw [this, he, h1]
      · rfl
  exact key N fun u hu => hu
theorem pairs_new {v : NV} (h : findN N v.id = none) (F : Forest) : pairs (putN N v) F = pairs N F ++ tagE v.id (entsK F v) := by
  unfold putN
  rw [h]
  simp only [Option.isSome_none, Bool.false_eq_true, if_false]
  rw [pairs_append, pairs_cons]
  simp [pairs]
theorem delN_of (hn : (N.map NV.id).Nodup) {v : NV} (hv : v ∈ N) : ∃ A B, N = A ++ v :: B ∧ delN N v.id = A ++ B := by
  obtain ⟨A, B, rfl⟩ := List.append_of_mem hv
  refine ⟨A, B, rfl, ?_⟩
  rw [List.map_append, List.map_cons] at hn
  have h2 := List.nodup_append.1 hn
  have h3 := List.nodup_cons.1 h2.2.1
  unfold delN
  rw [List.filter_append, List.filter_cons]
  have e1 : A.filter (fun x => !(x.id == v.id)) = A := List.filter_eq_self.2 fun x hx => by
    have := h2.2.2 _ (List.mem_map.2 ⟨x, hx, rfl⟩) v.id (by simp)
    simpa using this
  have e2 : B.filter (fun x => !(x.id == v.id)) = B := List.filter_eq_self.2 fun x hx => by
    have : x.id ≠ v.id := fun e => h3.1 (by rw [← e]; exact List.mem_map.2 ⟨x, hx, rfl⟩)
    simpa using this
  rw [e1, e2]
  simp
theorem pairs_move (hn : (N.map NV.id).Nodup) {v : NV} (hv : v ∈ N) (up : Int) (F : Forest) : pairs (moveN N v.id up) F = pairs N F := by
  unfold moveN
  rw [atN_of hn hv]
  split
  · exact pairs_same hn hv (v' := { v with up := up }) rfl rfl rfl F
  · rfl
theorem lookF_cons_ne {tb t : Nat} (h : tb ≠ t) (F : Forest) : lookF ((tb, []) :: F) t = lookF F t := by
  unfold lookF
  rw [List.find?_cons]
  have : (tb == t) = false := by simpa using h
  simp only [this]
theorem lookF_cons_eq (tb : Nat) (F : Forest) : lookF ((tb, []) :: F) tb = [] := by simp [lookF]
theorem Whole.find_next (h : Whole N F next) : findN N next = none ∧ next ≠ 1 := by
  constructor
  · unfold findN
    rw [List.find?_eq_none]
    intro v hv e
    have := (h.ids v hv).2
    have e' : v.id = next := by simpa using e
    omega
  · obtain ⟨r, hr, h1, _⟩ := h.linked.root
    have := (h.ids r hr).2
    omega
theorem PlaceOk.free {p : PL} (hp : PlaceOk N F p) (h : getL (entsOf F p.v) p.key = none) : getL (lookF F p.tb) p.key = none := by
  unfold entsOf at h
  rw [hp.tbs.1] at h
  exact h
theorem PlaceOk.taken {p : PL} {it : Item} (hp : PlaceOk N F p) (h : getL (entsOf F p.v) p.key = some it) : getL (lookF F p.tb) p.key = some it := by
  unfold entsOf at h
  rw [hp.tbs.1] at h
  exact h
theorem Whole.addFolder (h : Whole N F next) {p : PL} (hp : PlaceOk N F p) (hf : getL (entsOf F p.v) p.key = none) {tb : Nat} (ht : tb ∉ F.map (·.1)) : Whole (putN N ⟨next, 1, p.v.id, 1, ⟨#[]⟩, some tb⟩) (putF ((tb, []) :: F) p.tb ⟨p.key, p.name, next⟩) (next + 1) := by
  obtain ⟨hfn, hn1⟩ := h.find_next
  have hpt := hp.tbs
  have hne : tb ≠ p.tb := fun e => ht (by rw [e]; exact hpt.2)
  have hents : ∀ u ∈ N, entsK ((tb, []) :: F) u = entsK F u := fun u hu => by
    unfold entsK
    split
    · rename_i huk
      obtain ⟨t, h1, h2⟩ := h.tree u hu huk
      unfold entsOf
      rw [h1]
      exact lookF_cons_ne (fun e => ht (by rw [e]; exact h2)) F
    · rfl
  have hW1 : Whole N ((tb, []) :: F) next := ⟨by rw [pairs_congr hents]; exact h.linked, h.trees.new ht, h.ids, fun u hu huk => by
    obtain ⟨t, h1, h2⟩ := h.tree u hu huk
    exact ⟨t, h1, List.mem_cons_of_mem _ h2⟩, h.tbs⟩
  have hin : p.tb ∈ ((tb, []) :: F).map (·.1) := List.mem_cons_of_mem _ hpt.2
  have hperm := pairs_put hW1 hp.inN hp.kind hpt.1 hin (it := ⟨p.key, p.name, next⟩) (by rw [lookF_cons_ne hne]; exact hp.free hf)
  have hempty : entsK (putF ((tb, []) :: F) p.tb ⟨p.key, p.name, next⟩) ⟨next, 1, p.v.id, 1, ⟨#[]⟩, some tb⟩ = [] := by
    rw [entsK_folder (tb := tb) rfl rfl]
    unfold putF
    rw [lookF_set_other _ _ _ _ hne, lookF_cons_eq]
  refine ⟨?_, hW1.trees.put hin ⟨hp.key, hp.name⟩, fun v hv => ?_, fun v hv hk => ?_, fun u hu v hv hku hkv e => ?_⟩
  · rw [pairs_new (v := ⟨next, 1, p.v.id, 1, ⟨#[]⟩, some tb⟩) hfn, hempty]
    refine ((hW1.linked.add (v := ⟨next, 1, p.v.id, 1, ⟨#[]⟩, some tb⟩) hfn hn1 hp.inN hp.kind (.inl ⟨rfl, rfl, rfl, rfl⟩) (it := ⟨p.key, p.name, next⟩) rfl).perm hperm.symm).perm ?_
    simp [tagE]
  · rcases mem_putN_iff.1 hv with rfl | ⟨hv, _⟩
    · obtain ⟨r, hr, h1, _⟩ := h.linked.root
      have := (h.ids r hr).2
      exact ⟨by simp only; omega, by simp only; omega⟩
    · have := h.ids v hv; omega
  · unfold putF
    rw [setF_keys]
    rcases mem_putN_iff.1 hv with rfl | ⟨hv, _⟩
    · exact ⟨tb, rfl, List.mem_cons_self⟩
    · exact hW1.tree v hv hk
  · have key : ∀ x ∈ N, x.kind = 1 → x.tb ≠ some tb := fun x hx hxk e2 => by
      obtain ⟨t, h1, h2⟩ := h.tree x hx hxk
      rw [h1] at e2
      exact ht (by rw [← Option.some.inj e2]; exact h2)
    rcases mem_putN_iff.1 hu with rfl | ⟨hu, _⟩
    · rcases mem_putN_iff.1 hv with rfl | ⟨hv, _⟩
      · rfl
      · exact absurd e.symm (key v hv hkv)
    · rcases mem_putN_iff.1 hv with rfl | ⟨hv, _⟩
      · exact absurd e (key u hu hku)
      · exact h.tbs u hu v hv hku hkv e
theorem Whole.of_put (h : Whole N F next) {v' : NV} {G : Forest} {m : Int} (hl : Linked (putN N v') (pairs (putN N v') G)) (ht : Trees G) (hk : G.map (·.1) = F.map (·.1)) (hid : 1 ≤ v'.id ∧ v'.id < m) (hm : next ≤ m) (hold : v'.kind = 1 → ∃ v ∈ N, v.id = v'.id ∧ v.kind = 1 ∧ v.tb = v'.tb) : Whole (putN N v') G m := by
  refine ⟨hl, ht, fun v hv => ?_, fun v hv hkv => ?_, fun u hu v hv hku hkv e => ?_⟩
  · rcases mem_putN_iff.1 hv with rfl | ⟨hv, _⟩
    · exact hid
    · have := h.ids v hv; omega
  · rw [hk]
    rcases mem_putN_iff.1 hv with rfl | ⟨hv, _⟩
    · obtain ⟨x, hx, h1, h2, h3⟩ := hold hkv
      rw [← h3]
      exact h.tree x hx h2
    · exact h.tree v hv hkv
  · rcases mem_putN_iff.1 hu with eu | ⟨hu', _⟩
    · obtain ⟨x, hx, h1, h2, h3⟩ := hold (by rw [← eu]; exact hku)
      rcases mem_putN_iff.1 hv with ev | ⟨hv', _⟩
      · rw [eu, ev]
      · rw [eu, ← h1]; exact h.tbs x hx v hv' h2 hkv (by rw [h3, ← eu, e])
    · rcases mem_putN_iff.1 hv with ev | ⟨hv', _⟩
      · obtain ⟨x, hx, h1, h2, h3⟩ := hold (by rw [← ev]; exact hkv)
        rw [ev, ← h1]; exact h.tbs u hu' x hx hku h2 (by rw [h3, ← ev, e])
      · exact h.tbs u hu' v hv' hku hkv e
theorem Whole.addFile (h : Whole N F next) {p : PL} (hp : PlaceOk N F p) (hf : getL (entsOf F p.v) p.key = none) {text : ByteArray} (ht : text.size ≤ 20) : Whole (putN N ⟨next, 2, 0, 1, text, none⟩) (putF F p.tb ⟨p.key, p.name, next⟩) (next + 1) := by
  obtain ⟨hfn, hn1⟩ := h.find_next
  have hpt := hp.tbs
  have hperm := pairs_put h hp.inN hp.kind hpt.1 hpt.2 (it := ⟨p.key, p.name, next⟩) (hp.free hf)
  have h1next : 1 ≤ next := by
    obtain ⟨r, hr, h1, _⟩ := h.linked.root
    have := (h.ids r hr).2
    omega
  refine h.of_put ?_ (h.trees.put hpt.2 ⟨hp.key, hp.name⟩) (setF_keys _ _ _) ⟨by simp only; omega, by simp only; omega⟩ (by omega) (fun hk => by simp at hk)
  rw [pairs_new (v := ⟨next, 2, 0, 1, text, none⟩) hfn]
  refine ((h.linked.add (v := ⟨next, 2, 0, 1, text, none⟩) hfn hn1 hp.inN hp.kind (.inr ⟨rfl, rfl, ht, rfl⟩) (it := ⟨p.key, p.name, next⟩) rfl).perm hperm.symm).perm ?_
  simp [tagE, entsK]
theorem Whole.write (h : Whole N F next) (s t : ByteArray) : Whole (writeP N F s t).2 F next := by
  unfold writeP
  split
  · exact h
  rename_i h20
  split
  · exact h
  rename_i v hv
  obtain ⟨h1, h2⟩ := fileP_in hv
  have hcv := h.linked.cnt v h1 (h.linked.file_ne h1 h2)
  have hkd := h.linked.kinds v h1
  have hu : v.up = 0 := by
    rcases hkd with e | e
    · rw [h2] at e; exact absurd e.1 (by decide)
    · exact e.2.1
  refine h.of_put (v' := { v with text := t }) ?_ h.trees rfl (h.ids v h1) (by omega) (fun hk => by simp only at hk; rw [h2] at hk; exact absurd hk (by decide))
  rw [pairs_same h.linked.nodup h1 (v' := { v with text := t }) rfl rfl rfl]
  exact h.linked.file h1 h2 (v' := { v with text := t }) rfl h2 hu (by simp only; omega) (fun x hx => .inl hx) (fun x hx _ => hx) (fun _ _ => rfl) hcv
theorem Whole.link (h : Whole N F next) (hF : Fits N F next) (s t : ByteArray) : Whole (linkP N F s t).2.1 (linkP N F s t).2.2 next := by
  unfold linkP
  split
  · exact h
  rename_i v hv
  split
  · exact h
  rename_i p hp
  obtain ⟨h1, h2⟩ := fileP_in hv
  obtain ⟨hpo, hfree⟩ := freeP_ok hF hp
  have hcv := h.linked.cnt v h1 (h.linked.file_ne h1 h2)
  have hkd := h.linked.kinds v h1
  have hu : v.up = 0 ∧ v.text.size ≤ 20 := by
    rcases hkd with e | e
    · rw [h2] at e; exact absurd e.1 (by decide)
    · exact e.2
  have hpt := hpo.tbs
  have hperm := pairs_put h hpo.inN hpo.kind hpt.1 hpt.2 (it := ⟨p.key, p.name, v.id⟩) (hpo.free hfree)
  refine h.of_put (v' := { v with links := v.links + 1 }) ?_ (h.trees.put hpt.2 ⟨hpo.key, hpo.name⟩) (setF_keys _ _ _) (h.ids v h1) (by omega) (fun hk => by simp only at hk; rw [h2] at hk; exact absurd hk (by decide))
  rw [pairs_same h.linked.nodup h1 (v' := { v with links := v.links + 1 }) rfl rfl rfl]
  refine Linked.perm ?_ hperm.symm
  refine h.linked.file h1 h2 (v' := { v with links := v.links + 1 }) rfl h2 hu.1 hu.2 (fun x hx => ?_) (fun x hx _ => List.mem_cons_of_mem _ hx) (fun i hi => ?_) ⟨?_, by simp only; omega⟩
  · rcases List.mem_cons.1 hx with rfl | hx
    · exact .inr ⟨rfl, p.v, hpo.inN, rfl, hpo.kind⟩
    · exact .inl hx
  · rw [refs_cons, if_neg (by simp only; exact fun e => hi e.symm), Nat.add_zero]
  · rw [refs_cons, if_pos rfl]
    simp only
    omega
theorem entsK_file {v : NV} (h : v.kind ≠ 1) (F : Forest) : entsK F v = [] := by unfold entsK; rw [if_neg h]
theorem Whole.node (h : Whole N F next) {p : PL} (hp : PlaceOk N F p) {it : Item} (hit : getL (entsOf F p.v) p.key = some it) : ∃ v ∈ N, v.id = it.node ∧ (p.v.id, it) ∈ pairs N F := by
  have hperm := pairs_drop h hp.inN hp.kind hp.tbs.1 hp.tbs.2 (hp.taken hit)
  have hm : (p.v.id, it) ∈ pairs N F := hperm.mem_iff.2 List.mem_cons_self
  obtain ⟨_, v, hv, hid⟩ := h.linked.named _ hm
  exact ⟨v, hv, hid, hm⟩
theorem Whole.unlinked (h : Whole N F next) {p : PL} (hp : PlaceOk N F p) {it : Item} (hit : getL (entsOf F p.v) p.key = some it) (hempty : (atN N it.node).kind = 1 → entsK F (atN N it.node) = []) : Whole (unlinkN N it.node) (dropF F p.tb p.key) next := by
  obtain ⟨v, hv, hid, hm⟩ := h.node hp hit
  have hat : atN N it.node = v := by rw [← hid]; exact atN_of h.linked.nodup hv
  rw [hat] at hempty
  have hpt := hp.tbs
  have hperm := pairs_drop h hp.inN hp.kind hpt.1 hpt.2 (hp.taken hit)
  have hvp : v.id ≠ p.v.id := fun e => by
    have hvp := uniq_of h.linked.nodup hv hp.inN e
    have h1 := hempty (by rw [hvp]; exact hp.kind)
    rw [hvp, entsK_folder hp.kind hpt.1] at h1
    have h2 := hp.taken hit
    rw [h1] at h2
    cases h2
  have hv0 : entsK F v = [] := by
    by_cases hk : v.kind = 1
    · exact hempty hk
    · exact entsK_file hk F
  have hv1 : entsK (dropF F p.tb p.key) v = [] := by
    unfold dropF
    rw [entsK_set_other (fun hk e => hvp (h.tbs v hv p.v hp.inN hk hp.kind (by rw [e, hpt.1])))]
    exact hv0
  have hL := h.linked.perm hperm
  have hnone : v.kind = 1 → ∀ x ∈ pairs N (dropF F p.tb p.key), x.1 ≠ v.id := fun hk x hx e => by
    unfold pairs at hx
    obtain ⟨u, hu, hx⟩ := List.mem_flatMap.1 hx
    obtain ⟨i, hi, rfl⟩ := List.mem_map.1 hx
    have := uniq_of h.linked.nodup hu hv e
    rw [this, hv1] at hi
    cases hi
  have hL2 := hL.unlink hv hid hnone
  have hkk : (dropF F p.tb p.key).map (·.1) = F.map (·.1) := setF_keys _ _ _
  have hsub : ∀ x ∈ unlinkN N it.node, ∃ y ∈ N, y.id = x.id ∧ y.kind = x.kind ∧ y.tb = x.tb := fun x hx => by
    unfold unlinkN at hx
    rw [hat] at hx
    split at hx
    · exact ⟨x, (mem_delN_iff.1 hx).1, rfl, rfl, rfl⟩
    · rcases mem_putN_iff.1 hx with rfl | ⟨hx, _⟩
      · exact ⟨v, hv, rfl, rfl, rfl⟩
      · exact ⟨x, hx, rfl, rfl, rfl⟩
  refine ⟨?_, h.trees.drop hpt.2 _, fun x hx => ?_, fun x hx hk => ?_, fun a ha b hb hka hkb e => ?_⟩
  · refine hL2.perm ?_
    rw [← hid]
    have hr : (pairs (unlinkN N v.id) (dropF F p.tb p.key)).Perm (pairs N (dropF F p.tb p.key)) := by
      unfold unlinkN
      rw [atN_of h.linked.nodup hv]
      split
      · obtain ⟨A, B, e1, e2⟩ := delN_of h.linked.nodup hv
        rw [e2, e1, pairs_append, pairs_append, pairs_cons, hv1]
        exact List.Perm.refl _
      · rw [pairs_same h.linked.nodup hv (v' := { v with links := v.links - 1 }) rfl rfl rfl]
    exact hr.symm
  · obtain ⟨y, hy, e1, _⟩ := hsub x hx
    rw [← e1]; exact h.ids y hy
  · obtain ⟨y, hy, e1, e2, e3⟩ := hsub x hx
    rw [hkk, ← e3]
    exact h.tree y hy (by rw [e2]; exact hk)
  · obtain ⟨y, hy, e1, e2, e3⟩ := hsub a ha
    obtain ⟨z, hz, f1, f2, f3⟩ := hsub b hb
    rw [← e1, ← f1]
    exact h.tbs y hy z hz (by rw [e2]; exact hka) (by rw [f2]; exact hkb) (by rw [e3, f3]; exact e)
theorem mayGo_empty {node kind : Int} (h : mayGoP N F node kind = none) : (atN N node).kind = kind ∧ ((atN N node).kind = 1 → entsK F (atN N node) = []) := by
  unfold mayGoP at h
  split at h
  · cases h
  rename_i h1
  split at h
  · cases h
  rename_i h2
  refine ⟨by simpa using h1, fun hk => ?_⟩
  unfold entsK
  rw [if_pos hk]
  exact List.eq_nil_of_length_eq_zero (by
    have : ¬ 0 < (entsOf F (atN N node)).length := fun e => h2 ⟨hk, e⟩
    omega)
theorem Whole.remove (h : Whole N F next) (hF : Fits N F next) (s : ByteArray) (folder : Bool) : Whole (removeP N F s folder).2.1 (removeP N F s folder).2.2 next := by
  unfold removeP
  split
  · exact h
  rename_i p it hp
  split
  · exact h
  · rename_i hm
    obtain ⟨h1, h2⟩ := takenP_ok hF hp
    exact h.unlinked h1 h2 (mayGo_empty hm).2
theorem Whole.moved (h : Whole N F next) {p g : PL} (hp : PlaceOk N F p) {it : Item} (hit : getL (entsOf F p.v) p.key = some it) (hg : PlaceOk N F g) (hfree : getL (lookF (dropF F p.tb p.key) g.tb) g.key = none) (hw : (atN N it.node).kind = 1 → ¬ On N g.v.id it.node) :
    Whole (moveN N it.node g.v.id) (putF (dropF F p.tb p.key) g.tb ⟨g.key, g.name, it.node⟩) next := by
  obtain ⟨v, hv, hid, hm⟩ := h.node hp hit
  have hat : atN N it.node = v := by rw [← hid]; exact atN_of h.linked.nodup hv
  rw [hat, ← hid] at hw
  have hpt := hp.tbs
  have hgt := hg.tbs
  have hperm := pairs_drop h hp.inN hp.kind hpt.1 hpt.2 (hp.taken hit)
  have hkk : (dropF F p.tb p.key).map (·.1) = F.map (·.1) := setF_keys _ _ _
  have hg2 : g.tb ∈ (dropF F p.tb p.key).map (·.1) := by rw [hkk]; exact hgt.2
  obtain ⟨R, r1, r2⟩ := pairs_set (F := dropF F p.tb p.key) h.linked.nodup h.tbs hg.inN hg.kind hgt.1 hg2
  have hput : (pairs N (putF (dropF F p.tb p.key) g.tb ⟨g.key, g.name, it.node⟩)).Perm ((g.v.id, ⟨g.key, g.name, it.node⟩) :: pairs N (dropF F p.tb p.key)) := by
    refine (r2 _).trans ?_
    refine List.Perm.trans ?_ (r1.symm.cons _)
    exact ((putL_perm (it := ⟨g.key, g.name, it.node⟩) hfree).map _).append_right R
  have hL := (h.linked.perm hperm).move (it' := ⟨g.key, g.name, it.node⟩) hv hid hg.inN hg.kind hw rfl
  have hL2 : Linked (moveN N it.node g.v.id) (pairs (moveN N it.node g.v.id) (putF (dropF F p.tb p.key) g.tb ⟨g.key, g.name, it.node⟩)) := by
    refine hL.perm ?_
    rw [← hid, pairs_move h.linked.nodup hv, hid]
    exact hput.symm
  have hT : Trees (putF (dropF F p.tb p.key) g.tb ⟨g.key, g.name, it.node⟩) := (h.trees.drop hpt.2 _).put hg2 ⟨hg.key, hg.name⟩
  have hkk2 : (putF (dropF F p.tb p.key) g.tb ⟨g.key, g.name, it.node⟩).map (·.1) = F.map (·.1) := (setF_keys _ _ _).trans hkk
  unfold moveN at hL2 ⊢
  rw [hat] at hL2 ⊢
  by_cases hk : v.kind = 1
  · rw [if_pos hk] at hL2 ⊢
    exact h.of_put hL2 hT hkk2 (h.ids v hv) (by omega) (fun _ => ⟨v, hv, rfl, hk, rfl⟩)
  · rw [if_neg hk] at hL2 ⊢
    exact ⟨hL2, hT, h.ids, fun x hx hxk => by rw [hkk2]; exact h.tree x hx hxk, h.tbs⟩
end Go.Proofs.YtjpmomklkkifjaaGreatDoor.T
namespace Go.Proofs.YtjpmomklkkifjaaGreatDoor.T
def cutS : List UInt8 → List (List UInt8)
  | [] => [[]]
  | c :: l => if c = 47 then [] :: cutS l else match cutS l with | [] => [[c]] | a :: t => (c :: a) :: t
theorem splitK_ne {c : UInt8} (h : c ≠ 47) : ∀ (k : Nat) (l : List UInt8), ∃ a t, Lib.splitK [47] 0 k l = a :: t ∧ Lib.splitK [47] 0 k (c :: l) = (c :: a) :: t
  | 0, l => ⟨l, [], rfl, rfl⟩
  | k + 1, l => by
    have hi : Lib.index (c :: l) [47] = if Lib.index l [47] == -1 then -1 else Lib.index l [47] + 1 := by
      rw [Lib.index_one, Lib.index_one]
      have e : (c == 47) = false := by simpa using h
      rw [Lib.indexByte, e]
      rfl
    have hg := Lib.index_ge l [47]
    by_cases hm : Lib.index l [47] = -1
    · refine ⟨l, [], ?_, ?_⟩
      · unfold Lib.splitK; rw [if_pos (by simp [hm])]
      · unfold Lib.splitK; rw [if_pos (by rw [hi]; simp [hm])]
    · have hm' : ¬ (Lib.index l [47] == -1) = true := by simpa using hm
      refine ⟨l.take ((Lib.index l [47]).toNat + 0), Lib.splitK [47] 0 k (l.drop ((Lib.index l [47]).toNat + 1)), ?_, ?_⟩
      · rw [Lib.splitK, if_neg hm']; rfl
      · rw [Lib.splitK, hi, if_neg hm', if_neg (by simp; omega)]
        have : (Lib.index l [47] + 1).toNat = (Lib.index l [47]).toNat + 1 := by omega
        rw [this]
        rfl
theorem splitK_eq (k : Nat) (l : List UInt8) : Lib.splitK [47] 0 (k + 1) (47 :: l) = [] :: Lib.splitK [47] 0 k l := by
  have hi : Lib.index (47 :: l) [47] = 0 := by rw [Lib.index_one]; rfl
  rw [Lib.splitK, hi, if_neg (by decide)]
  rfl
theorem splitK_cut : ∀ l : List UInt8, Lib.splitK [47] 0 (l.count 47) l = cutS l
  | [] => rfl
  | c :: l => by
    have ih := splitK_cut l
    by_cases h : c = 47
    · subst h
      rw [List.count_cons_self, splitK_eq, ih]
      simp [cutS]
    · rw [List.count_cons_of_ne h]
      obtain ⟨a, t, h1, h2⟩ := splitK_ne h (l.count 47) l
      rw [h2]
      unfold cutS
      rw [if_neg h, ← ih, h1]
theorem cutS_none : ∀ {l : List UInt8}, (47 : UInt8) ∉ l → cutS l = [l]
  | [], _ => rfl
  | c :: l, h => by
    have h1 : c ≠ 47 := fun e => h (by simp [e])
    unfold cutS
    rw [if_neg h1, cutS_none fun e => h (by simp [e])]
def joinP {α : Type} (x : α) : List (List α) → List α
  | [] => []
  | [a] => a
  | a :: b :: t => a ++ x :: joinP x (b :: t)
end Go.Proofs.YtjpmomklkkifjaaGreatDoor.T
namespace Go.Proofs.YtjpmomklkkifjaaGreatDoor
open Go.RowKit Go.Sort
structure RowAt (w0 : World) (g : Nat) (tail : List Value) (zs : List Int) (w : World) : Prop where
  blk : w.heap[g]? = some (.cells (zs.map (Value.int .i32) ++ tail).toArray 21 (0, 0))
  grow : w0.grownBy w (some g)
theorem RowAt.cell {w0 w : World} {g : Nat} {tail : List Value} {zs : List Int} (h : RowAt w0 g tail zs w) {k : Nat} {z : Int} (hz : zs[k]? = some z) : w.cell? ⟨g, k, none⟩ = some (.int .i32 z) := by
  have hk : k < zs.length := (List.getElem?_eq_some_iff.1 hz).1
  rw [cell_of_row _ _ _ _ _ _ h.blk]
  simp only [List.getElem?_toArray]
  rw [List.getElem?_append_left (by simpa using hk), List.getElem?_map, hz]
  rfl
theorem RowAt.frozen {w0 w : World} {g : Nat} {tail : List Value} {zs : List Int} (h : RowAt w0 g tail zs w) (k : Nat) : w.frozen? ⟨g, k, none⟩ = false := frozen_of_row _ _ _ _ _ h.blk
theorem RowAt.set {w0 w : World} {g : Nat} {tail : List Value} {zs : List Int} (h : RowAt w0 g tail zs w) {k : Nat} (hk : k < zs.length) (z : Int) : RowAt w0 g tail (zs.set k z) (w.setCell ⟨g, k, none⟩ (.int .i32 z)) where
  blk := by
    rw [heap_setCell_same w g k _ 21 _ h.blk]
    simp only [List.setIfInBounds_toArray, Option.some.injEq, Obj.cells.injEq, and_true]
    rw [List.set_append_left _ _ (by simpa using hk), List.map_set]
  grow := by
    have h1 := h.grow
    refine ⟨h1.os, h1.tape, h1.output, by rw [World.size_setCell]; exact h1.size, fun j hj hne => ?_⟩
    rw [heap_setCell_other _ _ _ _ (by intro e; exact hne (by rw [e]))]
    exact h1.block j hj hne
theorem RowAt.drew {w0 w : World} {g : Nat} {tail : List Value} {zs : List Int} (h : RowAt w0 g tail zs w) (n : Nat) : RowAt w0 g tail zs (w.drewN n) := ⟨h.blk, ⟨h.grow.os, h.grow.tape, h.grow.output, h.grow.size, h.grow.block⟩⟩
end Go.Proofs.YtjpmomklkkifjaaGreatDoor
namespace Go.Proofs.YtjpmomklkkifjaaGreatDoor
def lowM (l : List Int) : List Int := l.filter (fun r => classZ r == 202)
def highM (l : List Int) : List Int := l.filter (fun r => !(classZ r == 202))
theorem sortM_low_high (l : List Int) : sortM l = lowM l ++ highM l := rfl
theorem lowM_append (a b : List Int) : lowM (a ++ b) = lowM a ++ lowM b := by simp [lowM]
theorem highM_append (a b : List Int) : highM (a ++ b) = highM a ++ highM b := by simp [highM]
structure Srt (l : List Int) : Prop where
  marks : ∀ x ∈ l, Mark x
  cut : ∀ A B, l = A ++ B → highM A = [] ∨ lowM B = []
theorem Srt.left {A B : List Int} (h : Srt (A ++ B)) : Srt A :=
  ⟨fun x hx => h.marks x (by simp [hx]), fun A1 B1 e => by
    rcases h.cut A1 (B1 ++ B) (by rw [e]; simp) with h1 | h1
    · exact .inl h1
    · rw [lowM_append] at h1
      exact .inr (List.append_eq_nil_iff.1 h1).1⟩
theorem Srt.right {A B : List Int} (h : Srt (A ++ B)) : Srt B :=
  ⟨fun x hx => h.marks x (by simp [hx]), fun A1 B1 e => by
    rcases h.cut (A ++ A1) B1 (by rw [e]; simp) with h1 | h1
    · rw [highM_append] at h1
      exact .inl (List.append_eq_nil_iff.1 h1).2
    · exact .inr h1⟩
theorem lowM_one {x : Int} (h : classZ x = 202) : lowM [x] = [x] ∧ highM [x] = [] := by simp [lowM, highM, h]
theorem highM_one {x : Int} (h : classZ x = 230) : lowM [x] = [] ∧ highM [x] = [x] := by simp [lowM, highM, h]
theorem Srt.last {A : List Int} {x : Int} (h : Srt (A ++ [x])) (hx : classZ x = 202) : highM (A ++ [x]) = [] := by
  rcases h.cut A [x] rfl with h1 | h1
  · rw [highM_append, h1, (lowM_one hx).2]
    rfl
  · rw [(lowM_one hx).1] at h1
    cases h1
theorem Srt.first {B : List Int} {x : Int} (h : Srt (x :: B)) (hx : classZ x = 230) : lowM (x :: B) = [] := by
  have e : x :: B = [x] ++ B := rfl
  rcases h.cut [x] B rfl with h1 | h1
  · rw [(highM_one hx).2] at h1
    cases h1
  · rw [e, lowM_append, h1, (highM_one hx).1]
    rfl
theorem Srt.self : ∀ {l : List Int}, Srt l → sortM l = l
  | [], _ => rfl
  | x :: t, h => by
    rcases h.marks x (by simp) with hx | hx
    · have ht := Srt.self (Srt.right (A := [x]) (B := t) h)
      rw [sortM_low_high] at ht ⊢
      have e : x :: t = [x] ++ t := rfl
      rw [e, lowM_append, highM_append, (lowM_one hx).1, (lowM_one hx).2, List.nil_append, List.append_assoc, ht]
    · have h1 := h.first hx
      rw [sortM_low_high, h1, List.nil_append]
      refine List.filter_eq_self.2 (fun y hy => ?_)
      have := List.filter_eq_nil_iff.1 h1 y hy
      simpa using this
end Go.Proofs.YtjpmomklkkifjaaGreatDoor
namespace Go.Proofs.YtjpmomklkkifjaaGreatDoor
open Go.RowKit Go.Sort
end Go.Proofs.YtjpmomklkkifjaaGreatDoor
