/-
  What goes to another place and back is as it was. Plain facts. What is renamed, and renamed back, is as it was but for the name. Plain facts. What is renamed and renamed back: the rows differ in one at most; what twins' paths lead to. Plain facts.
-/
import Derived.Test.YtjpmomklkkifjaaGreatDoorCIRound
import Derived.Test.YtjpmomklkkifjaaGreatDoorCFDone
import Derived.Test.YtjpmomklkkifjaaGreatDoorCIRowP
namespace Go.Proofs.YtjpmomklkkifjaaGreatDoor.T
open Go.RowKit
set_option maxRecDepth 100000
set_option linter.unusedVariables false
set_option linter.unusedSimpArgs false

variable {N : List NV} {F : Forest} {next : Int}
theorem refs_one {i : Int} : ∀ {E : List (Int × Item)}, refsE E i = 1 → ∀ {x y : Int × Item}, x ∈ E → y ∈ E → x.2.node = i → y.2.node = i → x = y
  | [], h, x, y, hx, _, _, _ => by cases hx
  | e :: E, h, x, y, hx, hy, h1, h2 => by
    unfold refsE at h
    rw [List.countP_cons] at h
    by_cases he : e.2.node = i
    · rw [if_pos (by simpa using he)] at h
      have h0 : ∀ z ∈ E, z.2.node ≠ i := fun z hz e2 => by
        have := List.countP_eq_zero.1 (by omega : E.countP (fun x => x.2.node == i) = 0) z hz
        exact this (by simpa using e2)
      rcases List.mem_cons.1 hx with rfl | hx
      · rcases List.mem_cons.1 hy with rfl | hy
        · rfl
        · exact absurd h2 (h0 y hy)
      · exact absurd h1 (h0 x hx)
    · rw [if_neg (by simpa using he), Nat.add_zero] at h
      rcases List.mem_cons.1 hx with rfl | hx
      · exact absurd h1 he
      · rcases List.mem_cons.1 hy with rfl | hy
        · exact absurd h2 he
        · exact refs_one (E := E) h hx hy h1 h2
theorem step_down (hW : Whole N F next) {v u : NV} {q : ByteArray} (hd : Go.Proofs.YtjpmomklkkifjaaGreatDoor.dotsB q = false) (hv : v ∈ N) (h : stepP N F v q = .ok u) :
    v.kind = 1 ∧ ∃ tb it, v.tb = some tb ∧ tb ∈ F.map (·.1) ∧ getL (lookF F tb) (keyS q) = some it ∧ u = atN N it.node ∧ u ∈ N ∧ u.id = it.node ∧ it.node ≠ 1 ∧ (u.kind = 1 → u.up = v.id) := by
  obtain ⟨hk, it, hg, hu⟩ := step_name hd h
  obtain ⟨tb, htb, ht⟩ := hW.tree v hv hk
  have hg2 : getL (lookF F tb) (keyS q) = some it := by unfold entsOf at hg; rw [htb] at hg; exact hg
  have hm : it ∈ entsK F v := by rw [entsK_folder hk htb]; exact List.mem_of_find?_eq_some hg2
  have hp : (v.id, it) ∈ pairs N F := List.mem_flatMap.2 ⟨v, hv, List.mem_map.2 ⟨it, hm, rfl⟩⟩
  obtain ⟨h1, x, hx, hxid⟩ := hW.linked.named _ hp
  simp only at h1 hxid
  have hat : atN N it.node = x := by rw [← hxid]; exact atN_of hW.linked.nodup hx
  rw [hat] at hu
  subst hu
  refine ⟨hk, tb, it, htb, ht, hg2, hat.symm, hx, hxid, h1, fun hxk => ?_⟩
  have hne : u.id ≠ 1 := by rw [hxid]; exact h1
  obtain ⟨it', h2, h3⟩ := hW.linked.ups u hx hxk hne
  have hc := (hW.linked.cnt u hx hne).1
  have hl : u.links = 1 := by
    rcases hW.linked.kinds u hx with e | e
    · exact e.2.1
    · rw [e.1] at hxk; exact absurd hxk (by decide)
  rw [hl] at hc
  have he := refs_one (by omega : refsE (pairs N F) u.id = 1) hp h2 (by simp only; exact hxid.symm) (by simp only; exact h3)
  exact (congrArg Prod.fst he).symm
theorem On.trans {a b c : Int} (h : On N a b) (h2 : On N b c) : On N a c := by
  induction h with
  | here j => exact h2
  | up hv hk _ ih => exact .up hv hk (ih h2)
theorem walk_in (hW : Whole N F next) : ∀ (l : List ByteArray) (v u : NV), v ∈ N → (∀ q ∈ l, Go.Proofs.YtjpmomklkkifjaaGreatDoor.dotsB q = false) → walkP N F v l = .ok u → u ∈ N ∧ (u.kind = 1 → v.kind = 1 ∧ On N u.id v.id)
  | [], v, u, hv, _, h => by
    cases h
    exact ⟨hv, fun hk => ⟨hk, .here _⟩⟩
  | q :: l, v, u, hv, hd, h => by
    have h' : (match stepP N F v q with | .ok u => walkP N F u l | .error k => .error k) = .ok u := h
    cases hs : stepP N F v q with
    | error k => rw [hs] at h'; cases h'
    | ok v1 =>
      rw [hs] at h'
      obtain ⟨hk, tb, it, _, _, _, _, hv1, _, _, hup⟩ := step_down hW (hd q (by simp)) hv hs
      obtain ⟨h1, h2⟩ := walk_in hW l v1 u hv1 (fun q hq => hd q (by simp [hq])) h'
      refine ⟨h1, fun hu => ⟨hk, ?_⟩⟩
      obtain ⟨h3, h4⟩ := h2 hu
      exact h4.trans (.up hv1 h3 (by rw [hup h3]; exact .here _))
theorem no_round (hW : Whole N F next) {v : NV} (hv : v ∈ N) (hk : v.kind = 1) (h1 : v.id ≠ 1) (k : Nat) : upk N k v.up ≠ v.id := by
  intro e
  have hat := atN_of hW.linked.nodup hv
  have e2 : upk N (k + 1) v.id = v.id := by show upk N k (atN N v.id).up = v.id; rw [hat]; exact e
  have em : ∀ m, upk N (m * (k + 1)) v.id = v.id := fun m => by
    induction m with
    | zero => rw [Nat.zero_mul]; rfl
    | succ m ih => rw [Nat.succ_mul, upk_add, ih, e2]
  obtain ⟨d, _, hd, _⟩ := hW.linked.short (hW.linked.hang v hv hk)
  have h2 := em d
  rw [show d * (k + 1) = d + d * k by rw [Nat.mul_add]; omega, upk_add, hd, hW.linked.stay] at h2
  exact h1 h2.symm
theorem within_no (N : List NV) : ∀ (n : Nat) (i o : Int), (∀ k, upk N k i ≠ o) → withinP N n i o = false
  | 0, _, _, _ => rfl
  | n + 1, i, o, h => by
    unfold withinP
    have h0 : i ≠ o := h 0
    rw [if_neg (by simpa using h0)]
    exact within_no N n _ o fun k => h (k + 1)

structure Upd (v v' : NV) : Prop where
  id : v'.id = v.id
  kind : v'.kind = v.kind
  tb : v'.tb = v.tb
theorem Upd.refl (v : NV) : Upd v v := ⟨rfl, rfl, rfl⟩
theorem atN_put_same (M : List NV) (x : NV) : atN (putN M x) x.id = x := by
  unfold atN
  rw [findN_put_same]
  rfl
theorem atN_put_other {M : List NV} {x : NV} {i : Int} (h : i ≠ x.id) : atN (putN M x) i = atN M i := by
  unfold atN
  rw [findN_put_other h]
theorem move_kind {id up : Int} (hk : (atN N id).kind = 1) : ∃ x : NV, x.id = id ∧ x.kind = 1 ∧ x.links = (atN N id).links ∧ x.text = (atN N id).text ∧ x.tb = (atN N id).tb ∧ x.up = up ∧ moveN N id up = putN N x := by
  refine ⟨{ atN N id with up := up }, (atN_mem (N := N) (i := id) rfl (by rw [hk]; decide)).2, hk, rfl, rfl, rfl, rfl, ?_⟩
  unfold moveN
  rw [if_pos hk]
theorem move_none {id up : Int} (hk : (atN N id).kind ≠ 1) : moveN N id up = N := by
  unfold moveN
  rw [if_neg hk]
theorem upd_move (hn : (N.map NV.id).Nodup) (id up : Int) (j : Int) : Upd (atN N j) (atN (moveN N id up) j) := by
  by_cases hk : (atN N id).kind = 1
  · obtain ⟨x, x1, x2, x3, x4, x5, x6, e⟩ := move_kind (up := up) hk
    have hm := atN_mem (N := N) (i := id) rfl (by rw [hk]; decide)
    rw [e]
    by_cases hj : j = id
    · subst hj
      have h1 := atN_put_same N x
      rw [x1] at h1
      rw [h1]
      exact ⟨by rw [x1, hm.2], by rw [x2, hk], x5⟩
    · rw [atN_put_other (by rw [x1]; exact hj)]
      exact .refl _
  · rw [move_none hk]
    exact .refl _
theorem move_other {id up : Int} {j : Int} (hj : j ≠ id) : atN (moveN N id up) j = atN N j := by
  by_cases hk : (atN N id).kind = 1
  · obtain ⟨x, x1, _, _, _, _, _, e⟩ := move_kind (up := up) hk
    rw [e, atN_put_other (by rw [x1]; exact hj)]
  · rw [move_none hk]
theorem nv_ext {a b : NV} (h1 : a.id = b.id) (h2 : a.kind = b.kind) (h3 : a.up = b.up) (h4 : a.links = b.links) (h5 : a.text = b.text) (h6 : a.tb = b.tb) : a = b := by
  cases a; cases b
  simp only at h1 h2 h3 h4 h5 h6
  subst h1 h2 h3 h4 h5 h6
  rfl
theorem put_some {M : List NV} {v x : NV} (hv : v ∈ M) (e : x.id = v.id) : putN M x = M.map fun y => if y.id == x.id then x else y := by
  unfold putN
  rw [if_pos (by rw [e]; exact find_in hv)]
theorem move_back (hn : (N.map NV.id).Nodup) (id a b : Int) (h : (atN N id).kind = 1 → (atN N id).up = b) : moveN (moveN N id a) id b = N := by
  by_cases hk : (atN N id).kind = 1
  · obtain ⟨hm, hid⟩ := atN_mem (N := N) (i := id) rfl (by rw [hk]; decide)
    obtain ⟨x, x1, x2, x3, x4, x5, x6, e⟩ := move_kind (up := a) hk
    have h2 : atN (moveN N id a) id = x := by
      rw [e]
      have := atN_put_same N x
      rw [x1] at this
      exact this
    obtain ⟨z, z1, z2, z3, z4, z5, z6, e2⟩ := move_kind (N := moveN N id a) (id := id) (up := b) (by rw [h2]; exact x2)
    rw [h2] at z3 z4 z5
    have hz : z = atN N id := nv_ext (by rw [z1, hid]) (by rw [z2, hk]) (by rw [z6, h hk]) (by rw [z3, x3]) (by rw [z4, x4]) (by rw [z5, x5])
    subst hz
    have hin : x ∈ N.map fun y => if y.id == x.id then x else y := List.mem_map.2 ⟨atN N id, hm, by rw [if_pos (by rw [x1, hid]; simp)]⟩
    rw [e2, e, put_some hm (by rw [x1, hid]), put_some hin (by rw [x1, hid]), List.map_map]
    conv => rhs; rw [← List.map_id N]
    refine List.map_congr_left fun y hy => ?_
    show (if (if y.id == x.id then x else y).id == (atN N id).id then atN N id else if y.id == x.id then x else y) = y
    by_cases hy1 : y.id = id
    · have hyy : y = atN N id := uniq_of hn hy hm (by rw [hy1, hid])
      rw [if_pos (c := (y.id == x.id) = true) (by rw [hy1, x1]; simp), if_pos (by rw [x1, hid]; simp)]
      exact hyy.symm
    · rw [if_neg (c := (y.id == x.id) = true) (by rw [x1]; simpa using hy1), if_neg (by rw [hid]; simpa using hy1)]
  · rw [move_none hk, move_none hk]
theorem walk_moved (hW : Whole N F next) {N' : List NV} {F' : Forest} {ptb : Nat} {pkey : ByteArray} {it0 : Item} (hp0 : getL (lookF F ptb) pkey = some it0)
    (hrel : ∀ j, Upd (atN N j) (atN N' j)) (hF' : ∀ tb, tb ∈ F.map (·.1) → ∀ key it, getL (lookF F tb) key = some it → ¬ (tb = ptb ∧ key = pkey) → ∃ it', getL (lookF F' tb) key = some it' ∧ it'.node = it.node) :
    ∀ (l : List ByteArray) (v u : NV), v ∈ N → (∀ q ∈ l, Go.Proofs.YtjpmomklkkifjaaGreatDoor.dotsB q = false) → walkP N F v l = .ok u → u.kind = 1 → ¬ ((atN N it0.node).kind = 1 ∧ On N u.id it0.node) → walkP N' F' (atN N' v.id) l = .ok (atN N' u.id)
  | [], v, u, hv, _, h, _, _ => by cases h; rfl
  | q :: l, v, u, hv, hd, h, hu, hno => by
    have h' : (match stepP N F v q with | .ok u => walkP N F u l | .error k => .error k) = .ok u := h
    cases hs : stepP N F v q with
    | error k => rw [hs] at h'; cases h'
    | ok v1 =>
      rw [hs] at h'
      have hdq := hd q (by simp)
      obtain ⟨hk, tb, it, htb, ht, hg, e1, hv1, hid1, _, _⟩ := step_down hW hdq hv hs
      have hdl : ∀ q ∈ l, Go.Proofs.YtjpmomklkkifjaaGreatDoor.dotsB q = false := fun q hq => hd q (by simp [hq])
      have ih := walk_moved hW hp0 hrel hF' l v1 u hv1 hdl h' hu hno
      have hne : ¬ (tb = ptb ∧ keyS q = pkey) := fun ⟨a, b⟩ => by
        subst a b
        rw [hg] at hp0
        cases hp0
        obtain ⟨_, h3⟩ := walk_in hW l v1 u hv1 hdl h'
        obtain ⟨h4, h5⟩ := h3 hu
        rw [← e1] at hno
        exact hno ⟨h4, by rw [← hid1]; exact h5⟩
      obtain ⟨it', hg', hn'⟩ := hF' tb ht _ _ hg hne
      have hr := hrel v.id
      rw [atN_of hW.linked.nodup hv] at hr
      have hstep : stepP N' F' (atN N' v.id) q = .ok (atN N' v1.id) := by
        unfold Go.Proofs.YtjpmomklkkifjaaGreatDoor.dotsB at hdq
        rw [Bool.or_eq_false_iff] at hdq
        unfold stepP
        rw [if_neg (by rw [hr.kind, hk]; simp), if_neg (by rw [hdq.1]; simp), if_neg (by rw [hdq.2]; simp)]
        have : entsOf F' (atN N' v.id) = lookF F' tb := by unfold entsOf; rw [hr.tb, htb]
        rw [this, hg']
        simp only
        rw [hn', hid1]
      show (match stepP N' F' (atN N' v.id) q with | .ok u => walkP N' F' u l | .error k => .error k) = _
      rw [hstep]
      exact ih
theorem getL_put_other {it : Item} {key : ByteArray} (h : it.key ≠ key) : ∀ L : List Item, getL (putL L it) key = getL L key
  | [] => by simp [putL, getL, h]
  | x :: L => by
    have ih := getL_put_other h L
    unfold putL
    split
    · unfold getL
      rw [List.find?_cons_of_neg (by simpa using h)]
    · split
      · rename_i he
        unfold getL
        rw [List.find?_cons_of_neg (by simpa using h), List.find?_cons_of_neg (by simpa using fun e => h (he ▸ e))]
      · unfold getL at ih ⊢
        by_cases hx : x.key = key
        · rw [List.find?_cons_of_pos (by simpa using hx), List.find?_cons_of_pos (by simpa using hx)]
        · rw [List.find?_cons_of_neg (by simpa using hx), List.find?_cons_of_neg (by simpa using hx)]
          exact ih
theorem drop_put (it : Item) : ∀ L : List Item, dropL (putL L it) it.key = dropL L it.key
  | [] => by simp [putL, dropL]
  | x :: L => by
    have ih := drop_put it L
    unfold putL
    split
    · unfold dropL
      rw [List.filter_cons_of_neg (by simp)]
    · split
      · rename_i he
        unfold dropL
        rw [List.filter_cons_of_neg (by simp), List.filter_cons_of_neg (by simpa using he)]
      · unfold dropL at ih ⊢
        by_cases hx : x.key = it.key
        · rw [List.filter_cons_of_neg (by simpa using hx), List.filter_cons_of_neg (by simpa using hx)]
          exact ih
        · rw [List.filter_cons_of_pos (by simpa using hx), List.filter_cons_of_pos (by simpa using hx), ih]
end Go.Proofs.YtjpmomklkkifjaaGreatDoor.T
namespace Go.Proofs.YtjpmomklkkifjaaGreatDoor.T
open Go.RowKit
set_option maxRecDepth 100000
set_option linter.unusedVariables false
set_option linter.unusedSimpArgs false

variable {N : List NV} {F : Forest} {next : Int}
theorem place_inv {s : ByteArray} (hup : upP s = false) {g : PL} (h : placeP N F s = .ok g) :
    ∃ q l, partsP s = .ok (q :: l) ∧ (∀ x ∈ q :: l, Go.Proofs.YtjpmomklkkifjaaGreatDoor.dotsB x = false) ∧ walkP N F (atN N 1) ((q :: l).take l.length) = .ok g.v ∧ g.v.kind = 1 ∧ g.key = keyS g.name ∧ g.name = (q :: l).getLast (by simp) := by
  obtain ⟨l, hs, hd⟩ := up_parts hup
  unfold placeP at h
  rw [hs] at h
  cases l with
  | nil => cases h
  | cons q l =>
    refine ⟨q, l, hs, hd, ?_⟩
    simp only at h
    rw [if_neg (by rw [hd _ (List.getLast_mem _)]; simp)] at h
    cases hw : walkP N F (atN N 1) ((q :: l).take l.length) with
    | error k => rw [hw] at h; cases h
    | ok u =>
      rw [hw] at h
      simp only at h
      split at h
      · cases h
      rename_i hk
      cases h
      exact ⟨rfl, by simp only; omega, rfl, rfl⟩
theorem place_mk {N' : List NV} {F' : Forest} {s : ByteArray} {q : ByteArray} {l : List ByteArray} (hs : partsP s = .ok (q :: l)) (hd : ∀ x ∈ q :: l, Go.Proofs.YtjpmomklkkifjaaGreatDoor.dotsB x = false) {u : NV} (hw : walkP N' F' (atN N' 1) ((q :: l).take l.length) = .ok u) (hk : u.kind = 1) :
    placeP N' F' s = .ok ⟨u, keyS ((q :: l).getLast (by simp)), (q :: l).getLast (by simp)⟩ := by
  unfold placeP
  rw [hs]
  simp only
  rw [if_neg (by rw [hd _ (List.getLast_mem _)]; simp), hw]
  simp only
  rw [if_neg (by omega)]
theorem find_mk {N' : List NV} {F' : Forest} {s : ByteArray} {q : ByteArray} {l : List ByteArray} (hs : partsP s = .ok (q :: l)) (hd : ∀ x ∈ q :: l, Go.Proofs.YtjpmomklkkifjaaGreatDoor.dotsB x = false) {u : NV} (hw : walkP N' F' (atN N' 1) ((q :: l).take l.length) = .ok u) (hk : u.kind = 1) {it : Item} (hg : getL (entsOf F' u) (keyS ((q :: l).getLast (by simp))) = some it) :
    findP N' F' s = .ok (atN N' it.node) := by
  have h2 : findP N' F' s = walkP N' F' (atN N' 1) (q :: l) := by unfold findP; rw [hs]
  rw [h2]
  conv => lhs; arg 4; rw [last_split q l]
  rw [walkP_snoc, hw]
  simp only
  have hdq := hd _ (List.getLast_mem (by simp : q :: l ≠ []))
  unfold Go.Proofs.YtjpmomklkkifjaaGreatDoor.dotsB at hdq
  rw [Bool.or_eq_false_iff] at hdq
  unfold stepP
  rw [if_neg (by omega), if_neg (by rw [hdq.1]; simp), if_neg (by rw [hdq.2]; simp), hg]

set_option maxHeartbeats 1000000 in
theorem rename_back (hW : Whole N F next) (hF : Fits N F next) {a b : ByteArray} (hua : upP a = false) (hub : upP b = false) (hfb : ∀ u, findP N F b ≠ .ok u) (hr : (renameP N F a b).1 = none) :
    ∃ (p : PL) (it : Item) (x : NV) (F2 : Forest), PlaceOk N F p ∧ getL (lookF F p.tb) p.key = some it ∧ renameP (renameP N F a b).2.1 (renameP N F a b).2.2 b a = (none, N, F2) ∧ findP N F a = .ok x ∧ findP N F2 a = .ok x ∧
      lookF F2 p.tb = putL (dropL (lookF F p.tb) p.key) ⟨p.key, p.name, it.node⟩ ∧ ∀ t, t ≠ p.tb → lookF F2 t = lookF F t := by
  have hnd := hW.linked.nodup
  cases htk : takenP N F a with
  | error k => unfold renameP at hr; rw [htk] at hr; cases hr
  | ok pit =>
  obtain ⟨p, it⟩ := pit
  cases hpl : placeP N F b with
  | error k => unfold renameP at hr; rw [htk] at hr; simp only at hr; rw [hpl] at hr; cases hr
  | ok g =>
  obtain ⟨hpo, hit⟩ := takenP_ok hF htk
  have hgo := placeP_ok hF hpl
  have hpt := hpo.tbs
  have hgt := hgo.tbs
  have hpla : placeP N F a = .ok p := by
    unfold takenP at htk
    cases hx : placeP N F a with
    | error k => rw [hx] at htk; cases htk
    | ok p' =>
      rw [hx] at htk
      simp only at htk
      split at htk
      · cases htk
      · cases htk; rfl
  obtain ⟨qa, la, hsa, hda, hwa, hka, hkeya, hna⟩ := place_inv hua hpla
  obtain ⟨qb, lb, hsb, hdb, hwb, hkb, hkeyb, hnb⟩ := place_inv hub hpl
  have hitp := hpo.taken hit
  have hfree : getL (entsOf F g.v) g.key = none := by
    cases hx : getL (entsOf F g.v) g.key with
    | none => rfl
    | some o => exact absurd (find_mk hsb hdb hwb hkb (by rw [← hnb, ← hkeyb]; exact hx)) (hfb _)
  have hfreeg : getL (lookF F g.tb) g.key = none := hgo.free hfree
  obtain ⟨w, hw, hwid, hwp⟩ := hW.node hpo hit
  have hat : atN N it.node = w := by rw [← hwid]; exact atN_of hnd hw
  obtain ⟨hn1, _⟩ := hW.linked.named _ hwp
  simp only at hn1
  have hren : renameP N F a b = goesP N F p g it := by unfold renameP; rw [htk]; simp only; rw [hpl]
  rw [hren] at hr ⊢
  have hround : ((atN N it.node).kind == 1 && withinP N N.length g.v.id (atN N it.node).id) = false := by
    cases hx : ((atN N it.node).kind == 1 && withinP N N.length g.v.id (atN N it.node).id) with
    | false => rfl
    | true => unfold goesP at hr; rw [if_pos hx] at hr; cases hr
  have hgoes : goesP N F p g it = movedP N F p g it.node := by
    unfold goesP
    rw [if_neg (by rw [hround]; simp), hfreeg]
  rw [hgoes]
  unfold movedP
  simp only
  obtain ⟨i, hi⟩ : ∃ i, it.node = i := ⟨_, rfl⟩
  rw [hi] at hat hn1 hround hwid ⊢
  obtain ⟨N1, hN1⟩ : ∃ N1, moveN N i g.v.id = N1 := ⟨_, rfl⟩
  obtain ⟨F1, hF1⟩ : ∃ F1, putF (dropF F p.tb p.key) g.tb ⟨g.key, g.name, i⟩ = F1 := ⟨_, rfl⟩
  rw [hN1, hF1]
  -- what the entry's node is
  have hroot := hW.linked.at1
  have hupw : w.kind = 1 → w.up = p.v.id := fun hk => by
    have hne : w.id ≠ 1 := by rw [hwid]; exact hn1
    obtain ⟨it', h2, h3⟩ := hW.linked.ups w hw hk hne
    have hc := (hW.linked.cnt w hw hne).1
    have hl : w.links = 1 := by
      rcases hW.linked.kinds w hw with e | e
      · exact e.2.1
      · rw [e.1] at hk; exact absurd hk (by decide)
    rw [hl] at hc
    have he := refs_one (by omega : refsE (pairs N F) w.id = 1) hwp h2 (by simp only; rw [hwid]; exact hi) (by simp only; exact h3)
    exact (congrArg Prod.fst he).symm
  have hnog : ¬ ((atN N i).kind = 1 ∧ On N g.v.id i) := fun ⟨h1, h2⟩ => by
    rw [h1, hat, hwid] at hround
    exact hW.linked.within (hW.linked.hang g.v hgo.inN hgo.kind) (by simpa using hround) h2
  have hnou : ∀ k, w.kind = 1 → upk N k p.v.id ≠ i := fun k hk => by
    have := no_round hW hw hk (by rw [hwid]; exact hn1) k
    rw [hupw hk, hwid] at this
    exact this
  have hnop : ¬ ((atN N i).kind = 1 ∧ On N p.v.id i) := fun ⟨h1, h2⟩ => by
    obtain ⟨k, hk⟩ := hW.linked.on_upk h2
    rw [hat] at h1
    exact hnou k h1 hk
  -- the trees
  have hkeys : (dropF F p.tb p.key).map (·.1) = F.map (·.1) := setF_keys _ _ _
  have hkeys1 : F1.map (·.1) = F.map (·.1) := by rw [← hF1]; unfold putF; rw [setF_keys]; exact hkeys
  have hl1g : lookF F1 g.tb = putL (lookF (dropF F p.tb p.key) g.tb) ⟨g.key, g.name, i⟩ := by rw [← hF1]; exact lookF_set _ _ _ (by rw [hkeys]; exact hgt.2)
  have hl1o : ∀ t, t ≠ g.tb → lookF F1 t = lookF (dropF F p.tb p.key) t := fun t ht => by rw [← hF1]; exact lookF_set_other _ _ _ _ ht
  have hdl : ∀ t, lookF (dropF F p.tb p.key) t = if t = p.tb then dropL (lookF F p.tb) p.key else lookF F t := fun t => drop_look _ _ _ _ hpt.2
  have hdiff : g.tb = p.tb → g.key ≠ p.key := fun h1 h2 => by rw [h1, h2, hitp] at hfreeg; cases hfreeg
  have hrel : ∀ j, Upd (atN N j) (atN N1 j) := fun j => by rw [← hN1]; exact upd_move hnd i _ j
  have hF' : ∀ tb, tb ∈ F.map (·.1) → ∀ key it', getL (lookF F tb) key = some it' → ¬ (tb = p.tb ∧ key = p.key) → ∃ it2, getL (lookF F1 tb) key = some it2 ∧ it2.node = it'.node := fun tb ht key it' hg hne => by
    refine ⟨it', ?_, rfl⟩
    have h1 : getL (lookF (dropF F p.tb p.key) tb) key = some it' := by
      rw [hdl]
      split
      · rename_i e
        rw [getL_drop_other (fun e2 => hne ⟨e, e2⟩), ← e]
        exact hg
      · exact hg
    by_cases hgtb : tb = g.tb
    · rw [hgtb, hl1g, getL_put_other]
      · rw [← hgtb]; exact h1
      · simp only
        intro e
        rw [hgtb, ← e, hfreeg] at hg
        cases hg
    · rw [hl1o _ hgtb]; exact h1
  have h1id : (atN N 1).id = 1 := hroot.2.2.2
  have hdta : ∀ x ∈ (qa :: la).take la.length, Go.Proofs.YtjpmomklkkifjaaGreatDoor.dotsB x = false := fun x hx => hda x (List.mem_of_mem_take hx)
  have hdtb : ∀ x ∈ (qb :: lb).take lb.length, Go.Proofs.YtjpmomklkkifjaaGreatDoor.dotsB x = false := fun x hx => hdb x (List.mem_of_mem_take hx)
  rw [← hi] at hnog hnop
  have hwb1 := walk_moved hW hitp hrel hF' _ _ _ hroot.2.2.1 hdtb hwb hkb hnog
  have hwa1 := walk_moved hW hitp hrel hF' _ _ _ hroot.2.2.1 hdta hwa hka hnop
  rw [h1id] at hwb1 hwa1
  have hrg := hrel g.v.id
  have hrp := hrel p.v.id
  rw [atN_of hnd hgo.inN] at hrg
  rw [atN_of hnd hpo.inN] at hrp
  have hplb1 := place_mk hsb hdb hwb1 (by rw [hrg.kind]; exact hgo.kind)
  have hpla1 := place_mk hsa hda hwa1 (by rw [hrp.kind]; exact hpo.kind)
  rw [← hnb, ← hkeyb] at hplb1
  rw [← hna, ← hkeya] at hpla1
  have hsortd : Sorted (lookF (dropF F p.tb p.key) g.tb) := ((hW.trees.drop hpt.2 p.key).look (by rw [hkeys]; exact hgt.2)).1
  have htk1 : takenP N1 F1 b = .ok (⟨atN N1 g.v.id, g.key, g.name⟩, ⟨g.key, g.name, i⟩) := by
    unfold takenP
    rw [hplb1]
    simp only
    have : entsOf F1 (atN N1 g.v.id) = lookF F1 g.tb := by unfold entsOf; rw [hrg.tb, hgt.1]
    rw [this, hl1g, getL_putL rfl hsortd]
  have htbg : PL.tb ⟨atN N1 g.v.id, g.key, g.name⟩ = g.tb := by unfold PL.tb; rw [hrg.tb]
  have htbp : PL.tb ⟨atN N1 p.v.id, p.key, p.name⟩ = p.tb := by unfold PL.tb; rw [hrp.tb]
  -- not within
  have hri := hrel i
  rw [hat] at hri
  have hwithin : ((atN N1 i).kind == 1 && withinP N1 N1.length p.v.id i) = false := by
    by_cases hk : w.kind = 1
    · have hup1 : ∀ k j, (∀ m, upk N m j ≠ i) → upk N1 k j = upk N k j := fun k => by
        induction k with
        | zero => intro j _; rfl
        | succ k ih =>
          intro j hj
          have e : atN N1 j = atN N j := by rw [← hN1]; exact move_other (hj 0)
          show upk N1 k (atN N1 j).up = upk N k (atN N j).up
          rw [e]
          exact ih _ fun m => hj (m + 1)
      have := within_no N1 N1.length p.v.id i fun k => by
        rw [hup1 k p.v.id fun m => hnou m hk]
        exact hnou k hk
      rw [this, Bool.and_false]
    · have : ((atN N1 i).kind == 1) = false := by rw [hri.kind]; simpa using hk
      rw [this, Bool.false_and]
  have hfreep : getL (lookF F1 p.tb) p.key = none := by
    by_cases hgp : p.tb = g.tb
    · rw [hgp, hl1g, getL_put_other (by simp only; exact hdiff hgp.symm), hdl, if_pos hgp.symm]
      exact getL_drop_same _ _
    · rw [hl1o _ hgp, hdl, if_pos rfl]
      exact getL_drop_same _ _
  have hN2 : moveN N1 i p.v.id = N := by
    rw [← hN1]
    exact move_back hnd i _ _ (by rw [hat]; exact hupw)
  obtain ⟨F2, hF2⟩ : ∃ F2, putF (dropF F1 g.tb g.key) p.tb ⟨p.key, p.name, i⟩ = F2 := ⟨_, rfl⟩
  have hren2 : renameP N1 F1 b a = (none, N, F2) := by
    unfold renameP
    rw [htk1]
    simp only
    rw [hpla1]
    simp only
    unfold goesP
    simp only
    rw [hri.id, hwid, hrp.id, if_neg (by rw [hwithin]; simp), htbp, hfreep]
    simp only
    unfold movedP
    simp only
    rw [hrp.id, htbp, htbg, hN2, hF2]
  have hkeysd : (dropF F1 g.tb g.key).map (·.1) = F.map (·.1) := by rw [show (dropF F1 g.tb g.key).map (·.1) = F1.map (·.1) from setF_keys _ _ _]; exact hkeys1
  have hdl1 : ∀ t, lookF (dropF F1 g.tb g.key) t = if t = g.tb then dropL (lookF F1 g.tb) g.key else lookF F1 t := fun t => drop_look _ _ _ _ (by rw [hkeys1]; exact hgt.2)
  have hdp : dropL (lookF F1 g.tb) g.key = lookF (dropF F p.tb p.key) g.tb := by
    rw [hl1g]
    have := drop_put ⟨g.key, g.name, i⟩ (lookF (dropF F p.tb p.key) g.tb)
    simp only at this
    rw [this]
    refine dropL_none fun x hx e => ?_
    rw [hdl] at hx
    have hin : x ∈ lookF F g.tb := by
      split at hx
      · rename_i e2
        rw [e2]
        exact (List.mem_filter.1 hx).1
      · exact hx
    have := List.find?_eq_none.1 hfreeg x hin
    exact this (by simpa using e)
  have hlp : lookF F2 p.tb = putL (dropL (lookF F p.tb) p.key) ⟨p.key, p.name, i⟩ := by
    have h1 : lookF F2 p.tb = putL (lookF (dropF F1 g.tb g.key) p.tb) ⟨p.key, p.name, i⟩ := by rw [← hF2]; exact lookF_set _ _ _ (by rw [hkeysd]; exact hpt.2)
    rw [h1]
    congr 1
    rw [hdl1]
    split
    · rename_i e
      rw [hdp, hdl, if_pos e.symm]
    · rename_i e
      rw [hl1o _ e, hdl, if_pos rfl]
  have hlo : ∀ t, t ≠ p.tb → lookF F2 t = lookF F t := fun t ht => by
    have h1 : lookF F2 t = lookF (dropF F1 g.tb g.key) t := by rw [← hF2]; exact lookF_set_other _ _ _ _ ht
    rw [h1, hdl1]
    split
    · rename_i e
      rw [hdp, hdl, if_neg (by rw [← e]; exact ht), e]
    · rename_i e
      rw [hl1o _ e, hdl, if_neg ht]
  have hent : entsOf F p.v = lookF F p.tb := by unfold entsOf; rw [hpt.1]
  have hent2 : entsOf F2 p.v = lookF F2 p.tb := by unfold entsOf; rw [hpt.1]
  have hsortp : Sorted (dropL (lookF F p.tb) p.key) := dropL_sorted (hW.trees.look hpt.2).1
  have hF2' : ∀ tb, tb ∈ F.map (·.1) → ∀ key it', getL (lookF F tb) key = some it' → ¬ (tb = p.tb ∧ key = p.key) → ∃ it2, getL (lookF F2 tb) key = some it2 ∧ it2.node = it'.node := fun tb ht key it' hg hne => by
    by_cases e : tb = p.tb
    · subst e
      refine ⟨it', ?_, rfl⟩
      rw [hlp, getL_put_other (by simp only; exact fun e2 => hne ⟨rfl, e2.symm⟩), getL_drop_other (fun e2 => hne ⟨rfl, e2⟩)]
      exact hg
    · exact ⟨it', by rw [hlo _ e]; exact hg, rfl⟩
  have hwa2 := walk_moved hW hitp (fun j => Upd.refl _) hF2' _ _ _ hroot.2.2.1 hdta hwa hka hnop
  rw [h1id, atN_of hnd hpo.inN] at hwa2
  refine ⟨p, it, atN N it.node, F2, hpo, hitp, hren2, ?_, ?_, by rw [hi]; exact hlp, hlo⟩
  · exact find_mk hsa hda hwa hka (by rw [← hna, ← hkeya]; exact hit)
  · have := find_mk hsa hda hwa2 hka (it := ⟨p.key, p.name, i⟩) (by rw [← hna, ← hkeya, hent2, hlp]; exact getL_putL rfl hsortp)
    rw [hi]
    exact this
end Go.Proofs.YtjpmomklkkifjaaGreatDoor.T
namespace Go.Proofs.YtjpmomklkkifjaaGreatDoor.T
open Go.RowKit
set_option maxRecDepth 100000
set_option linter.unusedVariables false
set_option linter.unusedSimpArgs false

variable {N acc N' : List NV} {F F' F2 : Forest} {next : Int}
theorem Twins.fwd {A B : List NV} (h : Twins F F' A B) : ∀ v ∈ A, ∃ v' ∈ B, Twin F F' v v' := by
  induction h with
  | nil => intro v hv; cases hv
  | @snoc A B v v' _ ht ih =>
    intro x hx
    rcases List.mem_append.1 hx with hx | hx
    · obtain ⟨u, hu, h2⟩ := ih x hx
      exact ⟨u, List.mem_append_left _ hu, h2⟩
    · rw [List.mem_singleton.1 hx]
      exact ⟨v', List.mem_append_right _ (by simp), ht⟩
theorem twin_at (hn : (N.map NV.id).Nodup) (hp : acc.Perm N) (ht : Twins F F' acc N') (j : Int) : Twin F F' (atN N j) (atN N' j) := by
  have hn' : (N'.map NV.id).Nodup := by rw [ht.ids]; exact (hp.map NV.id).nodup_iff.2 hn
  cases h : findN N j with
  | none =>
    have h' : findN N' j = none := by
      cases h2 : findN N' j with
      | none => rfl
      | some u =>
        exfalso
        have hm : j ∈ N'.map NV.id := List.mem_map.2 ⟨u, (findN_some h2).1, (findN_some h2).2⟩
        rw [ht.ids] at hm
        obtain ⟨v, hv, e⟩ := List.mem_map.1 hm
        have := findN_mem hn (hp.mem_iff.1 hv)
        rw [e, h] at this
        cases this
    unfold atN
    rw [h, h']
    exact ⟨rfl, rfl, rfl, rfl, rfl, rfl, fun hk => by simp [NV.zero] at hk⟩
  | some u =>
    obtain ⟨hu, hid⟩ := findN_some h
    obtain ⟨u', hu', t⟩ := ht.fwd u (hp.mem_iff.2 hu)
    have h' : findN N' j = some u' := by
      have := findN_mem hn' hu'
      rw [t.id, hid] at this
      exact this
    unfold atN
    rw [h, h']
    exact t
theorem walk_twin (hat : ∀ j, Twin F F' (atN N j) (atN N' j)) : ∀ (l : List ByteArray) (v v' u : NV), Twin F F' v v' → walkP N F v l = .ok u → ∃ u', walkP N' F' v' l = .ok u' ∧ Twin F F' u u'
  | [], v, v', u, t, h => by cases h; exact ⟨v', rfl, t⟩
  | q :: l, v, v', u, t, h => by
    have h' : (match stepP N F v q with | .ok u => walkP N F u l | .error k => .error k) = .ok u := h
    cases hs : stepP N F v q with
    | error k => rw [hs] at h'; cases h'
    | ok v1 =>
      rw [hs] at h'
      have hstep : ∃ v1', stepP N' F' v' q = .ok v1' ∧ Twin F F' v1 v1' := by
        unfold stepP at hs
        split at hs
        · cases hs
        rename_i hk
        have hk1 : v.kind = 1 := by omega
        have he : entsOf F' v' = entsOf F v := by
          have := t.ents
          unfold entsK at this
          rw [t.kind, if_pos hk1, if_pos hk1] at this
          exact this
        unfold stepP
        rw [if_neg (by rw [t.kind]; exact hk)]
        split at hs
        · rename_i h1
          rw [if_pos h1]
          cases hs
          exact ⟨v', rfl, t⟩
        rename_i h1
        rw [if_neg h1]
        split at hs
        · rename_i h2
          rw [if_pos h2]
          cases hs
          exact ⟨_, rfl, by rw [t.up]; exact hat _⟩
        rename_i h2
        rw [if_neg h2, he]
        split at hs
        · cases hs
        · cases hs
          exact ⟨_, rfl, hat _⟩
      obtain ⟨v1', e, t1⟩ := hstep
      obtain ⟨u', e2, t2⟩ := walk_twin hat l v1 v1' u t1 h'
      exact ⟨u', by show (match stepP N' F' v' q with | .ok u => walkP N' F' u l | .error k => .error k) = _; rw [e]; exact e2, t2⟩
theorem find_twin (hn : (N.map NV.id).Nodup) (hp : acc.Perm N) (ht : Twins F F' acc N') {s : ByteArray} {u : NV} (h : findP N F s = .ok u) : ∃ u', findP N' F' s = .ok u' ∧ Twin F F' u u' := by
  unfold findP at h ⊢
  cases hp2 : partsP s with
  | error k => rw [hp2] at h; cases h
  | ok l =>
    rw [hp2] at h
    exact walk_twin (twin_at hn hp ht) l _ _ u (twin_at hn hp ht 1) h

theorem flat_congr {G : Forest} : ∀ {A : List NV}, (∀ u ∈ A, entsK G u = entsK F u) → A.flatMap (ofNode G) = A.flatMap (ofNode F)
  | [], _ => rfl
  | u :: A, h => by
    rw [List.flatMap_cons, List.flatMap_cons, flat_congr fun v hv => h v (List.mem_cons_of_mem _ hv)]
    unfold ofNode
    rw [h u List.mem_cons_self]
theorem back_rows (hW : Whole N F next) {p : PL} {it : Item} (hpo : PlaceOk N F p) (hit : getL (lookF F p.tb) p.key = some it) (h1 : lookF F2 p.tb = putL (dropL (lookF F p.tb) p.key) ⟨p.key, p.name, it.node⟩) (h2 : ∀ t, t ≠ p.tb → lookF F2 t = lookF F t) :
    ∃ P Q c d, rowsOf F next N = P ++ c :: Q ∧ rowsOf F2 next N = P ++ d :: Q ∧ c.key = d.key ∧ c.gone = d.gone := by
  have hpt := hpo.tbs
  obtain ⟨hs, hnm⟩ := hW.trees.look hpt.2
  have hkey : it.key = p.key := by
    have := List.find?_some hit
    simpa using this
  have hmem : it ∈ lookF F p.tb := List.mem_of_find?_eq_some hit
  obtain ⟨A, C, hAC⟩ := List.append_of_mem hmem
  have hsAC := hs
  rw [hAC] at hsAC
  have hlow : ∀ x ∈ A, kLt x.key p.key := fun x hx => by rw [← hkey]; exact (List.pairwise_append.1 hsAC).2.2 x hx it (by simp)
  have hhigh : ∀ x ∈ C, kLt p.key x.key := fun x hx => by rw [← hkey]; exact (List.pairwise_cons.1 (List.pairwise_append.1 hsAC).2.1).1 x hx
  have hl2 : lookF F2 p.tb = A ++ ⟨p.key, p.name, it.node⟩ :: C := by
    rw [h1, hAC, ← hkey, dropL_at hsAC, hkey]
    exact putL_at A C hlow hhigh
  have hE : entsK F p.v = A ++ it :: C := by rw [entsK_folder hpo.kind hpt.1, hAC]
  have hE2 : entsK F2 p.v = A ++ ⟨p.key, p.name, it.node⟩ :: C := by rw [entsK_folder hpo.kind hpt.1, hl2]
  obtain ⟨X, Y, hXY⟩ := List.append_of_mem hpo.inN
  have hoth : ∀ u ∈ N, u.id ≠ p.v.id → entsK F2 u = entsK F u := fun u hu hne => by
    by_cases hk : u.kind = 1
    · obtain ⟨t, htb, _⟩ := hW.tree u hu hk
      rw [entsK_folder hk htb, entsK_folder hk htb]
      refine h2 t fun e => hne ?_
      exact hW.tbs u hu p.v hpo.inN hk hpo.kind (by rw [htb, hpt.1, e])
    · rw [entsK_file hk, entsK_file hk]
  have hn := hW.linked.nodup
  rw [hXY] at hn
  simp only [List.map_append, List.map_cons] at hn
  have hn2 := List.nodup_append.1 hn
  have hX : X.flatMap (ofNode F2) = X.flatMap (ofNode F) := flat_congr fun u hu => hoth u (by rw [hXY]; simp [hu]) fun e => hn2.2.2 u.id (List.mem_map.2 ⟨u, hu, rfl⟩) p.v.id (by simp) e
  have hY : Y.flatMap (ofNode F2) = Y.flatMap (ofNode F) := flat_congr fun u hu => hoth u (by rw [hXY]; simp [hu]) fun e => (List.nodup_cons.1 hn2.2.1).1 (by rw [← e]; exact List.mem_map.2 ⟨u, hu, rfl⟩)
  refine ⟨nextCh next :: (X.flatMap (ofNode F) ++ nodeCh p.v :: A.map (entCh p.v.id)), C.map (entCh p.v.id) ++ Y.flatMap (ofNode F), entCh p.v.id it, entCh p.v.id ⟨p.key, p.name, it.node⟩, ?_, ?_, ?_, rfl⟩
  · unfold rowsOf
    rw [hXY, List.flatMap_append, List.flatMap_cons]
    simp only [ofNode, hE]
    simp
  · unfold rowsOf
    rw [hXY, List.flatMap_append, List.flatMap_cons, hX, hY]
    simp only [ofNode, hE2]
    simp
  · have e : keyS it.name = keyS p.name := by rw [← (hnm it hmem).1, hkey, hpo.key]
    unfold entCh
    simp only
    rw [e]
theorem sorted_mid {P Q R1 R2 : List CH} {c d : CH} (hk : c.key = d.key) (h1 : R1.Perm (P ++ c :: Q)) (h2 : R2.Perm (P ++ d :: Q)) (s1 : R1.Pairwise fun a b => ¬ kLt b.key a.key) (s2 : R2.Pairwise fun a b => ¬ kLt b.key a.key) (hn : ((P ++ c :: Q).map CH.key).Nodup) : ∃ A B, R1 = A ++ c :: B ∧ R2 = A ++ d :: B := by
  have hc : c ∈ R1 := h1.mem_iff.2 (by simp)
  obtain ⟨A, B, e⟩ := List.append_of_mem hc
  subst e
  refine ⟨A, B, rfl, ?_⟩
  have hp : (A ++ B).Perm (P ++ Q) := by
    have h3 := (List.perm_middle (a := c) (l₁ := A) (l₂ := B)).symm.trans (h1.trans List.perm_middle)
    exact h3.cons_inv
  have hp2 : R2.Perm (A ++ d :: B) := h2.trans (List.perm_middle.trans ((hp.symm.cons d).trans List.perm_middle.symm))
  have hm : (A ++ d :: B).map CH.key = (A ++ c :: B).map CH.key := by simp [hk]
  have s3 : (A ++ d :: B).Pairwise fun a b => ¬ kLt b.key a.key := by
    have h3 : ((A ++ c :: B).map CH.key).Pairwise fun a b => ¬ kLt b a := List.pairwise_map.2 s1
    rw [← hm] at h3
    exact List.pairwise_map.1 h3
  refine sorted_once hp2 s2 s3 ?_
  have h4 : (R2.map CH.key).Perm ((A ++ c :: B).map CH.key) := by rw [← hm]; exact hp2.map _
  exact (h4.trans (h1.map CH.key)).nodup_iff.2 hn
end Go.Proofs.YtjpmomklkkifjaaGreatDoor.T
