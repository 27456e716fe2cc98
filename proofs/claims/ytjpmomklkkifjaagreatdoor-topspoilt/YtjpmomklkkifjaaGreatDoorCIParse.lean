import Derived.Test.YtjpmomklkkifjaaGreatDoorCINodeOf
import Derived.Test.YtjpmomklkkifjaaGreatDoorCFFind
import Derived.Test.YtjpmomklkkifjaaGreatDoorCFCopy
import Derived.Test.YtjpmomklkkifjaaGreatDoorCILink
import Derived.Deep.RegionHeldLaw
import Derived.BigQuiet
import Derived.Deep.QuietTactic
import Derived.Test.YtjpmomklkkifjaaGreatDoorCFWalk
import Derived.Test.YtjpmomklkkifjaaGreatDoorCFLater
import Derived.Test.YtjpmomklkkifjaaGreatDoorCFRename
import Derived.Test.YtjpmomklkkifjaaGreatDoorCFGood
import Derived.Test.YtjpmomklkkifjaaGreatDoorCJCut
import Derived.Test.YtjpmomklkkifjaaGreatDoorCJApplied
import Derived.Test.YtjpmomklkkifjaaGreatDoorCIMadeF
import Derived.Test.YtjpmomklkkifjaaGreatDoorCFListP
set_option maxRecDepth 100000
set_option linter.unusedVariables false
set_option linter.unusedSimpArgs false
namespace Go.Proofs.YtjpmomklkkifjaaGreatDoor.T
open Go.RowKit
def itemsOf (E : List DE) (i : Int) : List Item := match E.find? (fun e => e.folder == i) with | some e => e.items | none => []
def entsOfE (E : List DE) (u : NV) : List Item := if u.kind = 1 then putAll (itemsOf E u.id) else []
structure Built1 (E : List DE) (F' : Forest) (u v : NV) : Prop where
  id : v.id = u.id
  kind : v.kind = u.kind
  up : v.up = u.up
  links : v.links = u.links
  text : v.text = u.text
  ents : entsK F' v = entsOfE E u
  tree : v.kind = 1 → ∃ tb, v.tb = some tb ∧ tb ∈ F'.map (·.1)
inductive Built (E : List DE) (F' : Forest) : List NV → List NV → Prop
  | nil : Built E F' [] []
  | snoc {A B : List NV} {u v : NV} : Built E F' A B → Built1 E F' u v → Built E F' (A ++ [u]) (B ++ [v])
theorem Built.more {E : List DE} {F' : Forest} {A B : List NV} {tb : Nat} {L : List Item} (h : Built E F' A B) (hn : tb ∉ F'.map (·.1)) : Built E ((tb, L) :: F') A B := by
  induction h with
  | nil => exact .nil
  | snoc _ ht ih => exact .snoc ih ⟨ht.id, ht.kind, ht.up, ht.links, ht.text, by rw [entsK_new ht.tree hn]; exact ht.ents, fun hk => by obtain ⟨t, e, ht⟩ := ht.tree hk; exact ⟨t, e, by simp; exact .inr (by simpa using ht)⟩⟩
theorem Built.ids {E : List DE} {F' : Forest} {A B : List NV} (h : Built E F' A B) : B.map NV.id = A.map NV.id := by
  induction h with
  | nil => rfl
  | snoc _ ht ih => rw [List.map_append, List.map_append, ih, List.map_cons, List.map_cons, ht.id]
theorem H0.fsN {w0 w : World} {l2 : List Res} (h : H0 w0 w l2) (hb : w0.heap.size ≤ w.heap.size) (next : Int) : FSIn w0 ((w.alloc (.map #[] 0)).alloc (.cells #[.map (some w.heap.size), .int .i64 next] 77)) (w.heap.size + 1) w.heap.size [] [] next l2 := by
  have h1 := Hold.mapNew h hb
  have h2 := Hold.made h1 (by simp; omega) 77 [.map (some w.heap.size), .int .i64 next]
  rw [World.size_alloc] at h2
  exact ⟨[], .nil, h2⟩
def NewNode (E : List DE) (F' F2 : Forest) (u v : NV) : Prop :=
  v.id = u.id ∧ v.kind = u.kind ∧ v.up = u.up ∧ v.links = u.links ∧ v.text = u.text ∧ ((u.kind ≠ 1 ∧ F2 = F' ∧ v.tb = none) ∨ (u.kind = 1 ∧ ∃ tb, tb ∉ F'.map (·.1) ∧ F2 = (tb, putAll (itemsOf E u.id)) :: F' ∧ v.tb = some tb))
theorem Built.add {E : List DE} {F' F2 : Forest} {A B : List NV} {u v : NV} (h : Built E F' A B) (hn : NewNode E F' F2 u v) : Built E F2 (A ++ [u]) (B ++ [v]) := by
  obtain ⟨h1, h2, h3, h4, h5, h6⟩ := hn
  rcases h6 with ⟨hk, rfl, ht⟩ | ⟨hk, tb, hf, rfl, ht⟩
  · refine .snoc h ⟨h1, h2, h3, h4, h5, ?_, fun hv => absurd (h2 ▸ hv) hk⟩
    unfold entsK entsOfE
    rw [h2, if_neg hk, if_neg hk]
  · refine .snoc (h.more hf) ⟨h1, h2, h3, h4, h5, ?_, fun _ => ⟨tb, ht, by simp⟩⟩
    unfold entsK entsOfE entsOf
    rw [h2, if_pos hk, if_pos hk, ht]
    simp [lookF]
variable {w0 w : World} {l0 : List Res} {E : List DE} {eb : Nat}
theorem look_ents (h : Res.Sat w0.heap.size w (.obj eb (P.IsMapP (E.map DE.pv)))) (hn : (E.map DE.folder).Nodup) {i : Int} (hi : WfI i) :
    (∃ e ∈ E, e.folder = i ∧ itemsOf E i = e.items ∧ (Instr.lookup 117 (.map (some eb)) (.int .i64 i) false).run Tryz.prog w = .ok e.v w) ∨ ((∀ e ∈ E, e.folder ≠ i) ∧ itemsOf E i = [] ∧ (Instr.lookup 117 (.map (some eb)) (.int .i64 i) false).run Tryz.prog w = .ok (.slice none 0 0) w) := by
  have h1 := P.look117 h hi
  unfold P.atP at h1
  have hfind : E.find? (fun e => e.folder == i) = none ∧ (P.findP (E.map DE.pv) i = none) ∨ ∃ e, E.find? (fun e => e.folder == i) = some e ∧ P.findP (E.map DE.pv) i = some e.pv := by
    clear h h1 hn
    induction E with
    | nil => exact .inl ⟨rfl, rfl⟩
    | cons e E ih =>
      by_cases he : (e.folder == i) = true
      · exact .inr ⟨e, List.find?_cons_of_pos (p := fun e : DE => e.folder == i) he, by unfold P.findP; exact List.find?_cons_of_pos (p := fun v : P.PV => v.id == i) (a := e.pv) he⟩
      · rcases ih with ⟨a, b⟩ | ⟨x, a, b⟩
        · exact .inl ⟨(List.find?_cons_of_neg (p := fun e : DE => e.folder == i) he).trans a, by unfold P.findP at b ⊢; exact (List.find?_cons_of_neg (p := fun v : P.PV => v.id == i) (a := e.pv) he).trans b⟩
        · exact .inr ⟨x, (List.find?_cons_of_neg (p := fun e : DE => e.folder == i) he).trans a, by unfold P.findP at b ⊢; exact (List.find?_cons_of_neg (p := fun v : P.PV => v.id == i) (a := e.pv) he).trans b⟩
  rcases hfind with ⟨a, b⟩ | ⟨e, a, b⟩
  · refine .inr ⟨fun e he e2 => ?_, by unfold itemsOf; rw [a], by rw [b] at h1; exact h1⟩
    have := List.find?_eq_none.1 a e he
    exact this (by simpa using e2)
  · refine .inl ⟨e, List.mem_of_find?_eq_some a, by have := List.find?_some a; simpa using this, by unfold itemsOf; rw [a], by rw [b] at h1; exact h1⟩
theorem nodeOf_any (hR : Ready w0) {fb mb : Nat} {N' : List NV} {F' : Forest} {next : Int} {lx : List Res} (h : FSIn w0 w fb mb N' F' next lx) (u : NV) (ev : Value) (hev : (u.kind = 1 ∧ rowE ev (itemsOf E u.id) ∈ lx ∧ (itemsOf E u.id).length ≤ 1000 ∧ ∀ x ∈ itemsOf E u.id, x.key = keyS x.name ∧ checkP x.name = none) ∨ (ev = .slice none 0 0 ∧ (u.kind = 1 → itemsOf E u.id = []))) :
    Calls Tryz.prog 105 #[.agg #[.int .i64 u.id, .int .i64 u.kind, .int .i64 u.up, .int .i64 u.links, .string u.text], ev] w fun e w' => ∃ v F2, e = .returned v.val ∧ NewNode E F' F2 u v ∧ FSIn w0 w' fb mb N' F2 next lx := by
  have fresh : ∀ {w' : World} {tb : Nat} {L : List Item}, FSIn w0 w' fb mb N' ((tb, L) :: F') next lx → tb ∉ F'.map (·.1) := fun hx => by
    have := hx.nodup
    rw [List.map_cons, List.nodup_cons] at this
    exact this.1
  rcases hev with ⟨hk, hm, hl, hL⟩ | ⟨rfl, hk0⟩
  · rw [hk]
    refine (nodeOf_ents hR h u.id u.up u.links u.text hm hl hL).mono ?_
    rintro e w' ⟨tb, rfl, h2⟩
    exact ⟨⟨u.id, 1, u.up, u.links, u.text, some tb⟩, _, rfl, ⟨rfl, hk.symm, rfl, rfl, rfl, .inr ⟨hk, tb, fresh h2, rfl, rfl⟩⟩, h2⟩
  · by_cases hk : u.kind = 1
    · rw [hk]
      refine (nodeOf_folder w0 w fb mb N' F' next lx h u.id u.up u.links u.text).mono ?_
      rintro e w' ⟨tb, rfl, h2⟩
      exact ⟨⟨u.id, 1, u.up, u.links, u.text, some tb⟩, _, rfl, ⟨rfl, hk.symm, rfl, rfl, rfl, .inr ⟨hk, tb, fresh h2, by rw [hk0 hk]; rfl, rfl⟩⟩, h2⟩
    · refine (nodeOf_file w0 w fb mb N' F' next lx h u.id u.kind u.up u.links u.text hk).mono ?_
      rintro e w' ⟨rfl, h2⟩
      exact ⟨⟨u.id, u.kind, u.up, u.links, u.text, none⟩, _, rfl, ⟨rfl, rfl, rfl, rfl, rfl, .inl ⟨hk, rfl, rfl⟩⟩, h2⟩
set_option maxHeartbeats 8000000 in
theorem of_all (hR : Ready w0) (h : H0 w0 w l0) (he : Res.obj eb (P.IsMapP (E.map DE.pv)) ∈ l0) (hrows : ∀ e ∈ E, rowE e.v e.items ∈ l0) {vN : Value} {L : List NV} (hL : rowNd vN L ∈ l0) (hl : L.length ≤ 16) (hl0 : 0 < L.length) (hid : ∀ u ∈ L, WfI u.id) (hnd : (L.map NV.id).Nodup) (hE : (E.map DE.folder).Nodup)
    (hI : ∀ e ∈ E, e.items.length ≤ 1000 ∧ (∀ x ∈ e.items, x.key = keyS x.name ∧ checkP x.name = none)) (hk : ∀ u ∈ L, u.kind ≠ 1 → ∀ e ∈ E, e.folder ≠ u.id) (next : Int) :
    Calls Tryz.prog 80 #[vN, .map (some eb), .int .i64 next] w fun e w' => ∃ fb mb N' F', e = .returned (.pointer (some ⟨fb, 0, none⟩)) ∧ Built E F' L N' ∧ (∀ x ∈ F', ∃ u ∈ L, u.kind = 1 ∧ x.2 = putAll (itemsOf E u.id)) ∧ FSIn w0 w' fb mb N' F' next l0 := by
  have hb0 := (H0.below h).size
  have h1 := H0.fsN h hb0 next
  obtain ⟨mb, hmb⟩ : ∃ mb, w.heap.size = mb := ⟨_, rfl⟩
  rw [hmb] at h1
  obtain ⟨w1, hw1⟩ : ∃ w1, (w.alloc (.map #[] 0)).alloc (.cells #[.map (some mb), .int .i64 next] 77) = w1 := ⟨_, rfl⟩
  rw [hw1] at h1
  have hrow := h1.rowAt (v := vN) (e := 33) (k := 5) hL
  obtain ⟨g, cap, rfl, _⟩ := row_shape hrow hl0
  have hmm := @run_makeMap Tryz.prog
  obtain ⟨n, hn⟩ : ∃ n, L.length = n := ⟨_, rfl⟩
  have Hn := hide hn
  have H1 : Hid (∃ N' F', Built E F' (L.take 0) N' ∧ (∀ x ∈ F', ∃ u ∈ L, u.kind = 1 ∧ x.2 = putAll (itemsOf E u.id)) ∧ FSIn w0 w1 (mb + 1) mb N' F' next l0) := ⟨[], [], .nil, by simp, h1⟩
  have HLm := hide hL
  have HR := hide hR
  have HEm := hide he
  have HRw := hide hrows
  have HId := hide hid
  have HNd := hide hnd
  have HE := hide hE
  have HI := hide hI
  have HK := hide hk
  rw [hn] at hl ⊢
  clear h h1 hrow hR he hrows hid hnd hE hI hk hL hl0 hn
  go_enter Tryz.func80, Tryz.ntmps80
  go_wp2_with fail
  go_loopg [16] (n + 1) (fun k vi wr => ∃ i : Nat, n - i < k ∧ i ≤ n ∧ vi = .int .i64 i ∧ Hid (∃ N' F', Built E F' (L.take i) N' ∧ (∀ x ∈ F', ∃ u ∈ L, u.kind = 1 ∧ x.2 = putAll (itemsOf E u.id)) ∧ FSIn w0 wr (mb + 1) mb N' F' next l0))
  case atStart => exact ⟨0, by omega, by omega, rfl, H1⟩
  case round =>
    obtain ⟨i, hg, hi, rfl, HI2⟩ := hrel
    clear H1
    by_cases hin : i < n
    · have hiz : (i : Int) < (n : Int) := by omega
      have hil : i < L.length := by rw [unhide Hn]; exact hin
      obtain ⟨u, hu⟩ : ∃ u, L[i]? = some u := ⟨L[i], by simp [hil]⟩
      have huL := List.mem_of_getElem? hu
      obtain ⟨N', F', hB, hD, hx⟩ := unhide HI2
      have hrow := hx.rowAt (v := .slice (some ⟨g, 0, none⟩) L.length cap) (e := 33) (k := 5) (unhide HLm)
      rw [unhide Hn] at hrow
      obtain ⟨c0, c1, c2, c3, c4⟩ := node_cell hrow hu
      have hwf := unhide HId u huL
      have h3 := hx.made 33 [.int .i64 u.id, .int .i64 u.kind, .int .i64 u.up, .int .i64 u.links, .string u.text]
      obtain ⟨C, hC⟩ : ∃ C, wr.heap.size = C := ⟨_, rfl⟩
      rw [hC] at h3
      obtain ⟨w4, hw4⟩ : ∃ w4, wr.alloc (.cells [.int .i64 u.id, .int .i64 u.kind, .int .i64 u.up, .int .i64 u.links, .string u.text].toArray 33) = w4 := ⟨_, rfl⟩
      rw [hw4] at h3
      have hw4' : wr.alloc (.cells #[.int .i64 u.id, .int .i64 u.kind, .int .i64 u.up, .int .i64 u.links, .string u.text] 33) = w4 := hw4
      have hlook := look_ents (Hold.sat (FSIn.rest (FSIn.drew h3)) (.obj eb (P.IsMapP (E.map DE.pv))) (.tail _ (unhide HEm))) (unhide HE) hwf
      obtain ⟨ev, hev, hrun⟩ : ∃ ev, ((u.kind = 1 ∧ rowE ev (itemsOf E u.id) ∈ (.cell C 33 [.int .i64 u.id, .int .i64 u.kind, .int .i64 u.up, .int .i64 u.links, .string u.text] :: l0 : List Res) ∧ (itemsOf E u.id).length ≤ 1000 ∧ ∀ x ∈ itemsOf E u.id, x.key = keyS x.name ∧ checkP x.name = none) ∨ (ev = .slice none 0 0 ∧ (u.kind = 1 → itemsOf E u.id = []))) ∧ (Instr.lookup 117 (.map (some eb)) (.int .i64 u.id) false).run Tryz.prog w4.drew = .ok ev w4.drew := by
        rcases hlook with ⟨e, he, hef, hit, hr⟩ | ⟨hno, hit, hr⟩
        · by_cases hk : u.kind = 1
          · exact ⟨e.v, .inl ⟨hk, by rw [hit]; exact .tail _ (unhide HRw e he), by rw [hit]; exact (unhide HI e he).1, by rw [hit]; exact (unhide HI e he).2⟩, hr⟩
          · exact absurd hef (unhide HK u huL hk e he)
        · exact ⟨_, .inr ⟨rfl, fun _ => hit⟩, hr⟩
      have hno := nodeOf_any (E := E) (unhide HR) (FSIn.drew h3) u ev hev
      have hNl : N'.length = i := by
        have := congrArg List.length hB.ids
        simp only [List.length_map, List.length_take] at this
        omega
      have hfresh : u.id ∉ N'.map NV.id := by
        rw [hB.ids]
        intro hm
        obtain ⟨z, hz, hzi⟩ := List.mem_map.1 hm
        obtain ⟨q, hq, hzq⟩ := List.mem_take_iff_getElem.1 hz
        have h7 := List.getElem?_eq_some_iff.1 hu
        obtain ⟨hil2, hui⟩ := h7
        have := (List.nodup_iff_pairwise_ne.1 (unhide HNd))
        rw [List.pairwise_map] at this
        have h8 := List.pairwise_iff_getElem.1 this q i (by omega) hil2 (by omega)
        rw [hui] at h8
        exact h8 (by rw [← hzi, ← hzq])
      have HSx : Hid (∀ wx M G l, FSIn w0 wx (mb + 1) mb M G next l → Res.cell C 33 [.int .i64 u.id, .int .i64 u.kind, .int .i64 u.up, .int .i64 u.links, .string u.text] ∈ l → wx.cell? ⟨mb + 1, 0, none⟩ = some (.map (some mb)) ∧ wx.cell? ⟨C, 0, none⟩ = some (.int .i64 u.id) ∧ wx.cell? ⟨C, 1, none⟩ = some (.int .i64 u.kind) ∧ wx.cell? ⟨C, 2, none⟩ = some (.int .i64 u.up) ∧ wx.cell? ⟨C, 3, none⟩ = some (.int .i64 u.links) ∧ wx.cell? ⟨C, 4, none⟩ = some (.string u.text)) := fun wx M G l hx hm => ⟨hx.map0, hx.cellAt hm rfl, hx.cellAt hm rfl, hx.cellAt hm rfl, hx.cellAt hm rfl, hx.cellAt hm rfl⟩
      have HS0 := hide (unhide HSx _ _ _ _ (FSIn.drew h3) (.head _))
      have hNo2 : Calls Tryz.prog 105 #[.agg #[.int .i64 u.id, .int .i64 u.kind, .int .i64 u.up, .int .i64 u.links, .string u.text], ev] w4.drew fun e w' => ∃ v F2 w6, e = .returned v.val ∧ NewNode E F' F2 u v ∧ Hid (w'.cell? ⟨mb + 1, 0, none⟩ = some (.map (some mb)) ∧ w'.cell? ⟨C, 0, none⟩ = some (.int .i64 u.id) ∧ w'.cell? ⟨C, 1, none⟩ = some (.int .i64 u.kind) ∧ w'.cell? ⟨C, 2, none⟩ = some (.int .i64 u.up) ∧ w'.cell? ⟨C, 3, none⟩ = some (.int .i64 u.links) ∧ w'.cell? ⟨C, 4, none⟩ = some (.string u.text)) ∧ Sem.run Tryz.prog (Instr.mapUpdate 75 (.map (some mb)) (.int .i64 u.id) v.val) w' = .ok () w6 ∧ FSIn w0 w6 (mb + 1) mb (N' ++ [v]) F2 next (.cell C 33 [.int .i64 u.id, .int .i64 u.kind, .int .i64 u.up, .int .i64 u.links, .string u.text] :: l0) := by
        refine hno.mono ?_
        rintro e w' ⟨v, F2, rfl, hnew, h5⟩
        obtain ⟨w6, hput, h6⟩ := h5.mapPut (by omega) v (by rw [hnew.1]; exact hwf)
        rw [putN_snoc (by rw [hnew.1]; exact hfresh)] at h6
        rw [hnew.1] at hput
        exact ⟨v, F2, w6, rfl, hnew, unhide HSx _ _ _ _ h5 (.head _), hput, h6⟩
      have HNo := hide hNo2
      have Hrun := hide hrun
      have HB := hide hB
      have HD := hide hD
      have Hu := hide hu
      have HuL := hide huL
      obtain ⟨pe, ne, ce, hsl⟩ : ∃ p n c, ev = .slice p n c := by
        rcases hev with ⟨_, hm, _⟩ | ⟨rfl, _⟩
        · obtain ⟨p, c, h⟩ := row_cut (h3.rowAt hm)
          exact ⟨p, _, c, h⟩
        · exact ⟨_, _, _, rfl⟩
      subst hsl
      clear hlook hev hno hNo2 hB hD hx h3 hrow hNl hfresh hu huL hwf HI2 hil hw4
      go_wp2_with fail
      go_region_held (fun w' => w'.cell? ⟨mb + 1, 0, none⟩ = some (.map (some mb)) ∧ w'.cell? ⟨C, 0, none⟩ = some (.int .i64 u.id) ∧ w'.cell? ⟨C, 1, none⟩ = some (.int .i64 u.kind) ∧ w'.cell? ⟨C, 2, none⟩ = some (.int .i64 u.up) ∧ w'.cell? ⟨C, 3, none⟩ = some (.int .i64 u.links) ∧ w'.cell? ⟨C, 4, none⟩ = some (.string u.text)) (first | exact unhide HS6 | exact unhide HS5 | exact unhide HS0) ((go_at_call 105; refine (unhide HNo).mono ?_; rintro e w5 ⟨v, F2, w6, rfl, hnew, HS5, hput, h6⟩; have HS6 := hide (unhide HSx _ _ _ _ h6 (.head _)); have H6 := hide h6; have Hnew := hide hnew; clear h6 hnew))
      all_goals
        have h7 : FSIn w0 w6 (mb + 1) mb (N' ++ [v]) F2 next l0 := FSIn.forget [] (unhide H6)
        have hB2 : Built E F2 (L.take (i + 1)) (N' ++ [v]) := by
          rw [take_snoc (unhide Hu)]
          exact (unhide HB).add (unhide Hnew)
        have hD2 : ∀ x ∈ F2, ∃ u ∈ L, u.kind = 1 ∧ x.2 = putAll (itemsOf E u.id) := fun x hx => by
          rcases (unhide Hnew).2.2.2.2.2 with ⟨_, e1, _⟩ | ⟨hk, tb, _, e1, _⟩
          · rw [e1] at hx; exact unhide HD x hx
          · rw [e1] at hx
            rcases List.mem_cons.1 hx with rfl | hx
            · exact ⟨u, unhide HuL, hk, rfl⟩
            · exact unhide HD x hx
        have H7 : Hid (∃ N' F', Built E F' (L.take (i + 1)) N' ∧ (∀ x ∈ F', ∃ u ∈ L, u.kind = 1 ∧ x.2 = putAll (itemsOf E u.id)) ∧ FSIn w0 w6 (mb + 1) mb N' F' next l0) := ⟨_, F2, hB2, hD2, h7⟩
        clear h7 hB2 hD2 H6 HS6 HS5 HS0 hput
        go_wp2_with fail
        go_roundg (n - i)
        case measure => omega
        case rel => exact ⟨i + 1, by omega, by omega, by simp, H7⟩
    · have hiz : ¬ (i : Int) < (n : Int) := by omega
      obtain ⟨N', F', hB, hD, hx⟩ := unhide HI2
      rw [List.take_of_length_le (by rw [unhide Hn]; omega)] at hB
      have HB := hide hB
      have HD := hide hD
      have HX := hide hx
      clear hB hD hx HI2
      go_wp2_with fail
      go_ret
      exact ⟨mb + 1, rfl, mb, N', F', unhide HB, fun p q h => unhide HD (p, q) h, unhide HX⟩
end Go.Proofs.YtjpmomklkkifjaaGreatDoor.T
namespace Go.Proofs.YtjpmomklkkifjaaGreatDoor.T
open Go.RowKit
theorem rows_len {F : Forest} {next : Int} {N L : List NV} (h : L.Perm N) (hm : (rowsOf F next N).length ≤ 1000) {R T : List CH} (he : rowsOf F next L = R ++ T) : R.length ≤ 1000 ∧ R.length + T.length ≤ 1000 := by
  have h1 := (rowsOf_perm (F := F) (next := next) h).length_eq
  have h2 := congrArg List.length he
  rw [List.length_append] at h2
  omega
theorem drop_flat {F : Forest} {L : List NV} {j : Nat} {u : NV} (hu : L[j]? = some u) : (L.drop j).flatMap (ofNode F) = nodeCh u :: ((entsK F u).map (entCh u.id) ++ (L.drop (j + 1)).flatMap (ofNode F)) := by
  obtain ⟨hj, e⟩ := List.getElem?_eq_some_iff.1 hu
  rw [List.drop_eq_getElem_cons hj, e, List.flatMap_cons]
  rfl
theorem drop_map {α β : Type} {L : List α} {j : Nat} {u : α} (hu : L[j]? = some u) (f : α → β) : (L.drop j).map f = f u :: (L.drop (j + 1)).map f := by
  obtain ⟨hj, e⟩ := List.getElem?_eq_some_iff.1 hu
  rw [List.drop_eq_getElem_cons hj, e, List.map_cons]
variable {w0 w : World} {fb mb : Nat} {N : List NV} {F : Forest} {next : Int} {l2 : List Res}
end Go.Proofs.YtjpmomklkkifjaaGreatDoor.T
namespace Go.Proofs.YtjpmomklkkifjaaGreatDoor.T.J
open Go.RowKit
variable {w0 w : World} {fb mb : Nat} {N : List NV} {F : Forest} {next : Int} {l2 : List Res}
theorem fsRow {b : Nat} {c : CH} (h : FSIn w0 w fb mb N F next (.cell b 69 (encC c) :: l2)) : FSIn w0 w fb mb N F next (rowCh (.slice (some ⟨b, 0, none⟩) 1 1) [c] :: l2) := by
  refine h.conv (fun x => ?_) fun hs q hq => ?_
  · simp only [total_cons]
    have : (rowCh (.slice (some ⟨b, 0, none⟩) 1 1) [c]).foot x = (Res.cell b 69 (encC c)).foot x := by
      show blkN (.slice (some ⟨b, 0, none⟩) 1 1) x = one b x
      unfold blkN one
      simp [Value.ownBlock, eq_comm]
    omega
  · rcases List.mem_cons.1 hq with rfl | hq
    · obtain ⟨h1, h2⟩ := hs (.cell b 69 (encC c)) (by simp)
      exact ⟨rfl, .inr ⟨b, 1, (encC c).toArray, rfl, h1, h2, Nat.le_refl 1, by decide, rfl, rfl⟩⟩
    · exact hs q (by simp [hq])
theorem fs_below (h : FSIn w0 w fb mb N F next l2) : Below w0.heap.size w0 w := by
  obtain ⟨rs, _, H⟩ := h
  exact H0.below H
set_option maxHeartbeats 16000000 in
theorem rows_calls (hR : Ready8 w0) (h : FSIn w0 w fb mb N F next l2) (hO : RowsOk8 N F next) :
    Calls Tryz.prog 31 #[.pointer (some ⟨fb, 0, none⟩)] w fun e w' => ∃ v R, e = .returned v ∧ R.Perm (rowsOf F next N) ∧ R.Pairwise (fun a b => ¬ kLt b.key a.key) ∧ FSIn w0 w' fb mb N F next (rowCh v R :: l2) := by
  have hnd := nodes_calls h hO.fits hO.nodup hO.root
  obtain ⟨nx, hnx⟩ : ∃ nx : Nat, next = (nx : Int) := ⟨next.toNat, by have := hO.top; omega⟩
  have htl : ∀ wx, Ready8 wx → Calls Tryz.prog 68 #[.int .i64 next] wx fun e w' => e = .returned (.string (nextCh next).val) ∧ Below wx.heap.size wx w' := fun wx hrx => by
    have h1 := told_calls next.toNat (by have := hO.top; omega) wx hrx
    rw [Int.toNat_of_nonneg hO.top.1] at h1
    exact h1
  have HNd := hide hnd
  have HTl := hide htl
  have HO := hide hO
  have HR := hide hR
  clear hnd htl hO hR h hnx
  go_enter Tryz.func31, Tryz.ntmps31
  go_wp2_with fail
  refine (unhide HNd).mono ?_
  rintro e w1 ⟨v1, L, rfl, hperm, hsort, h1⟩
  have hlen : L.length ≤ 16 := by rw [hperm.length_eq]; exact (unhide HO).fits.few
  have H1 := hide h1
  have HP := hide hperm
  clear h1 HNd hperm hsort
  go_wp2_with fail
  refine (unhide HTl _ ((unhide HR).later (fs_below (unhide H1)))).mono ?_
  rintro e w2 ⟨rfl, hb2⟩
  have h2 := (unhide H1).step hb2
  obtain ⟨B, hB⟩ : ∃ B, w2.heap.size = B := ⟨_, rfl⟩
  have h3 := h2.made 69 (encC (nextCh next))
  rw [hB] at h3
  obtain ⟨w3, hw3⟩ : ∃ w3, w2.alloc (.cells (encC (nextCh next)).toArray 69) = w3 := ⟨_, rfl⟩
  rw [hw3] at h3
  have hw3' : w2.alloc (.cells #[.string ⟨#[120]⟩, .string (nextCh next).val, .bool false] 69) = w3 := hw3
  have h4 := fsRow h3
  obtain ⟨nv, hnv⟩ : ∃ nv, (nextCh next).val = nv := ⟨_, rfl⟩
  rw [hnv] at hw3'
  have H4 : Hid (∃ R, rowsOf F next L = R ++ (L.drop 0).flatMap (ofNode F) ∧ FSIn w0 w3 fb mb N F next (rowCh (.slice (some ⟨B, 0, none⟩) 1 1) R :: rowNd v1 L :: l2)) := ⟨_, rfl, h4⟩
  have hrN := h4.rowAt (v := v1) (.tail _ (.head _))
  obtain ⟨n, hn⟩ : ∃ n, L.length = n := ⟨_, rfl⟩
  obtain ⟨pN, cN, rfl⟩ := row_cut hrN
  rw [hn] at hlen H1 H4 ⊢
  have Hn := hide hn
  clear h2 h3 h4 hb2 H1 HTl hw3 hrN hn
  go_wp2_with fail
  go_loopg [5, 21] (n + 1) (fun k v5 v21 wr => ∃ j : Nat, n - j < k ∧ j ≤ n ∧ v21 = .int .i64 j ∧ Hid (∃ R, rowsOf F next L = R ++ (L.drop j).flatMap (ofNode F) ∧ FSIn w0 wr fb mb N F next (rowCh v5 R :: rowNd (.slice pN n cN) L :: l2)))
  case atStart => exact ⟨0, by omega, by omega, rfl, H4⟩
  case round =>
    obtain ⟨j, hk, hj, rfl, HI⟩ := hrel
    clear H4
    by_cases hjn : j < n
    · have hjz : (j : Int) < (n : Int) := by omega
      have hjl : j < L.length := by rw [unhide Hn]; exact hjn
      obtain ⟨u, hu⟩ : ∃ u, L[j]? = some u := ⟨L[j], by simp [hjl]⟩
      obtain ⟨R, hRe, hI⟩ := unhide HI
      rw [drop_flat hu] at hRe
      have hrowN := hI.rowAt (v := .slice pN n cN) (.tail _ (.head _))
      rw [unhide Hn] at hrowN
      obtain ⟨g, cap, e1, _⟩ := row_shape hrowN (by omega)
      injection e1 with e1 _ e2
      subst e1 e2
      obtain ⟨c0, c1, c2, c3, c4⟩ := node_cell hrowN hu
      have huN : u ∈ N := (unhide HP).mem_iff.1 (List.mem_of_getElem? hu)
      have hids := (unhide HO).ids u huN
      have hnr := fun wx hrx => nodeRow_in u hids ((unhide HO).ups u huN) ((unhide HO).links u huN) ((unhide HO).text u huN) wx hrx
      have hent := fun wx l (hx : FSIn w0 wx fb mb N F next l) => entries_calls hx (unhide HO).fits u.id (wfI_of (by omega) (by omega))
      rw [atN_of (unhide HO).nodup huN] at hent
      have her : ∀ (x : Item), x ∈ entsK F u → ∀ wx l, FSIn w0 wx fb mb N F next l → Calls Tryz.prog 70 #[.int .i64 u.id, .agg #[.string x.name, .int .i64 x.node]] wx fun e w' => e = .returned (.agg #[.string (entCh u.id x).key, .string (entCh u.id x).val, .bool false]) ∧ FSIn w0 w' fb mb N F next l := fun x hx wx l h => by
        have h1 := (unhide HO).ents u huN x hx
        exact (entryRow_in u.id x hids h1.2.2 h1.2.1 wx ((unhide HR).later (fs_below h))).mono fun e w' ⟨he, hb⟩ => ⟨he, h.step hb⟩
      obtain ⟨hR1, _⟩ := rows_len (unhide HP) (unhide HO).many hRe
      have hbox := hI.made 33 [.int .i64 u.id, .int .i64 u.kind, .int .i64 u.up, .int .i64 u.links, .string u.text]
      obtain ⟨C, hC⟩ : ∃ C, wr.heap.size = C := ⟨_, rfl⟩
      rw [hC] at hbox
      obtain ⟨cn, hcn⟩ : ∃ cn, nodeCh u = cn := ⟨_, rfl⟩
      have hgn : cn.gone = false := by rw [← hcn]; rfl
      rw [hcn] at hRe hnr
      obtain ⟨w5, hw5⟩ : ∃ w5, wr.alloc (.cells [.int .i64 u.id, .int .i64 u.kind, .int .i64 u.up, .int .i64 u.links, .string u.text].toArray 33) = w5 := ⟨_, rfl⟩
      rw [hw5] at hbox
      have hw5' : wr.alloc (.cells #[.int .i64 u.id, .int .i64 u.kind, .int .i64 u.up, .int .i64 u.links, .string u.text] 33) = w5 := hw5
      have x0 : w5.cell? ⟨C, 0, none⟩ = some (.int .i64 u.id) := hbox.cellAt (.head _) (j := 0) rfl
      have x1 : w5.cell? ⟨C, 1, none⟩ = some (.int .i64 u.kind) := hbox.cellAt (.head _) (j := 1) rfl
      have x2 : w5.cell? ⟨C, 2, none⟩ = some (.int .i64 u.up) := hbox.cellAt (.head _) (j := 2) rfl
      have x3 : w5.cell? ⟨C, 3, none⟩ = some (.int .i64 u.links) := hbox.cellAt (.head _) (j := 3) rfl
      have x4 : w5.cell? ⟨C, 4, none⟩ = some (.string u.text) := hbox.cellAt (.head _) (j := 4) rfl
      have HBox := hide hbox
      have HRe := hide hRe
      have HNr := hide hnr
      have HEn := hide hent
      have HEr := hide her
      have Hu := hide hu
      clear hI HI hrowN huN hids hnr hent her hRe hbox hcn hw5 hu hjl
      generalize u.id = uid at *
      go_wp2_with fail
      refine (unhide HNr _ ((unhide HR).later (fs_below (unhide HBox)))).mono ?_
      rintro e w6 ⟨rfl, hb6⟩
      have h6 := (unhide HBox).step hb6
      obtain ⟨ck, cv, cg⟩ := cn
      simp only at hgn
      subst hgn
      have h7 := h6.alloc (.cells #[.string ck, .string cv, .bool false] 69)
      obtain ⟨v8, w8, hap, h8⟩ := FSIn.appC [_] h7 (c := ⟨ck, cv, false⟩) (heap_alloc_new w6 _) hR1 54
      have y0 : w8.cell? ⟨C, 0, none⟩ = some (.int .i64 uid) := h8.cellAt (.head _) (j := 0) rfl
      have HAp := hide hap
      have H8 := hide h8
      have he8 := unhide HEn w8 _ h8
      have HE8 := hide he8
      clear h6 h7 hap h8 he8 hb6 HNr HBox HEn x0 x1 x2 x3 x4 c0 c1 c2 c3 c4 hw5' hC hR1
      go_wp2_with (at_builtin; refine wpList_appendI rfl _ _ 54 54 rfl _ _ rfl rfl (unhide HAp) ?_)
      refine (unhide HE8).mono ?_
      rintro e w9 ⟨vE, rfl, h9⟩
      obtain ⟨E, hE⟩ : ∃ E, entsK F u = E := ⟨_, rfl⟩
      rw [hE] at h9 HRe HEr
      have hrE := h9.rowAt (v := vE) (e := 38) (k := 2) (.head _)
      have hEl : E.length ≤ 1000 := by
        have h1 := (rows_len (unhide HP) (unhide HO).many (R := R ++ [⟨ck, cv, false⟩]) (T := E.map (entCh uid) ++ (L.drop (j + 1)).flatMap (ofNode F)) (by rw [unhide HRe]; simp)).2
        simp only [List.length_append, List.length_map] at h1
        omega
      have H9 : Hid (∃ R1, rowsOf F next L = R1 ++ ((E.drop 0).map (entCh uid) ++ (L.drop (j + 1)).flatMap (ofNode F)) ∧ FSIn w0 w9 fb mb N F next (rowE vE E :: .cell C 33 [.int .i64 uid, .int .i64 u.kind, .int .i64 u.up, .int .i64 u.links, .string u.text] :: rowCh v8 R1 :: rowNd (.slice (some ⟨g, 0, none⟩) n cN) L :: l2)) := ⟨R ++ [(⟨ck, cv, false⟩ : CH)], by rw [unhide HRe]; simp, h9⟩
      obtain ⟨m, hm⟩ : ∃ m, E.length = m := ⟨_, rfl⟩
      obtain ⟨pE, cE, rfl⟩ := row_cut hrE
      rw [hm] at H9 hEl ⊢
      have Hm := hide hm
      clear h9 hrE hE hm HE8 HRe H8 HAp y0
      go_wp2_with fail
      go_loopg [5, 35] (m + 1) (fun k2 v5 v35 wr2 => ∃ i : Nat, m - i < k2 ∧ i ≤ m ∧ v35 = .int .i64 i ∧ Hid (∃ R1, rowsOf F next L = R1 ++ ((E.drop i).map (entCh uid) ++ (L.drop (j + 1)).flatMap (ofNode F)) ∧ FSIn w0 wr2 fb mb N F next (rowE (.slice pE m cE) E :: .cell C 33 [.int .i64 uid, .int .i64 u.kind, .int .i64 u.up, .int .i64 u.links, .string u.text] :: rowCh v5 R1 :: rowNd (.slice (some ⟨g, 0, none⟩) n cN) L :: l2)))
      case atStart => exact ⟨0, by omega, by omega, rfl, H9⟩
      case round =>
        obtain ⟨i, hk2, hi, rfl, HJ⟩ := hrel
        clear H9
        by_cases him : i < m
        · have hiz : (i : Int) < (m : Int) := by omega
          have hil : i < E.length := by rw [unhide Hm]; exact him
          obtain ⟨x, hx⟩ : ∃ x, E[i]? = some x := ⟨E[i], by simp [hil]⟩
          obtain ⟨R1, hR1e, hJ⟩ := unhide HJ
          rw [drop_map hx] at hR1e
          obtain ⟨hR2, _⟩ := rows_len (unhide HP) (unhide HO).many hR1e
          have hrowE := hJ.rowAt (v := .slice pE m cE) (e := 38) (k := 2) (.head _)
          rw [unhide Hm] at hrowE
          obtain ⟨g2, cap2, e3, _⟩ := row_shape hrowE (by omega)
          injection e3 with e3 _ e4
          subst e3 e4
          obtain ⟨d0, d1⟩ := entry_cell hrowE hx
          have y0 : wr.cell? ⟨C, 0, none⟩ = some (.int .i64 uid) := hJ.cellAt (.tail _ (.head _)) (j := 0) rfl
          have h10 := hJ.alloc (.cells #[.string x.name, .int .i64 x.node] 38)
          obtain ⟨D, hD⟩ : ∃ D, wr.heap.size = D := ⟨_, rfl⟩
          obtain ⟨w10, hw10⟩ : ∃ w10, wr.alloc (.cells #[.string x.name, .int .i64 x.node] 38) = w10 := ⟨_, rfl⟩
          have h10b := hJ.made 38 [.string x.name, .int .i64 x.node]
          rw [hD] at h10b
          have h10c := h10b
          have hw10b : wr.alloc (.cells [.string x.name, .int .i64 x.node].toArray 38) = w10 := hw10
          rw [hw10b] at h10c
          rw [hw10] at h10
          have z0 : w10.cell? ⟨D, 0, none⟩ = some (.string x.name) := h10c.cellAt (.head _) (j := 0) rfl
          have z1 : w10.cell? ⟨D, 1, none⟩ = some (.int .i64 x.node) := h10c.cellAt (.head _) (j := 1) rfl
          have y1 : w10.cell? ⟨C, 0, none⟩ = some (.int .i64 uid) := h10c.cellAt (.tail _ (.tail _ (.head _))) (j := 0) rfl
          have her := unhide HEr x (List.mem_of_getElem? hx) w10 _ h10
          obtain ⟨ce, hce⟩ : ∃ ce, entCh uid x = ce := ⟨_, rfl⟩
          have hge : ce.gone = false := by rw [← hce]; rfl
          rw [hce] at her hR1e
          obtain ⟨ek, ev, eg⟩ := ce
          simp only at hge her
          subst hge
          have HE10 := hide her
          have HR1e := hide hR1e
          clear hJ HJ hrowE her hx hil hR1e hce h10 h10b h10c hw10b
          go_wp2_with fail
          refine (unhide HE10).mono ?_
          rintro e w11 ⟨rfl, h11⟩
          have h12 := h11.alloc (.cells #[.string ek, .string ev, .bool false] 69)
          obtain ⟨v13, w13, hap, h13⟩ := FSIn.appC [_, _] h12 (c := ⟨ek, ev, false⟩) (heap_alloc_new w11 _) hR2 54
          have HAp := hide hap
          have H13 := hide h13
          clear h11 h12 hap h13 HE10 y0 y1 z0 z1 d0 d1 hw10 hD
          go_wp2_with (at_builtin; refine wpList_appendI rfl _ _ 54 54 rfl _ _ rfl rfl (unhide HAp) ?_)
          go_roundg (m - i)
          case measure => omega
          case rel => exact ⟨i + 1, by omega, by omega, by simp, R1 ++ [(⟨ek, ev, false⟩ : CH)], by rw [unhide HR1e]; simp, unhide H13⟩
        · have hiz : ¬ (i : Int) < (m : Int) := by omega
          obtain ⟨R1, hR1e, hJ⟩ := unhide HJ
          rw [List.drop_eq_nil_of_le (by rw [unhide Hm]; omega), List.map_nil, List.nil_append] at hR1e
          have H15 := hide (FSIn.forget [] (FSIn.forget [] hJ))
          have HR15 := hide hR1e
          clear hJ HJ hR1e
          go_wp2_with fail
          go_roundg (n - j)
          case measure => omega
          case rel => exact ⟨j + 1, by omega, by omega, by simp, R1, unhide HR15, unhide H15⟩
    · have hjz : ¬ (j : Int) < (n : Int) := by omega
      obtain ⟨R, hRe, hI⟩ := unhide HI
      rw [List.drop_eq_nil_of_le (by rw [unhide Hn]; omega), List.flatMap_nil, List.append_nil] at hRe
      have hrow := hI.rowAt (e := 69) (k := 3) (.head _)
      have hpR : R.Perm (rowsOf F next N) := by rw [← hRe]; exact rowsOf_perm (unhide HP)
      have hl1 : R.length ≤ 1000 := by rw [hpR.length_eq]; exact (unhide HO).many
      have hl0 : 0 < R.length := by rw [← hRe]; simp [rowsOf]
      obtain ⟨gR0, cR, rfl, _⟩ := row_shape hrow hl0
      have hso := sortRows_calls hrow rfl hl1
      have HSo := hide hso
      have HI2 := hide hI
      have HpR := hide hpR
      obtain ⟨r, hr⟩ : ∃ r, R.length = r := ⟨_, rfl⟩
      rw [hr] at HSo
      have Hr := hide hr
      rw [hr]
      clear hso hI HI hpR hl1 hl0 hrow hRe hr
      go_wp2_with fail
      refine (unhide HSo).mono ?_
      rintro e w20 ⟨rfl, R', hp', hsorted, hrow', hgrow⟩
      have hRl : R'.length = r := by rw [hp'.length_eq, unhide Hr]
      have h20 : FSIn w0 w20 fb mb N F next (rowCh (.slice (some ⟨gR0, 0, none⟩) r cR) R' :: rowNd (.slice pN n cN) L :: l2) := by
        unfold rowCh
        rw [hRl]
        exact FSIn.grow [] (unhide HI2) hgrow hrow' (.inl rfl)
      have H20 := hide (FSIn.forget [_] h20)
      have Hp2 := hide (hp'.trans (unhide HpR))
      have Hs := hide hsorted
      clear h20 hRl hp' hrow' hgrow hsorted HSo HI2 HpR Hr
      go_wp2_with fail
      go_ret
      exact ⟨_, R', rfl, unhide Hp2, unhide Hs, unhide H20⟩
end Go.Proofs.YtjpmomklkkifjaaGreatDoor.T.J
namespace Go.Proofs.YtjpmomklkkifjaaGreatDoor.T.J
open Go.RowKit Go.Lib
theorem below_drew {B : Nat} {a w : World} (h : Below B a w) (n : Nat) : Below B a (w.drewN n) := ⟨h.os, h.tape, h.output, h.size, h.block⟩
def EqEnd (w : World) (La Lb : List CH) (e : Ending) (w' : World) : Prop := ∃ r : Bool, e = .returned (.bool r) ∧ (r = true → La = Lb) ∧ Below w.heap.size w w'
theorem toList_inj {a b : ByteArray} (h : a.toList = b.toList) : a = b := by
  rw [Lib.toList_data, Lib.toList_data] at h
  exact ByteArray.ext (by simpa using h)
set_option maxHeartbeats 8000000 in
theorem slEqual_any {w : World} {b1 b2 na nb : Nat} {va vb : Value} {La Lb : List CH} (ha : w.ownsRow b1 69 3 va na (flatC La)) (hb : w.ownsRow b2 69 3 vb nb (flatC Lb)) (hna : La.length = na) (hnb : Lb.length = nb) (hm : na ≤ 200000) (hm2 : nb ≤ 200000) :
    Calls Tryz.prog 81 #[va, vb] w (EqEnd w La Lb) := by
  obtain ⟨pa, ca, rfl⟩ := row_cut ha
  obtain ⟨pb, cb, rfl⟩ := row_cut hb
  by_cases hne : na = nb
  · subst hne
    have HA := hide hna
    have HB := hide hnb
    have HR : Hid (w.ownsRow b1 69 3 (.slice pa na ca) na (flatC La) ∧ w.ownsRow b2 69 3 (.slice pb na cb) na (flatC Lb) ∧ Below w.heap.size w w ∧ La.take 0 = Lb.take 0) := ⟨ha, hb, Below.refl _ _, by simp⟩
    clear ha hb hna hnb
    go_enter Tryz.func81, Tryz.ntmps81
    go_wp2_with fail
    go_loopg [13] (na + 1) (fun k vi wr => ∃ j : Nat, na - j < k ∧ j ≤ na ∧ vi = .int .i64 j ∧ Hid (wr.ownsRow b1 69 3 (.slice pa na ca) na (flatC La) ∧ wr.ownsRow b2 69 3 (.slice pb na cb) na (flatC Lb) ∧ Below w.heap.size w wr ∧ La.take j = Lb.take j))
    case atStart => exact ⟨0, by omega, by omega, rfl, HR⟩
    case round =>
      obtain ⟨j, hk, hj, rfl, HI⟩ := hrel
      clear HR
      by_cases hjn : j < na
      · have hjz : (j : Int) < (na : Int) := by omega
        obtain ⟨x, hx⟩ : ∃ x, La[j]? = some x := ⟨La[j]'(by rw [unhide HA]; exact hjn), List.getElem?_eq_getElem _⟩
        obtain ⟨y, hy⟩ : ∃ y, Lb[j]? = some y := ⟨Lb[j]'(by rw [unhide HB]; exact hjn), List.getElem?_eq_getElem _⟩
        obtain ⟨g1, cap1, e1, _⟩ := row_shape (unhide HI).1 (by omega)
        injection e1 with e1 _ e2
        subst e1 e2
        obtain ⟨g2, cap2, e3, _⟩ := row_shape (unhide HI).2.1 (by omega)
        injection e3 with e3 _ e4
        subst e3 e4
        obtain ⟨x0, x1, x2⟩ := ch_cell (unhide HI).1 hx
        obtain ⟨y0, y1, y2⟩ := ch_cell (unhide HI).2.1 hy
        have HStep : Hid (x = y → La.take (j + 1) = Lb.take (j + 1)) := fun e => by
          rw [List.take_add_one, List.take_add_one, hx, hy, (unhide HI).2.2.2, e]
        obtain ⟨xk, xv, xg⟩ := x
        obtain ⟨yk, yv, yg⟩ := y
        simp only at x0 x1 x2 y0 y1 y2
        clear hx hy
        by_cases hk1 : xk = yk
        · by_cases hk2 : xv = yv
          · by_cases hk3 : xg = yg
            · subst hk1 hk2 hk3
              have HS := hide (unhide HStep rfl)
              clear HStep
              go_wp2_with fail
              go_quiet (fail)
              go_wp2_with fail
              go_roundg (na - j)
              case measure => omega
              case rel => exact ⟨j + 1, by omega, by omega, by simp, (unhide HI).1, (unhide HI).2.1, below_drew (unhide HI).2.2.1 _, unhide HS⟩
            · subst hk1 hk2
              have g3 : (xg == yg) = false := by simpa using hk3
              clear hk3 HStep
              go_wp2_with fail
              go_quiet (fail)
              go_wp2_with fail
              go_ret
              exact ⟨false, rfl, fun h => (by cases h), below_drew (unhide HI).2.2.1 _⟩
          · subst hk1
            have g2 : (xv.toList == yv.toList) = false := by
              rw [beq_eq_false_iff_ne, Ne]
              exact fun h => hk2 (toList_inj h)
            clear hk2 HStep
            go_wp2_with fail
            go_quiet (fail)
            go_wp2_with fail
            go_ret
            exact ⟨false, rfl, fun h => (by cases h), below_drew (unhide HI).2.2.1 _⟩
        · have g1 : (xk.toList == yk.toList) = false := by
            rw [beq_eq_false_iff_ne, Ne]
            exact fun h => hk1 (toList_inj h)
          clear hk1 HStep
          go_wp2_with fail
          go_quiet (fail)
          go_wp2_with fail
          go_ret
          exact ⟨false, rfl, fun h => (by cases h), below_drew (unhide HI).2.2.1 _⟩
      · have hjz : ¬ (j : Int) < (na : Int) := by omega
        go_wp2_with fail
        go_ret
        refine ⟨true, rfl, fun _ => ?_, (unhide HI).2.2.1⟩
        have h := (unhide HI).2.2.2
        rw [List.take_of_length_le (by rw [unhide HA]; omega), List.take_of_length_le (by rw [unhide HB]; omega)] at h
        exact h
  · have hz : ((na : Int) == (nb : Int)) = false := by simpa using fun h => hne (by omega)
    clear ha hb hna hnb hne
    go_enter Tryz.func81, Tryz.ntmps81
    go_wp2_with fail
    go_ret
    exact ⟨false, rfl, fun h => (by cases h), Below.refl _ _⟩
end Go.Proofs.YtjpmomklkkifjaaGreatDoor.T.J
namespace Go.Proofs.YtjpmomklkkifjaaGreatDoor.T
open Go.RowKit
def dotsB (p : ByteArray) : Bool := p.toList == [46] || p.toList == [46, 46]
noncomputable def upP (s : ByteArray) : Bool := match partsP s with
  | .error _ => true
  | .ok l => l.any dotsB
end Go.Proofs.YtjpmomklkkifjaaGreatDoor.T
namespace Go.Proofs.YtjpmomklkkifjaaGreatDoor.T
open Go.RowKit
theorem no47 {s : ByteArray} (h : checkP s = none) : (47 : UInt8) ∉ s.data.toList := by
  obtain ⟨hn, e, _⟩ := name_of_check h
  rw [e]
  have h1 := encL_no47 (Name.no47 hn)
  simpa [encS] using h1
end Go.Proofs.YtjpmomklkkifjaaGreatDoor.T
namespace Go.Proofs.YtjpmomklkkifjaaGreatDoor.T
open Go.RowKit
variable {N : List NV} {F : Forest} {next : Int}
theorem On.trans {a b c : Int} (h : On N a b) (h2 : On N b c) : On N a c := by
  induction h with
  | here j => exact h2
  | up hv hk _ ih => exact .up hv hk (ih h2)
structure Upd (v v' : NV) : Prop where
  id : v'.id = v.id
  kind : v'.kind = v.kind
  tb : v'.tb = v.tb
theorem Upd.refl (v : NV) : Upd v v := ⟨rfl, rfl, rfl⟩
end Go.Proofs.YtjpmomklkkifjaaGreatDoor.T
namespace Go.Proofs.YtjpmomklkkifjaaGreatDoor.T
open Go.RowKit
inductive Tag where
  | nx
  | nd (v : NV)
  | en (i : Int) (x : Item)
noncomputable def Tag.row (next : Int) : Tag → CH
  | .nx => nextCh next
  | .nd v => nodeCh v
  | .en i x => entCh i x
def Tag.node : Tag → Option NV
  | .nd v => some v
  | _ => none
def Tag.pair : Tag → Option (Int × Item)
  | .en i x => some (i, x)
  | _ => none
def tagsN (N : List NV) (F : Forest) : List Tag := .nx :: N.flatMap fun v => .nd v :: (entsK F v).map (Tag.en v.id)
def nodesT (T : List Tag) : List NV := T.filterMap Tag.node
def pairsT (T : List Tag) : List (Int × Item) := T.filterMap Tag.pair
def entsT (i : Int) (A : List (Int × Item)) : List Item := A.filterMap fun p => if p.1 = i then some p.2 else none
structure RdOk (A : List (Int × Item)) (M : List NV) (D : List DN) (E : List DE) : Prop where
  dn : D.map (fun d => (d.id, d.kind, d.up, d.tail)) = M.map (fun v => (v.id, (⟨#[if v.kind = 1 then 100 else 102]⟩ : ByteArray), v.up, toldS v.links.toNat ++ v.text))
  z : ∀ d ∈ D, d.named = 0 ∧ d.fr = 0
  ef : (E.map DE.folder).Nodup
  ei : ∀ e ∈ E, e.items = entsT e.folder A ∧ e.items ≠ []
  ex : ∀ p ∈ A, ∃ e ∈ E, e.folder = p.1
  pr : (tagsOf E).Perm A
  len : E.length ≤ A.length
theorem RdOk.start : RdOk [] [] [] [] := ⟨rfl, by simp, by simp, by simp, by simp, .nil, by simp⟩
theorem RdOk.node {A : List (Int × Item)} {M : List NV} {D : List DN} {E : List DE} (h : RdOk A M D E) (v : NV) (blk : Nat) : RdOk A (M ++ [v]) (D ++ [⟨blk, v.id, ⟨#[if v.kind = 1 then 100 else 102]⟩, v.up, toldS v.links.toNat ++ v.text, 0, 0⟩]) E :=
  ⟨by rw [List.map_append, List.map_append, h.dn]; rfl, fun d hd => by
    rcases List.mem_append.1 hd with hd | hd
    · exact h.z d hd
    · rw [List.mem_singleton.1 hd]; exact ⟨rfl, rfl⟩, h.ef, h.ei, h.ex, h.pr, h.len⟩
end Go.Proofs.YtjpmomklkkifjaaGreatDoor.T
namespace Go.Proofs.YtjpmomklkkifjaaGreatDoor.T
open Go.RowKit
variable {N M : List NV} {F : Forest} {next : Int} {A A2 : List (Int × Item)} {D : List DN} {E : List DE}
def bare (v : NV) : NV := ⟨v.id, v.kind, v.up, v.links, v.text, none⟩
structure AllRead (N : List NV) (F : Forest) (next : Int) (A : List (Int × Item)) (M : List NV) (D : List DN) (E : List DE) : Prop where
  whole : Whole N F next
  rows : RowsOk N F next
  read : RdOk A M D E
  nodes : M.Perm N
  prs : A.Perm (pairs N F)
  few : A.length ≤ 1000
theorem AllRead.dnode (h : AllRead N F next A M D E) {d : DN} (hd : d ∈ D) : ∃ v ∈ N, v.id = d.id ∧ d.kind = ⟨#[if v.kind = 1 then 100 else 102]⟩ ∧ d.up = v.up ∧ d.tail = toldS v.links.toNat ++ v.text := by
  have h1 : (d.id, d.kind, d.up, d.tail) ∈ D.map (fun d => (d.id, d.kind, d.up, d.tail)) := List.mem_map.2 ⟨d, hd, rfl⟩
  rw [h.read.dn] at h1
  obtain ⟨v, hv, e⟩ := List.mem_map.1 h1
  simp only [Prod.mk.injEq] at e
  exact ⟨v, h.nodes.mem_iff.1 hv, e.1, e.2.1.symm, e.2.2.1.symm, e.2.2.2.symm⟩
theorem AllRead.noded (h : AllRead N F next A M D E) {v : NV} (hv : v ∈ N) : ∃ d ∈ D, d.id = v.id ∧ d.kind = ⟨#[if v.kind = 1 then 100 else 102]⟩ ∧ d.up = v.up ∧ d.tail = toldS v.links.toNat ++ v.text := by
  have h1 : (v.id, (⟨#[if v.kind = 1 then 100 else 102]⟩ : ByteArray), v.up, toldS v.links.toNat ++ v.text) ∈ M.map (fun v => (v.id, (⟨#[if v.kind = 1 then 100 else 102]⟩ : ByteArray), v.up, toldS v.links.toNat ++ v.text)) := List.mem_map.2 ⟨v, h.nodes.mem_iff.2 hv, rfl⟩
  rw [← h.read.dn] at h1
  obtain ⟨d, hd, e⟩ := List.mem_map.1 h1
  simp only [Prod.mk.injEq] at e
  exact ⟨d, hd, e.1, e.2.1, e.2.2.1, e.2.2.2⟩
theorem AllRead.ids (h : AllRead N F next A M D E) : D.map DN.id = M.map NV.id := by
  have := congrArg (List.map Prod.fst) h.read.dn
  simpa [Function.comp_def] using this
theorem AllRead.nodup (h : AllRead N F next A M D E) : (D.map DN.id).Nodup := by
  rw [h.ids]
  exact (h.nodes.map NV.id).nodup_iff.2 h.rows.nodup
theorem AllRead.length (h : AllRead N F next A M D E) : D.length = N.length := by
  have := congrArg List.length h.ids
  simp only [List.length_map] at this
  rw [this, h.nodes.length_eq]
theorem AllRead.wf (h : AllRead N F next A M D E) {d : DN} (hd : d ∈ D) : WfI d.id ∧ 1 ≤ d.id ∧ d.id < next := by
  obtain ⟨v, hv, e, _⟩ := h.dnode hd
  have h1 := h.whole.ids v hv
  have h2 := h.rows.ids v hv
  rw [← e]
  exact ⟨wfI_of (by omega) (by omega), h1.1, h1.2⟩
theorem entsT_mem {i : Int} {x : Item} (h : x ∈ entsT i A) : (i, x) ∈ A := by
  unfold entsT at h
  obtain ⟨p, hp, e⟩ := List.mem_filterMap.1 h
  split at e
  · rename_i h1
    cases e
    rw [← h1]
    exact hp
  · cases e
theorem AllRead.item (h : AllRead N F next A M D E) {e : DE} (he : e ∈ E) {x : Item} (hx : x ∈ e.items) : (e.folder, x) ∈ pairs N F ∧ ∃ u ∈ N, u.id = e.folder ∧ u.kind = 1 ∧ x ∈ entsK F u := by
  have h1 : (e.folder, x) ∈ pairs N F := h.prs.mem_iff.1 (entsT_mem (by rw [← (h.read.ei e he).1]; exact hx))
  refine ⟨h1, ?_⟩
  obtain ⟨u, hu, h2⟩ := List.mem_flatMap.1 h1
  obtain ⟨y, hy, e2⟩ := List.mem_map.1 h2
  injection e2 with e2 e3
  subst e3
  refine ⟨u, hu, e2, ?_, hy⟩
  unfold entsK at hy
  split at hy
  · assumption
  · cases hy
theorem AllRead.folder (h : AllRead N F next A M D E) {e : DE} (he : e ∈ E) : WfI e.folder ∧ ∃ d ∈ D, d.id = e.folder ∧ d.kind = ⟨#[100]⟩ := by
  obtain ⟨x, hx⟩ := List.exists_mem_of_ne_nil _ (h.read.ei e he).2
  obtain ⟨_, u, hu, hui, huk, _⟩ := h.item he hx
  obtain ⟨d, hd, hdi, hdk, _⟩ := h.noded hu
  refine ⟨?_, d, hd, by rw [hdi, hui], by rw [hdk, huk]; rfl⟩
  rw [← hui, ← hdi]
  exact (h.wf hd).1
theorem AllRead.items (h : AllRead N F next A M D E) {e : DE} (he : e ∈ E) : e.items.length ≤ 1000 ∧ (∀ x ∈ e.items, x.key = keyS x.name ∧ checkP x.name = none) ∧ ∀ x ∈ e.items, x.node ≠ 1 ∧ ∃ d ∈ D, d.id = x.node := by
  refine ⟨?_, fun x hx => ?_, fun x hx => ?_⟩
  · rw [(h.read.ei e he).1]
    have := List.length_filterMap_le (fun p : Int × Item => if p.1 = e.folder then some p.2 else none) A
    have := h.few
    unfold entsT
    omega
  · obtain ⟨_, u, hu, _, _, hxu⟩ := h.item he hx
    have := h.rows.ents u hu x hxu
    exact ⟨this.1, this.2.1⟩
  · obtain ⟨h1, v, hv, e1⟩ := h.whole.linked.named _ (h.item he hx).1
    obtain ⟨d, hd, hdi, _⟩ := h.noded hv
    exact ⟨h1, d, hd, by rw [hdi, e1]⟩
end Go.Proofs.YtjpmomklkkifjaaGreatDoor.T
namespace Go.Proofs.YtjpmomklkkifjaaGreatDoor.T
open Go.RowKit Go.Lib
theorem H0.nilRow {w0 w : World} (h : H0 w0 w []) : H0 w0 w [rowCh (.slice none 0 0) []] := Hold.nilRow h 69 3
theorem H0.appC {w0 w : World} {v : Value} {R : List CH} (h : H0 w0 w [rowCh v R]) {A : Nat} {c : CH} (hc : w.heap[A]? = some (.cells (encC c).toArray 69 (0, 0))) (hn : R.length ≤ 1000) (ty : TypeId) :
    ∃ v' w', (Builtin.append_ #[54, 54] ty #[v, .slice (some ⟨A, 0, none⟩) 1 1]).run Tryz.prog w = .ok v' w' ∧ H0 w0 w' [rowCh v' (R ++ [c])] := by
  obtain ⟨i0, hi, hz0, hz1, hz2⟩ := info_parts infoChange
  have hv : w.ownsRow w0.heap.size 69 3 v R.length (flatC R) := Hold.sat h (rowCh v R) (by simp)
  have hb : w0.heap.size ≤ w.heap.size := (H0.below h).size
  obtain ⟨v', w', hr, ho, hg, _, ha⟩ := run_append_own_at (P := Tryz.prog) w w0.heap.size 54 ty 69 i0 _ 3 40 Tryz.underlying54 hi hz0 hz1 hz2 rfl (by decide) v _ _ hv ⟨A, 0, none⟩ 1 1 (encC c) rfl (fun j u hj => by
    rw [Addr.add_lit, Nat.zero_add, cell_of_row _ _ j _ 69 (0, 0) hc]
    simpa using hj) (fun u hu => by simp [encC] at hu; rcases hu with rfl | rfl | rfl <;> rfl) (by unfold maxLen; omega) (by omega) hb
  refine ⟨v', w', hr, ?_⟩
  rw [← flatC_snoc] at ho
  have e : R.length + 1 = (R ++ [c]).length := by simp
  rw [e] at ho
  exact Hold.grow [] h hg ho (ha.imp id fun h => ⟨_, h, Nat.le_refl _⟩)
end Go.Proofs.YtjpmomklkkifjaaGreatDoor.T
namespace Go.Proofs.YtjpmomklkkifjaaGreatDoor.T
open Go.RowKit Go.Lib
end Go.Proofs.YtjpmomklkkifjaaGreatDoor.T
namespace Go.Proofs.YtjpmomklkkifjaaGreatDoor.T
open Go.RowKit
section
variable {N M : List NV} {F F' : Forest} {next : Int} {A A2 : List (Int × Item)} {D : List DN} {E : List DE} {w0 w : World} {db nb eb : Nat}
theorem AllRead.perm (h : AllRead N F next A M D E) {Fd : List DN} (hp : Fd.Perm D) : (Fd.map fun d => atN N d.id).Perm N := by
  have h1 : D.map (fun d => atN N d.id) = M := by
    have : D.map (fun d => atN N d.id) = (D.map DN.id).map (atN N) := by rw [List.map_map]; rfl
    rw [this, h.ids, List.map_map]
    conv => rhs; rw [← List.map_id M]
    refine List.map_congr_left fun v hv => ?_
    exact atN_of h.rows.nodup (h.nodes.mem_iff.1 hv)
  exact (hp.map _).trans (by rw [h1]; exact h.nodes)
end
variable {w0 w : World} {N : List NV} {F : Forest} {next : Int} {l0 : List Res}
theorem df_start (h : H0 w0 w l0) : H0 w0 (((w.alloc (.map #[] 0)).alloc (.map #[] 0)).alloc (.cells #[.map (some w.heap.size), .map (some (w.heap.size + 1)), .int .i64 0] 119)) (dfR (w.heap.size + 1 + 1) w.heap.size (w.heap.size + 1) [] [] 0 l0) := by
  have hb := (H0.below h).size
  have h1 := P.mapNew h hb
  have h2 := P.mapNew h1 (by rw [World.size_alloc]; omega)
  have h3 := Hold.made h2 (by rw [World.size_alloc, World.size_alloc]; omega) 119 [.map (some w.heap.size), .map (some (w.heap.size + 1)), .int .i64 0]
  simp only [World.size_alloc] at h3
  refine H0.perm h3 ?_
  show (.cell _ _ _ :: .obj w.heap.size _ :: .obj (w.heap.size + 1) _ :: l0 : List Res).Perm (.cell _ _ _ :: .obj (w.heap.size + 1) _ :: .obj w.heap.size _ :: l0)
  exact List.Perm.cons _ (List.Perm.swap _ _ _)
end Go.Proofs.YtjpmomklkkifjaaGreatDoor.T
