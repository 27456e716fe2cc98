import Derived.Test.YtjpmomklkkifjaaGreatDoorCJRead
import Derived.BigQuiet
import Derived.Deep.QuietTactic
import Derived.Test.YtjpmomklkkifjaaGreatDoorCILink
import Derived.Test.YtjpmomklkkifjaaGreatDoorCFFind
import Derived.Deep.RegionHeld3
import Derived.RegionTactic
set_option maxRecDepth 100000
set_option linter.unusedVariables false
set_option linter.unusedSimpArgs false
namespace Go.Proofs.YtjpmomklkkifjaaGreatDoor.T.J
open Go.RowKit
open Go.Maps (Keyed)
variable {w0 w w' : World} {db nb eb : Nat} {D : List DN} {E : List DE} {next : Int} {l : List Res} {A : List (Int × Item)}
theorem df_nolook (h : H0 w0 w (dfR db nb eb (mark A D) E next l)) {i : Int} (hi : i ∉ D.map DN.id) (hw : WfI i) : (Instr.lookup 116 (.map (some nb)) (.int .i64 i) true).run Tryz.prog w = .ok (.tuple #[.pointer none, .bool false]) w := by
  have hs := Hold.sat h (.obj nb (P.IsMapP ((mark A D).map DN.pv))) (by simp [dfR])
  have h1 := P.look116 hs hw
  rw [mark_pv] at h1
  have hf : P.findP (D.map DN.pv) i = none := by
    cases hx : P.findP (D.map DN.pv) i with
    | none => rfl
    | some u =>
      exfalso
      obtain ⟨h2, h3⟩ := P.findP_some hx
      have : i ∈ (D.map DN.pv).map P.PV.id := List.mem_map.2 ⟨u, h2, h3⟩
      rw [dn_ids] at this
      exact hi this
  unfold P.atP at h1
  rw [hf] at h1
  exact h1
def FdOk (D : List DN) (e : DE) : Prop := (∃ d ∈ D, d.id = e.folder ∧ d.kind = ⟨#[100]⟩) ∧ ∀ x ∈ e.items, x.node ≠ 1 ∧ ∃ d ∈ D, d.id = x.node
def LkEnd (w0 : World) (db nb eb : Nat) (D : List DN) (E : List DE) (next : Int) (l : List Res) (e : Ending) (w' : World) : Prop :=
  (e = .returned (.bool false) ∧ H0 w0 w' l) ∨ (e = .returned (.bool true) ∧ ∃ A, A.Perm (tagsOf E) ∧ (∀ e ∈ E, FdOk D e) ∧ H0 w0 w' (dfR db nb eb (mark A D) E next l))
set_option maxHeartbeats 1000000 in
theorem folder_any (h : H0 w0 w (dfR db nb eb (mark A D) E next l)) (hn : (D.map DN.id).Nodup) (i : Int) (hi : WfI i) :
    Calls Tryz.prog 119 #[.pointer (some ⟨db, 0, none⟩), .int .i64 i] w fun e w' => ∃ r : Bool, e = .returned (.bool r) ∧ (r = true → ∃ d ∈ D, d.id = i ∧ d.kind = ⟨#[100]⟩) ∧ Below w.heap.size w w' := by
  obtain ⟨c0, _, _, _⟩ := df_cells h
  by_cases hin : i ∈ D.map DN.id
  · obtain ⟨d, hd, rfl⟩ := List.mem_map.1 hin
    obtain ⟨hl, _⟩ := df_look h hn hd hi
    have b0 := (df_dn h hd).1
    by_cases hk : d.kind = ⟨#[100]⟩
    · have HD := hide (show ∃ x ∈ D, x.id = d.id ∧ x.kind = ⟨#[100]⟩ from ⟨d, hd, rfl, hk⟩)
      rw [hk] at b0
      generalize d.id = i at hl HD ⊢
      generalize d.blk = b at hl b0
      clear h hn hd hi hk hin
      go_enter Tryz.func119, Tryz.ntmps119
      go_wp2_with fail
      go_ret
      exact ⟨true, rfl, fun _ => unhide HD, Below.refl _ _⟩
    · have hkz : (d.kind.toList == [100]) = false := by
        rw [beq_eq_false_iff_ne, Ne]
        intro e
        rw [Lib.toList_data] at e
        exact hk (bytes_ext e)
      generalize d.kind = k at b0 hkz
      generalize d.id = i at hl ⊢
      generalize d.blk = b at hl b0
      clear h hn hd hi hk hin
      go_enter Tryz.func119, Tryz.ntmps119
      go_wp2_with fail
      go_ret
      exact ⟨false, rfl, fun h => (by cases h), Below.refl _ _⟩
  · have hl := df_nolook h hin hi
    clear h hn hi hin
    go_enter Tryz.func119, Tryz.ntmps119
    go_wp2_with fail
    go_ret
    exact ⟨false, rfl, fun h => (by cases h), Below.refl _ _⟩
set_option maxHeartbeats 16000000 in
theorem dlink_any (h : H0 w0 w (dfR db nb eb (mark [] D) E next l)) (hn : (D.map DN.id).Nodup) (hD : ∀ d ∈ D, WfI d.id) (hE : (E.map DE.folder).Nodup) (hE1 : E.length ≤ 1000) (hI : ∀ e ∈ E, e.items.length ≤ 1000)
    (hf : ∀ e ∈ E, WfI e.folder ∧ ∀ x ∈ e.items, WfI x.node) (hcnt : (tagsOf E).length ≤ 1000) :
    Calls Tryz.prog 78 #[.pointer (some ⟨db, 0, none⟩)] w (LkEnd w0 db nb eb D E next l) := by
  obtain ⟨c0, c1, _, _⟩ := df_cells h
  obtain ⟨M, hown, hm⟩ := P.sat_owns (Hold.sat h (.obj eb (P.IsMapP (E.map DE.pv))) (by simp [dfR]))
  rw [List.length_map] at hown
  have hmn : ((E.map DE.pv).map P.PV.id).Nodup := by rw [de_ids]; exact hE
  have hmw : ∀ v ∈ E.map DE.pv, WfI v.id := fun v hv => by
    obtain ⟨e, he, rfl⟩ := List.mem_map.1 hv
    exact (hf e he).1
  have HCm := hide (P.came_start hm)
  have Hsz : Hid (Maps.size M = E.length) := by show _ = _; rw [hm.size, List.length_map]
  have HM := hide hm
  have H1 := hide h
  have Hmn := hide hmn
  have Hmw := hide hmw
  have HN := hide hn
  have HDw := hide hD
  have HI := hide hI
  have HF := hide hf
  clear h hn hD hE hI hf hm hmn hmw c0
  go_enter Tryz.func78, Tryz.ntmps78
  go_wp2_with (first | (at_range; refine wpList_range_own _ rfl _ 117 rfl 3 30 kI Tryz.underlying117 Rv eb _ M rfl hown ?_; intro w1 hrg1 hg1 hs1) | go_in)
  go_frame
  have hb1 : Below w.heap.size w w1 := (Below.refl _ w).grown hg1 (Nat.le_refl _) (fun j hj => by cases hj)
  have h2 := H0.foundObj (unhide H1) hb1 (b := w.heap.size) (Nat.le_refl _) (by omega)
  have H2 := hide h2
  have Hrg := hide hrg1
  clear h2 hb1 hg1 hs1 hown hrg1 c1 H1
  go_wp2_with fail
  go_loopg [3] (E.length + 1) (fun k v3 wr => ∃ (acc : List P.PV) (left : Lit → Bool) (cnt : Nat), cnt < k ∧ Hid (wr.ranges Tryz.prog 3 Rv eb w.heap.size E.length M left cnt) ∧ Hid (P.Came (E.map DE.pv) acc left) ∧ Hid (∃ F : List DE, acc = F.map DE.pv ∧ (∀ e ∈ F, e ∈ E ∧ FdOk D e) ∧ H0 w0 wr (someB w.heap.size :: dfR db nb eb (mark (tagsOf F) D) E next l)))
  case atStart => exact ⟨[], _, _, by have := unhide Hsz; omega, Hrg, HCm, [], rfl, by simp, unhide H2⟩
  case round =>
    obtain ⟨acc, left, cnt, hk, Hrg3, HC3, HI3⟩ := hrel
    clear Hrg H2 HCm Hsz
    have hrg := unhide Hrg3
    obtain ⟨F, hF, hFE, hI3⟩ := unhide HI3
    have HFm := hide hF
    have HFE := hide hFE
    have H3 := hide hI3
    clear hF hFE hI3 HI3
    go_wp2_with (first | (at_next; refine wpList_next_ranges _ rfl _ rfl 3 kI Rv (Value.int .i64) id (fun key kl hkey => (by obtain ⟨x, hx, _⟩ := Maps.keyOf_int_inv Tryz.underlying3 hkey; exact ⟨x, hx⟩)) (fun v y hv => ⟨v, rfl⟩) eb w.heap.size E.length M left cnt rfl hrg ?_ ?_) | go_in)
    · intro hc0 hl0
      have hperm := P.Came.all (unhide HC3) (unhide Hmn) (unhide Hmw) hl0
      rw [unhide HFm] at hperm
      have hfn : (F.map DE.folder).Nodup := by
        have := hperm.map P.PV.id
        rw [de_ids, de_ids] at this
        exact this.nodup_iff.2 (by have := unhide Hmn; rw [de_ids] at this; exact this)
      have hen : (E.map DE.folder).Nodup := by have := unhide Hmn; rw [de_ids] at this; exact this
      have hFn : F.Nodup := (List.pairwise_map.1 hfn).imp fun hne e => hne (by rw [e])
      have hEn : E.Nodup := (List.pairwise_map.1 hen).imp fun hne e => hne (by rw [e])
      have hFEp : F.Perm E := (List.perm_ext_iff_of_nodup hFn hEn).2 fun e => ⟨fun h => (unhide HFE e h).1, fun he => by
        have h1 : e.pv ∈ F.map DE.pv := hperm.mem_iff.2 (List.mem_map.2 ⟨e, he, rfl⟩)
        obtain ⟨e2, he2, e3⟩ := List.mem_map.1 h1
        have h4 : e2.folder = e.folder := congrArg P.PV.id e3
        have : e2 = e := nodup_inj DE.folder hen (unhide HFE e2 he2).1 he h4
        rw [← this]; exact he2⟩
      have Hp : Hid ((tagsOf F).Perm (tagsOf E)) := hFEp.flatMap_right _
      have Hall : Hid (∀ e ∈ E, FdOk D e) := fun e he => (unhide HFE e (hFEp.mem_iff.2 he)).2
      clear hperm hfn hen hFn hEn hFEp hc0 hl0 hrg
      go_wp2_with fail
      go_ret
      exact .inr ⟨rfl, _, unhide Hp, unhide Hall, Hold.conv (unhide H3) (fun x => by simp only [total_cons]; omega) fun r hr => Hold.sat (unhide H3) r (by simp [hr])⟩
    · intro x c kl y1 y2 w2 cnt2 hkey hlk hv hat hrg2 hlt hgr hsz2 hen
      obtain ⟨x', ex, hkl, hwx⟩ := Maps.keyOf_int_inv Tryz.underlying3 hkey
      cases ex
      subst hkl
      have hy : y1 = .held c := by
        have : some ((.held c, []) : DataW Value × List MemPlace) = some (y1, y2) := hv
        exact (congrArg Prod.fst (Option.some.inj this)).symm
      subst hy
      obtain ⟨u, hu, hcu⟩ : ∃ u, P.findP (E.map DE.pv) x = some u ∧ c = u.val := by
        have hl := fun z => (unhide HM).look x z hwx
        cases hf : P.findP (E.map DE.pv) x with
        | none =>
          exfalso
          have h1 := hl (.lit (.bool true))
          rw [hat, hf] at h1
          cases h1
        | some u =>
          refine ⟨u, rfl, ?_⟩
          have h1 := hl (.lit (.bool true))
          rw [hat, hf] at h1
          exact DataW.held.inj h1
      subst hcu
      have hmore := P.Came.more (unhide HC3) (u := u) (by rw [(P.findP_some hu).2]; exact hwx) (by rw [(P.findP_some hu).2]; exact hu) (by rw [(P.findP_some hu).2]; exact hlk)
      obtain ⟨e, he, rfl⟩ := List.mem_map.1 (P.findP_some hu).1
      have hex : e.folder = x := (P.findP_some hu).2
      subst hex
      have h3 : H0 w0 w2 (someB w.heap.size :: dfR db nb eb (mark (tagsOf F) D) E next l) := H0.turned [] (unhide H3) hgr
      have hev : e.pv.val = e.v := rfl
      obtain ⟨hwf, hwx⟩ := unhide HF e he
      have hfo := folder_any (df_push h3) (unhide HN) e.folder hwf
      have Hwx := hide hwx
      have heb : eb < w2.heap.size := hrg2.owns.lt
      have hrb : w.heap.size < w2.heap.size := hrg2.lt
      have hrow0 : w2.ownsRow w0.heap.size 38 2 e.v e.items.length (flatE e.items) := Hold.sat h3 (rowE e.v e.items) (.tail _ (df_mem he))
      obtain ⟨p0, c0, hsl⟩ := row_cut hrow0
      obtain ⟨m, hm⟩ : ∃ m, e.items.length = m := ⟨_, rfl⟩
      have Hm := hide hm
      have hm1000 : m ≤ 1000 := by rw [← hm]; exact unhide HI e he
      rw [hm] at hsl
      have hAl : (tagsOf F).length ≤ 1000 * 1000 := by
        have h1 := tags_len F fun x hx => unhide HI x (unhide HFE x hx).1
        have h2 := P.nodup_subP (unhide HC3).nodup (unhide HC3).sub
        rw [unhide HFm, List.length_map, List.length_map] at h2
        omega
      have Hmore : Hid (P.Came (E.map DE.pv) (acc ++ [e.pv]) (fun z => left z && !z.sameKey (.int .i64 e.folder))) := hmore
      have H4 := hide h3
      have Hfo := hide hfo
      have Hrg2 := hide hrg2
      have He := hide he
      rw [hev, hsl] at hen
      have Hsl := hide hsl
      clear hkey hlk hv hat hrg2 hgr hsz2 hrg hmore h3 hfo HC3 Hrg3 hu hwx hwf he hev hsl H3 hrow0 hm
      go_wp2_with fail
      refine (unhide Hfo).mono ?_
      rintro e4 w4 ⟨r4, rfl, hfk, hb4⟩
      cases r4 with
      | false =>
        have H9 := hide (df_forget (Hold.forget [] (H0.step (unhide H4) hb4)))
        clear hfk hb4 Hfo H4 Hrg2 heb hrb
        go_wp2_with fail
        go_ret
        exact .inl ⟨rfl, unhide H9⟩
      | true =>
      have Hfk := hide (hfk rfl)
      clear hfk
      have h4 := H0.step (unhide H4) hb4
      have hrg4 := ranges_same (unhide Hrg2) (hb4.block eb heb) (hb4.block _ hrb)
      have heb4 : eb < w4.heap.size := Nat.lt_of_lt_of_le heb hb4.size
      have hrb4 : w.heap.size < w4.heap.size := Nat.lt_of_lt_of_le hrb hb4.size
      have Hrg4 := hide hrg4
      have H5 : Hid (H0 w0 w4 (someB w.heap.size :: dfR db nb eb (mark (tagsOf F ++ tagE e.folder (e.items.take 0)) D) E next l)) := by
        rw [List.take_zero]
        show H0 w0 w4 (someB w.heap.size :: dfR db nb eb (mark (tagsOf F ++ []) D) E next l)
        rw [List.append_nil]
        exact h4
      clear h4 hrg4 hb4 Hfo H4 Hrg2 heb hrb
      go_wp2_with fail
      go_loopg [25] (m + 1) (fun k2 v25 wr2 => ∃ i : Nat, m - i < k2 ∧ i ≤ m ∧ v25 = .int .i64 i ∧ eb < wr2.heap.size ∧ w.heap.size < wr2.heap.size ∧ Hid (wr2.ranges Tryz.prog 3 Rv eb w.heap.size E.length M (fun z => left z && !z.sameKey (.int .i64 e.folder)) cnt2) ∧ Hid (∀ x ∈ e.items.take i, x.node ≠ 1 ∧ ∃ d ∈ D, d.id = x.node) ∧ Hid (H0 w0 wr2 (someB w.heap.size :: dfR db nb eb (mark (tagsOf F ++ tagE e.folder (e.items.take i)) D) E next l)))
      case atStart => exact ⟨0, by omega, by omega, rfl, heb4, hrb4, Hrg4, hide (by simp), H5⟩
      case round =>
        obtain ⟨i, hk2, hi, rfl, heb5, hrb5, Hrg5, HTk, HJ⟩ := hrel
        clear H5 Hrg4 heb4 hrb4
        by_cases him : i < m
        · have hiz : (i : Int) < (m : Int) := by omega
          have hil : i < e.items.length := by rw [unhide Hm]; exact him
          obtain ⟨x, hx⟩ : ∃ x, e.items[i]? = some x := ⟨e.items[i], by simp [hil]⟩
          have hj := unhide HJ
          have hrow : wr.ownsRow w0.heap.size 38 2 e.v e.items.length (flatE e.items) := Hold.sat hj (rowE e.v e.items) (.tail _ (df_mem (unhide He)))
          rw [unhide Hsl, unhide Hm] at hrow
          obtain ⟨g, cap, e5, _⟩ := row_shape hrow (by omega)
          injection e5 with e5 _ e6
          subst e5 e6
          obtain ⟨r0, r1⟩ := entry_cell hrow hx
          by_cases hok : x.node ≠ 1 ∧ ∃ d ∈ D, d.id = x.node
          case neg =>
            have hwn := unhide Hwx x (List.mem_of_getElem? hx)
            obtain ⟨xn, hxn⟩ : ∃ xn, x.node = xn := ⟨_, rfl⟩
            obtain ⟨xs, hxs⟩ : ∃ xs, x.name = xs := ⟨_, rfl⟩
            rw [hxn] at r1 hok hwn
            rw [hxs] at r0
            have hj2 := H0.step hj ((Below.refl _ wr).alloc (Nat.le_refl _) (.cells #[.string xs, .int .i64 xn] 38))
            obtain ⟨w6, hw6⟩ : ∃ w6, wr.alloc (.cells #[.string xs, .int .i64 xn] 38) = w6 := ⟨_, rfl⟩
            have x1 : w6.cell? ⟨wr.heap.size, 1, none⟩ = some (.int .i64 xn) := by rw [← hw6]; exact cell_list_new wr [.string xs, .int .i64 xn] 38 1 _ rfl
            have x0 : w6.cell? ⟨wr.heap.size, 0, none⟩ = some (.string xs) := by rw [← hw6]; exact cell_list_new wr [.string xs, .int .i64 xn] 38 0 _ rfl
            rw [hw6] at hj2
            have H9 := hide (df_forget (Hold.forget [] hj2))
            have k0 := (df_cells (df_push hj2)).1
            by_cases hin : xn ∈ D.map DN.id
            · obtain ⟨d2, hd2, hdi2⟩ := List.mem_map.1 hin
              have hn1 : xn = 1 := by
                by_cases h1 : xn = 1
                · exact h1
                · exact absurd ⟨h1, d2, hd2, hdi2⟩ hok
              subst hn1
              have hl1 := (df_look (df_push (Hold.drew hj2)) (unhide HN) hd2 (unhide HDw d2 hd2)).1
              rw [hdi2] at hl1
              generalize d2.blk = b2 at hl1
              clear hok hj hrow hj2 hx hil HJ Hrg5 hxn hxs hd2 hdi2 hin hwn
              go_wp2_with fail
              go_region
              all_goals
                go_wp2_with fail
                go_ret
                exact .inl ⟨rfl, (Hold.drew (unhide H9))⟩
            · have hl1 := df_nolook (df_push (Hold.drew hj2)) hin hwn
              clear hok hj hrow hj2 hx hil HJ Hrg5 hxn hxs hin hwn
              go_wp2_with fail
              go_region
              all_goals
                go_wp2_with fail
                go_ret
                exact .inl ⟨rfl, (Hold.drew (unhide H9))⟩
          obtain ⟨hx1, d2, hd2, hdi2⟩ := hok
          have HTk2 : Hid (∀ y ∈ e.items.take (i + 1), y.node ≠ 1 ∧ ∃ d ∈ D, d.id = y.node) := fun y hy => by
            rw [take_snoc hx] at hy
            rcases List.mem_append.1 hy with hy | hy
            · exact unhide HTk y hy
            · rw [List.mem_singleton.1 hy]; exact ⟨hx1, d2, hd2, hdi2⟩
          have hz1 : (x.node == 1) = false := by simpa using hx1
          have hA1 : (tagsOf F ++ tagE e.folder (e.items.take i)).length ≤ 1001000 := by
            rw [List.length_append]
            have : (tagE e.folder (e.items.take i)).length ≤ i := by simp [tagE]; omega
            omega
          have hrefs := refs_le (tagsOf F ++ tagE e.folder (e.items.take i)) d2.id
          obtain ⟨xn, hxn⟩ : ∃ xn, x.node = xn := ⟨_, rfl⟩
          obtain ⟨xs, hxs⟩ : ∃ xs, x.name = xs := ⟨_, rfl⟩
          rw [hxn] at r1 hz1 hdi2
          rw [hxs] at r0
          have hj2 := H0.step hj ((Below.refl _ wr).alloc (Nat.le_refl _) (.cells #[.string xs, .int .i64 xn] 38))
          have hrg6 := (unhide Hrg5).alloc (.cells #[.string xs, .int .i64 xn] 38)
          obtain ⟨w6, hw6⟩ : ∃ w6, wr.alloc (.cells #[.string xs, .int .i64 xn] 38) = w6 := ⟨_, rfl⟩
          have hsz6 : wr.heap.size + 1 = w6.heap.size := by rw [← hw6, World.size_alloc]
          have x0 : w6.cell? ⟨wr.heap.size, 0, none⟩ = some (.string xs) := by rw [← hw6]; exact cell_list_new wr [.string xs, .int .i64 xn] 38 0 _ rfl
          have x1 : w6.cell? ⟨wr.heap.size, 1, none⟩ = some (.int .i64 xn) := by rw [← hw6]; exact cell_list_new wr [.string xs, .int .i64 xn] 38 1 _ rfl
          rw [hw6] at hj2 hrg6
          have hl1 := (df_look (df_push (Hold.drew hj2)) (unhide HN) hd2 (unhide HDw d2 hd2)).1
          have hdn := df_dn (df_push hj2) hd2
          have s3 := hdn.2.2.2.1
          have s4 := hdn.2.2.2.2.1
          have f3 := hdn.2.2.2.2.2.1
          have f4 := hdn.2.2.2.2.2.2
          have k0 := (df_cells (df_push hj2)).1
          have hm1 := df_pop' (df_mark (df_push hj2) (unhide HN) hd2 (e.folder, x) (hxn.trans hdi2.symm))
          have htk : tagsOf F ++ tagE e.folder (e.items.take (i + 1)) = (tagsOf F ++ tagE e.folder (e.items.take i)) ++ [(e.folder, x)] := by
            rw [take_snoc hx, List.append_assoc]
            unfold tagE
            rw [List.map_append]
            rfl
          have hap := df_apart hj hd2
          rw [← htk] at hm1
          rw [hdi2] at hl1
          generalize lastF (tagsOf F ++ tagE e.folder (e.items.take i)) d2.id = lf at s4
          generalize refsE (tagsOf F ++ tagE e.folder (e.items.take i)) d2.id = rf at s3 hrefs hm1
          obtain ⟨b2, hb2⟩ : ∃ b2, d2.blk = b2 := ⟨_, rfl⟩
          rw [hb2] at hl1 s3 s4 f3 f4 hm1 hap
          have Hm1 := hide hm1
          have Hrg6 := hide hrg6
          have Hap := hide hap
          have Hsz6 := hide hsz6
          have hrz : ¬ (9223372036854775807 : Int) < (rf : Int) + 1 := by omega
          have hrz2 : ¬ ((rf : Int) + 1 < -9223372036854775808) := by omega
          clear hj hrow hj2 hm1 hrg6 hap hd2 hdi2 hx hil htk HJ Hrg5 hx1 hxn hxs hb2 hA1 hrefs hdn hsz6
          go_wp2_with fail
          go_region
          all_goals
            go_wp2_with fail
            go_roundg (m - i)
            case measure => omega
            case rel => exact ⟨i + 1, by omega, by omega, by simp, by have := unhide Hsz6; simp; omega, by have := unhide Hsz6; simp; omega, ranges_same (ranges_same (unhide Hrg6) (Below.heap_setCell _ ⟨b2, 3, none⟩ _ eb (unhide Hap).1) (Below.heap_setCell _ ⟨b2, 3, none⟩ _ _ (unhide Hap).2.1)) (Below.heap_setCell _ ⟨b2, 4, none⟩ _ eb (unhide Hap).1) (Below.heap_setCell _ ⟨b2, 4, none⟩ _ _ (unhide Hap).2.1), HTk2, Hold.drew (unhide Hm1)⟩
        · have hiz : ¬ (i : Int) < (m : Int) := by omega
          have hj := unhide HJ
          rw [List.take_of_length_le (by rw [unhide Hm]; omega)] at hj
          have Hek := hide (show FdOk D e from ⟨unhide Hfk, fun x hx => unhide HTk x (by rw [List.take_of_length_le (by rw [unhide Hm]; omega)]; exact hx)⟩)
          have HJ2 : Hid (H0 w0 wr (someB w.heap.size :: dfR db nb eb (mark (tagsOf (F ++ [e])) D) E next l)) := by
            have e1 : tagsOf (F ++ [e]) = tagsOf F ++ tagE e.folder e.items := by simp [tagsOf]
            rw [e1]
            exact hj
          clear hj HJ
          go_wp2_with fail
          go_roundg cnt
          case measure => omega
          case rel => exact ⟨acc ++ [e.pv], _, cnt2, hlt, Hrg5, Hmore, F ++ [e], by rw [unhide HFm]; simp, fun z hz => by
            rcases List.mem_append.1 hz with hz | hz
            · exact unhide HFE z hz
            · rw [List.mem_singleton.1 hz]; exact ⟨unhide He, unhide Hek⟩, unhide HJ2⟩
end Go.Proofs.YtjpmomklkkifjaaGreatDoor.T.J
namespace Go.Proofs.YtjpmomklkkifjaaGreatDoor.T.J
open Go.RowKit
theorem below_dr {B : Nat} {a w : World} (h : Below B a w) (n : Nat) : Below B a (w.drewN n) := ⟨h.os, h.tape, h.output, h.size, h.block⟩
theorem last_gen (i : Int) : ∀ (A : List (Int × Item)) (a : Int), (A.foldl (fun a p => if p.2.node = i then p.1 else a) a = a ∧ refsE A i = 0) ∨ ∃ t ∈ A, A.foldl (fun a p => if p.2.node = i then p.1 else a) a = t.1
  | [], a => .inl ⟨rfl, rfl⟩
  | p :: A, a => by
    rw [List.foldl_cons]
    by_cases h : p.2.node = i
    · rw [if_pos h]
      rcases last_gen i A p.1 with ⟨h1, _⟩ | ⟨t, ht, h1⟩
      · exact .inr ⟨p, by simp, h1⟩
      · exact .inr ⟨t, by simp [ht], h1⟩
    · rw [if_neg h]
      rcases last_gen i A a with ⟨h1, h2⟩ | ⟨t, ht, h1⟩
      · refine .inl ⟨h1, ?_⟩
        unfold refsE at h2 ⊢
        rw [List.countP_cons, h2]
        simp [h]
      · exact .inr ⟨t, by simp [ht], h1⟩
theorem last_in {A : List (Int × Item)} {i : Int} (h : refsE A i ≠ 0) : ∃ t ∈ A, lastF A i = t.1 := by
  rcases last_gen i A 0 with ⟨_, h2⟩ | h2
  · exact absurd h2 h
  · exact h2
variable {w0 w w' : World} {db nb eb : Nat} {D : List DN} {E : List DE} {next : Int} {l : List Res} {A : List (Int × Item)}
def Once (A : List (Int × Item)) (d : DN) : Prop := refsE A d.id = 1 ∧ lastF A d.id = d.up
set_option maxHeartbeats 8000000 in
theorem hangs_any (h : H0 w0 w (dfR db nb eb (mark A D) E next l)) (hn : (D.map DN.id).Nodup) (hD : ∀ d ∈ D, WfI d.id) (hDl : D.length ≤ 1000) (hA : ∀ t ∈ A, ∃ d ∈ D, d.id = t.1) (d0 : DN) (hd0 : d0 ∈ D) :
    Calls Tryz.prog 169 #[.pointer (some ⟨db, 0, none⟩), .int .i64 d0.id] w fun e w' => ∃ r : Bool, e = .returned (.bool r) ∧ (r = true → d0.id = 1 ∨ Once A d0) ∧ Below w.heap.size w w' := by
  obtain ⟨c0, _, _, _⟩ := df_cells h
  have hlen : ∀ ty, (Builtin.len_ #[116] ty #[.map (some nb)]).run Tryz.prog w = .ok (.int .i64 D.length) w := fun ty => by
    have := P.len116 (Hold.sat h (.obj nb (P.IsMapP ((mark A D).map DN.pv))) (by simp [dfR])) ty
    rw [mark_pv, List.length_map] at this
    exact this
  have H1 := hide h
  have HN := hide hn
  have HDw := hide hD
  have HA := hide hA
  have Hd0 := hide hd0
  obtain ⟨i0, hi0⟩ : ∃ i0, d0.id = i0 := ⟨_, rfl⟩
  have Hi0 := hide hi0
  rw [hi0]
  obtain ⟨n, hnn⟩ : ∃ n, D.length = n := ⟨_, rfl⟩
  rw [hnn] at hDl hlen
  clear h hn hD hA hd0 hi0 hnn
  go_enter Tryz.func169, Tryz.ntmps169
  go_wp2_with fail
  go_loopg [1, 11] (n + 1) (fun g v1 v11 wr => ∃ (j : Nat) (i : Int), n - j < g ∧ j ≤ n ∧ v11 = .int .i64 j ∧ v1 = .int .i64 i ∧ Hid (∃ d ∈ D, d.id = i ∧ (d = d0 ∨ Once A d0)) ∧ Hid (Below w.heap.size w wr))
  case atStart => exact ⟨0, i0, by omega, by omega, rfl, rfl, ⟨d0, unhide Hd0, unhide Hi0, .inl rfl⟩, Below.refl _ _⟩
  case round =>
    obtain ⟨j, i, hg, hj, rfl, rfl, HDd, HB⟩ := hrel
    by_cases hjn : j < n
    · have hjz : (j : Int) < (n : Int) := by omega
      by_cases hi1 : i = 1
      · subst hi1
        go_wp2_with fail
        go_ret
        refine ⟨true, rfl, fun _ => ?_, unhide HB⟩
        obtain ⟨d, hd, h1, h2⟩ := unhide HDd
        rcases h2 with rfl | h2
        · exact .inl (by rw [← unhide Hi0]; exact h1)
        · exact .inr h2
      · obtain ⟨d, hd, hdi, hor⟩ := unhide HDd
        have hx := H0.step (unhide H1) (unhide HB)
        obtain ⟨k0, _, _, _⟩ := df_cells hx
        obtain ⟨_, hl⟩ := df_look hx (unhide HN) hd (unhide HDw d hd)
        have hdn := df_dn hx hd
        have s1 := hdn.2.1
        have s3 := hdn.2.2.2.1
        have s4 := hdn.2.2.2.2.1
        rw [hdi] at hl
        have hne : (i == 1) = false := by simpa using hi1
        by_cases hrf : refsE A d.id = 1
        · by_cases hlf : lastF A d.id = d.up
          · have Hnx : Hid (∃ d' ∈ D, d'.id = d.up ∧ (d' = d0 ∨ Once A d0)) := by
              obtain ⟨t, ht, e⟩ := last_in (A := A) (i := d.id) (by omega)
              obtain ⟨d', hd', e'⟩ := unhide HA t ht
              refine ⟨d', hd', by rw [e', ← e]; exact hlf, .inr ?_⟩
              rcases hor with rfl | h2
              · exact ⟨hrf, hlf⟩
              · exact h2
            rw [hrf] at s3
            rw [hlf] at s4
            have s3' : wr.cell? ⟨d.blk, 3, none⟩ = some (.int .i64 1) := s3
            generalize d.up = du at s1 s4 Hnx
            generalize d.blk = b at s1 s3 s3' s4 hl
            have HB2 := HB
            clear hx hd hdi hrf hlf hdn s3 hor HDd hi1
            go_wp2_with fail
            go_quiet (fail)
            go_wp2_with fail
            go_roundg (n - j)
            case measure => omega
            case rel => exact ⟨j + 1, du, by omega, by omega, by simp, rfl, Hnx, below_dr (unhide HB2) _⟩
          · have hz : (lastF A d.id == d.up) = false := by simpa using hlf
            rw [hrf] at s3
            have s3' : wr.cell? ⟨d.blk, 3, none⟩ = some (.int .i64 1) := s3
            generalize lastF A d.id = lf at s4 hz
            generalize d.up = du at s1 hz
            generalize d.blk = b at s1 s3 s3' s4 hl
            have HB2 := HB
            clear hx hd hdi hrf hlf hdn s3 hor HDd hi1
            go_wp2_with fail
            go_quiet (fail)
            go_wp2_with fail
            go_ret
            exact ⟨false, rfl, fun h => (by cases h), below_dr (unhide HB2) _⟩
        · have hz : (((refsE A d.id : Nat) : Int) == 1) = false := by
            have : ((refsE A d.id : Nat) : Int) ≠ 1 := by omega
            simpa using this
          generalize ((refsE A d.id : Nat) : Int) = rf at s3 hz
          have hz2 : ¬ rf = 1 := by simpa using hz
          have hz3 : (rf != 1) = true := by simpa using hz
          have hz4 : decide (rf = 1) = false := by simpa using hz
          have hz5 : (!rf == 1) = true := by simpa using hz
          generalize d.blk = b at s1 s3 s4 hl
          have HB2 := HB
          clear hx hd hdi hrf hdn hor HDd hi1
          go_wp2_with fail
          refine wp_region_quiet_lit (by kernel_rfl) (by kernel_rfl) ?_
          repeat (go_big_quiet_step (fail))
          refine wpQuiet_nil ?_
          intro _ hw'
          obtain ⟨nq, hw''⟩ := hw'
          subst hw''
          go_wp2_with fail
          go_ret
          exact ⟨false, rfl, fun h => (by cases h), below_dr (unhide HB2) _⟩
    · have hjz : ¬ (j : Int) < (n : Int) := by omega
      go_wp2_with fail
      go_ret
      first | exact .inl ⟨rfl, unhide HB⟩ | exact ⟨false, rfl, fun h => (by cases h), unhide HB⟩
end Go.Proofs.YtjpmomklkkifjaaGreatDoor.T.J
namespace Go.Proofs.YtjpmomklkkifjaaGreatDoor.T
open Go.RowKit
def iterF (f : Int → Int) : Nat → Int → Int
  | 0, i => i
  | k + 1, i => iterF f k (f i)
variable {w0 w w' : World} {db nb eb : Nat} {D : List DN} {E : List DE} {next : Int} {l : List Res} {A : List (Int × Item)}
end Go.Proofs.YtjpmomklkkifjaaGreatDoor.T
namespace Go.Proofs.YtjpmomklkkifjaaGreatDoor.T
open Go.RowKit
def MdH (w0 w9 w : World) (rs : List Res) : Prop := H0 w0 w rs ∧ Below w9.heap.size w9 w
section
variable {w0 w w' w9 : World} {db nb eb : Nat} {D : List DN} {E : List DE} {next : Int} {l : List Res} {A : List (Int × Item)} {B C : Nat} {x0 x1 x2 x3 x4 z0 z1 z2 z3 z4 : Value} {d : DN}
abbrev mdR (db nb eb : Nat) (A : List (Int × Item)) (D : List DN) (E : List DE) (next : Int) (l : List Res) (B C : Nat) (x0 x1 x2 x3 x4 z0 z1 z2 z3 z4 : Value) : List Res := dfR db nb eb (mark A D) E next (.cell C 33 [x0, x1, x2, x3, x4] :: .cell B 33 [z0, z1, z2, z3, z4] :: l)
theorem mdStep (hb : Below w.heap.size w w') (h : Hid (MdH w0 w9 w (mdR db nb eb A D E next l B C x0 x1 x2 x3 x4 z0 z1 z2 z3 z4))) : Hid (MdH w0 w9 w' (mdR db nb eb A D E next l B C x0 x1 x2 x3 x4 z0 z1 z2 z3 z4)) := ⟨H0.step (unhide h).1 hb, (unhide h).2.trans (hb.mono (unhide h).2.size)⟩
theorem mdCells (h : Hid (MdH w0 w9 w (mdR db nb eb A D E next l B C x0 x1 x2 x3 x4 z0 z1 z2 z3 z4))) (hd : d ∈ D) :
    w.cell? ⟨C, 0, none⟩ = some x0 ∧ w.cell? ⟨C, 1, none⟩ = some x1 ∧ w.cell? ⟨C, 2, none⟩ = some x2 ∧ w.cell? ⟨C, 3, none⟩ = some x3 ∧ w.cell? ⟨C, 4, none⟩ = some x4 ∧ w.cell? ⟨d.blk, 2, none⟩ = some (.string d.tail) ∧
    w.cell? ⟨B, 0, none⟩ = some z0 ∧ w.cell? ⟨B, 1, none⟩ = some z1 ∧ w.cell? ⟨B, 2, none⟩ = some z2 ∧ w.cell? ⟨B, 3, none⟩ = some z3 ∧ w.cell? ⟨B, 4, none⟩ = some z4 ∧
    w.frozen? ⟨B, 0, none⟩ = false ∧ w.frozen? ⟨B, 1, none⟩ = false ∧ w.frozen? ⟨B, 2, none⟩ = false ∧ w.frozen? ⟨B, 3, none⟩ = false ∧ w.frozen? ⟨B, 4, none⟩ = false := by
  have H := (unhide h).1
  have hC : Res.cell C 33 [x0, x1, x2, x3, x4] ∈ mdR db nb eb A D E next l B C x0 x1 x2 x3 x4 z0 z1 z2 z3 z4 := by simp [mdR, dfR]
  have hB : Res.cell B 33 [z0, z1, z2, z3, z4] ∈ mdR db nb eb A D E next l B C x0 x1 x2 x3 x4 z0 z1 z2 z3 z4 := by simp [mdR, dfR]
  exact ⟨Hold.cellAt H hC rfl, Hold.cellAt H hC rfl, Hold.cellAt H hC rfl, Hold.cellAt H hC rfl, Hold.cellAt H hC rfl, (df_dn H hd).2.2.1, Hold.cellAt H hB rfl, Hold.cellAt H hB rfl, Hold.cellAt H hB rfl, Hold.cellAt H hB rfl, Hold.cellAt H hB rfl, Hold.frozenAt H hB _, Hold.frozenAt H hB _, Hold.frozenAt H hB _, Hold.frozenAt H hB _, Hold.frozenAt H hB _⟩
theorem mdEnd (hB9 : w9.heap.size ≤ B) (h : Hid (MdH w0 w9 w (mdR db nb eb A D E next l B C x0 x1 x2 x3 x4 z0 z1 z2 z3 z4))) (y0 y1 y2 y3 y4 : Value) :
    (((((w.setCell ⟨B, 0, none⟩ y0).setCell ⟨B, 1, none⟩ y1).setCell ⟨B, 2, none⟩ y2).setCell ⟨B, 3, none⟩ y3).setCell ⟨B, 4, none⟩ y4).heap[B]? = some (.cells #[y0, y1, y2, y3, y4] 33 (0, 0)) ∧
    H0 w0 (((((w.setCell ⟨B, 0, none⟩ y0).setCell ⟨B, 1, none⟩ y1).setCell ⟨B, 2, none⟩ y2).setCell ⟨B, 3, none⟩ y3).setCell ⟨B, 4, none⟩ y4) (dfR db nb eb (mark A D) E next l) ∧ Below w9.heap.size w9 (((((w.setCell ⟨B, 0, none⟩ y0).setCell ⟨B, 1, none⟩ y1).setCell ⟨B, 2, none⟩ y2).setCell ⟨B, 3, none⟩ y3).setCell ⟨B, 4, none⟩ y4) := by
  have H := df_pop' (df_pop (unhide h).1)
  have H1 := Hold.store [] H 0 y0 [y0, z1, z2, z3, z4] rfl
  have H2 := Hold.store [] H1 1 y1 [y0, y1, z2, z3, z4] rfl
  have H3 := Hold.store [] H2 2 y2 [y0, y1, y2, z3, z4] rfl
  have H4 := Hold.store [] H3 3 y3 [y0, y1, y2, y3, z4] rfl
  have H5 := Hold.store [] H4 4 y4 [y0, y1, y2, y3, y4] rfl
  exact ⟨(Hold.sat H5 (.cell B 33 [y0, y1, y2, y3, y4]) (by simp)).2, Hold.conv H5 (fun x => by simp only [List.nil_append, total_cons]; omega) fun q hq => Hold.sat H5 q (by simp [hq]), (((((unhide h).2.setCell hB9 y0).setCell hB9 y1).setCell hB9 y2).setCell hB9 y3).setCell hB9 y4⟩
end
variable {w0 w w' : World} {db nb eb : Nat} {D : List DN} {E : List DE} {next : Int} {l : List Res} {A : List (Int × Item)}
end Go.Proofs.YtjpmomklkkifjaaGreatDoor.T
namespace Go.Proofs.YtjpmomklkkifjaaGreatDoor.T
open Go.RowKit
variable {w0 w w' : World} {db nb eb : Nat} {D : List DN} {E : List DE} {next : Int} {l : List Res} {A : List (Int × Item)}
theorem mf_cells {w9 : World} {B : Nat} {z0 z1 z2 z3 z4 : Value} (h : Hid (MdH w0 w9 w (dfR db nb eb (mark A D) E next (.cell B 33 [z0, z1, z2, z3, z4] :: l)))) {d : DN} (hd : d ∈ D) : w.cell? ⟨d.blk, 2, none⟩ = some (.string d.tail) ∧ w.cell? ⟨d.blk, 3, none⟩ = some (.int .i64 (refsE A d.id)) := by
  have h1 := df_dn (unhide h).1 hd
  exact ⟨h1.2.2.1, h1.2.2.2.1⟩
theorem mfStep {w9 : World} {rs : List Res} (hb : Below w.heap.size w w') (h : Hid (MdH w0 w9 w rs)) : Hid (MdH w0 w9 w' rs) := ⟨H0.step (unhide h).1 hb, (unhide h).2.trans (hb.mono (unhide h).2.size)⟩
end Go.Proofs.YtjpmomklkkifjaaGreatDoor.T
