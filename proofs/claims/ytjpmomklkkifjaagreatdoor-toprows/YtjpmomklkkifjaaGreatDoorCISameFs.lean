/-
  The contract of image.Parse: rows that Rows has written are read as folders and files that tell the same. The contract of same: folders and files, and a copy of them, have the same rows.
-/
import Derived.Test.YtjpmomklkkifjaaGreatDoorCIParseW
import Derived.Deep.RegionHeld3
namespace Go.Proofs.YtjpmomklkkifjaaGreatDoor.T
open Go.RowKit
set_option maxRecDepth 100000
set_option linter.unusedVariables false
set_option linter.unusedSimpArgs false

variable {w0 w : World} {N : List NV} {F : Forest} {next : Int} {l0 : List Res}
theorem df_tail {db nb eb : Nat} {D : List DN} {E : List DE} {nx : Int} {r : Res} (h : r ∈ l0) : r ∈ dfR db nb eb D E nx l0 := by
  unfold dfR
  simp only [List.mem_cons, List.mem_append]
  exact .inr (.inr (.inr (.inr (.inr h))))
def ParseEnd (w0 : World) (N : List NV) (F : Forest) (next : Int) (l0 : List Res) (e : Ending) (w' : World) : Prop :=
  ∃ gb gm N' F' acc, e = .returned (.tuple #[.pointer (some ⟨gb, 0, none⟩), .nilIface]) ∧ acc.Perm N ∧ Twins F F' acc N' ∧ Drawn F F' ∧ FSIn w0 w' gb gm N' F' next l0

theorem parse_tail {nx : Int} {A A2 : List (Int × Item)} {M : List NV} {D Fd : List DN} {E : List DE} {R : List CH} {va v7 : Value} {wx : World} {fb mb db nb eb : Nat} {N' : List NV} {F' : Forest} (hR : Ready w0) (hO : RowsOk N F nx) (HAll : AllRead N F nx A M D E) (hp : R.Perm (rowsOf F nx N)) (hs : R.Pairwise fun a b => ¬ kLt b.key a.key) (hm : rowCh va R ∈ l0) (HFd : Fd.Perm D)
    (hB : Built E F' (Fd.map fun d => bare (atN N d.id)) N') (hD : ∀ x ∈ F', ∃ u ∈ Fd.map (fun d => bare (atN N d.id)), u.kind = 1 ∧ x.2 = putAll (itemsOf E u.id))
    (hx : FSIn w0 wx fb mb N' F' nx (rowNd v7 (Fd.map fun d => bare (atN N d.id)) :: dfR db nb eb (mark A2 D) E nx l0)) :
    Calls Tryz.prog 31 #[.pointer (some ⟨fb, 0, none⟩)] wx fun e w' => ∃ p c, e = .returned (.slice p R.length c) ∧ Calls Tryz.prog 81 #[.slice p R.length c, va] w' fun e w'' => e = .returned (.bool true) ∧ ∃ N' F' acc, acc.Perm N ∧ Twins F F' acc N' ∧ Drawn F F' ∧ FSIn w0 w'' fb mb N' F' nx l0 := by
  have HFm : ∀ d ∈ Fd, d ∈ D := fun d hd => HFd.mem_iff.1 hd
  have ht := HAll.twins hB Fd rfl HFm
  have hpm := HAll.perm HFd
  have hdr := HAll.drawn HFm hD
  have hO' := hO.copy hpm ht hdr
  have hx2 : FSIn w0 wx fb mb N' F' nx l0 := hx.conv (fun x => by
    unfold dfR
    simp only [total_cons, total_append]
    omega) (fun hs r hr => hs r (.tail _ (df_tail hr)))
  refine (rows_calls hR hx2 hO').mono ?_
  rintro e w' ⟨v2, R2, rfl, p2, s2, h3⟩
  have p3 : R2.Perm R := p2.trans ((by rw [twins_rows ht]; exact rowsOf_perm hpm : (rowsOf F' nx N').Perm (rowsOf F nx N)).trans hp.symm)
  have e : R2 = R := sorted_once p3 s2 hs ((p2.map CH.key).nodup_iff.2 hO'.keys)
  subst e
  have o1 := h3.rowAt (v := v2) (e := 69) (k := 3) (.head _)
  have o2 := h3.rowAt (e := 69) (k := 3) (.tail _ hm)
  obtain ⟨p, c, rfl⟩ := row_cut o1
  have hl : R2.length ≤ 1000 := by rw [hp.length_eq]; exact hO.many
  refine ⟨p, c, rfl, (slEqual_calls o1 o2 rfl (by omega)).mono ?_⟩
  rintro e w'' ⟨rfl, hb⟩
  exact ⟨rfl, N', F', _, hpm, ht, hdr, (FSIn.forget [] h3).step (hb.mono (by exact Nat.le_refl _))⟩
set_option maxHeartbeats 16000000 in
theorem parse_calls (hR : Ready w0) (hW : Whole N F next) (hO : RowsOk N F next) (h : H0 w0 w l0) {va : Value} {R : List CH} (hm : rowCh va R ∈ l0) (hp : R.Perm (rowsOf F next N)) (hs : R.Pairwise fun a b => ¬ kLt b.key a.key) :
    Calls Tryz.prog 36 #[va] w fun e w' => ParseEnd w0 N F next l0 e w' := by
  obtain ⟨T, hT, hRT⟩ := perm_back hp (tagsN N F) (tags_rows N F next).symm
  have hRl : R.length ≤ 1000 := by rw [hp.length_eq]; exact hO.many
  have hTl : T.length = R.length := by rw [hRT, List.length_map]
  have hR0 : 0 < R.length := by rw [hp.length_eq]; simp [rowsOf]
  have hrow0 : w.ownsRow w0.heap.size 69 3 va R.length (flatC R) := Hold.sat h (rowCh va R) hm
  obtain ⟨g, cap, rfl, _⟩ := row_shape hrow0 hR0
  have h1 := df_start h
  obtain ⟨nb, hnb⟩ : ∃ nb, w.heap.size = nb := ⟨_, rfl⟩
  rw [hnb] at h1
  obtain ⟨w1, hw1⟩ : ∃ w1, ((w.alloc (.map #[] 0)).alloc (.map #[] 0)).alloc (.cells #[.map (some nb), .map (some (nb + 1)), .int .i64 0] 119) = w1 := ⟨_, rfl⟩
  rw [hw1] at h1
  have hmm := @run_makeMap Tryz.prog
  obtain ⟨n, hn⟩ : ∃ n, R.length = n := ⟨_, rfl⟩
  have H1 : Hid (ReadTo w0 w1 (nb + 1 + 1) nb (nb + 1) next l0 (T.take 0)) := ⟨[], [], 0, .start, by simp, h1⟩
  have HR := hide hR
  have HW := hide hW
  have HO := hide hO
  have Hm := hide hm
  have Hp := hide hp
  have Hs := hide hs
  have HT := hide hT
  have HRT := hide hRT
  have Hn := hide hn
  have HTl : Hid (T.length = n) := by rw [← hn]; exact hTl
  rw [hn] at hRl ⊢
  have hw1c := hw1
  clear h h1 hR hW hO hm hp hs hT hRT hrow0 hR0 hTl hn
  go_enter Tryz.func36, Tryz.ntmps36
  go_wp2_with fail
  go_loopg [16] (n + 1) (fun k vi wr => ∃ i : Nat, n - i < k ∧ i ≤ n ∧ vi = .int .i64 i ∧ Hid (ReadTo w0 wr (nb + 1 + 1) nb (nb + 1) next l0 (T.take i)))
  case atStart => exact ⟨0, by omega, by omega, rfl, H1⟩
  case round =>
    obtain ⟨i, hg, hi, rfl, HI⟩ := hrel
    clear H1
    by_cases hin : i < n
    · have hiz : (i : Int) < (n : Int) := by omega
      obtain ⟨t, ht⟩ : ∃ t, T[i]? = some t := ⟨T[i]'(by rw [unhide HTl]; exact hin), List.getElem?_eq_getElem _⟩
      have hc : R[i]? = some (t.row next) := by rw [unhide HRT, List.getElem?_map, ht]; rfl
      obtain ⟨D, E, nx, hrd, hnx, hx⟩ := unhide HI
      have hrow : wr.ownsRow w0.heap.size 69 3 (.slice (some ⟨g, 0, none⟩) R.length cap) R.length (flatC R) := Hold.sat hx (rowCh _ R) (df_tail (unhide Hm))
      rw [unhide Hn] at hrow
      obtain ⟨c0, c1, c2⟩ := ch_cell hrow hc
      have hsplit : T.take i ++ t :: T.drop (i + 1) = T := by
        obtain ⟨hi2, e⟩ := List.getElem?_eq_some_iff.1 ht
        rw [← e, ← List.drop_eq_getElem_cons hi2, List.take_append_drop]
      have h2 : ReadTo w0 (wr.alloc (.cells #[.string (t.row next).key, .string (t.row next).val, .bool (t.row next).gone] 69)) (nb + 1 + 1) nb (nb + 1) next l0 (T.take i) := ⟨D, E, nx, hrd, hnx, H0.step hx ((Below.refl _ wr).alloc (Nat.le_refl _) _)⟩
      have hrd2 := read_any (unhide HR) (unhide HO) (T := T.take i) (T2 := T.drop (i + 1)) (t := t) (by rw [hsplit]; exact unhide HT) (by rw [List.length_take]; omega) h2
      rw [← take_snoc ht] at hrd2
      have HRd := hide hrd2
      obtain ⟨ck, hck⟩ : ∃ ck, (t.row next).key = ck := ⟨_, rfl⟩
      obtain ⟨cv, hcv⟩ : ∃ cv, (t.row next).val = cv := ⟨_, rfl⟩
      obtain ⟨cg, hcg⟩ : ∃ cg, (t.row next).gone = cg := ⟨_, rfl⟩
      rw [hck] at c0 HRd
      rw [hcv] at c1 HRd
      rw [hcg] at c2 HRd
      clear ht hc hrd hnx hx hrow hsplit h2 hrd2 HI hck hcv hcg
      go_wp2_with fail
      refine (unhide HRd).mono ?_
      rintro e w3 ⟨rfl, h3⟩
      have H3 := hide h3
      clear h3 HRd c0 c1 c2
      go_wp2_with fail
      go_roundg (n - i)
      case measure => omega
      case rel => exact ⟨i + 1, by omega, by omega, by simp, H3⟩
    · have hiz : ¬ (i : Int) < (n : Int) := by omega
      obtain ⟨D, E, nx, hrd, hnx, hx⟩ := unhide HI
      rw [List.take_of_length_le (by rw [unhide HTl]; omega)] at hrd hnx
      have hnx2 : nx = next := hnx ((unhide HT).mem_iff.2 (by simp [tagsN]))
      subst hnx2
      have hall : AllRead N F nx (pairsT T) (nodesT T) D E := ⟨unhide HW, unhide HO, hrd, by
        have := (unhide HT).filterMap Tag.node
        rw [show (tagsN N F).filterMap Tag.node = N from tags_nodes N F] at this
        exact this, by
        have := (unhide HT).filterMap Tag.pair
        rw [show (tagsN N F).filterMap Tag.pair = pairs N F from tags_pairs N F] at this
        exact this, by
        have := List.length_filterMap_le Tag.pair T
        have := unhide HTl
        unfold pairsT
        omega⟩
      rw [← mark_nil hrd.z] at hx
      have hlk := dlink_calls hx hall.nodup (fun d hd => (hall.wf hd).1) hrd.ef (by have := hrd.len; have := hall.few; omega) (fun e he => (hall.items he).1) (fun e he => hall.folder he) (fun e he => (hall.items he).2.2) (by rw [hrd.pr.length_eq]; exact hall.few)
      have HLk := hide hlk
      have HAll := hide hall
      clear hx hrd hnx hlk hall HI HT HRT HTl
      go_wp2_with fail
      refine (unhide HLk).mono ?_
      rintro e w4 ⟨rfl, A2, hA2, h4⟩
      obtain ⟨r, hr, hr1, hr2, hr3⟩ := (unhide HW).linked.root
      obtain ⟨d, hd, hdi, hdk, hdu, _⟩ := (unhide HAll).noded hr
      have htg := together_calls h4 (unhide HAll).nodup (by rw [(unhide HAll).length]; exact (unhide HO).fits.few) (by have := (unhide HO).top; omega) (fun d hd => (unhide HAll).wf hd) d hd (by rw [hdi, hr1]) (by rw [hdk, hr2]; rfl) (by rw [hdu, hr3]) _ ((unhide HAll).madeOk hA2)
      have HTg := hide htg
      have HA2 := hide hA2
      clear h4 HLk htg hr hr1 hr2 hr3 hd hdi hdk hdu hA2
      go_wp2_with fail
      refine (unhide HTg).mono ?_
      rintro e w5 ⟨v7, Fd, rfl, hFd, h5⟩
      obtain ⟨_, k1, k2, _⟩ := df_cells (df_push h5)
      have hFm : ∀ d ∈ Fd, d ∈ D := fun d hd => hFd.mem_iff.1 hd
      have hlen : Fd.length = D.length := hFd.length_eq
      have hN0 := (unhide HAll).length
      have hat : ∀ d ∈ D, (bare (atN N d.id)).id = d.id := fun d hd => by
        obtain ⟨v, hv, hvi, _⟩ := (unhide HAll).dnode hd
        rw [← hvi, atN_of (unhide HO).nodup hv]
        rfl
      have hids : (Fd.map (fun d => bare (atN N d.id))).map NV.id = Fd.map DN.id := by
        rw [List.map_map]
        exact List.map_congr_left fun d hd => hat d (hFm d hd)
      have hof := of_all (eb := nb + 1) (E := E) (unhide HR) (Hold.drew h5) (by simp [dfR]) (fun e he => .tail _ (df_mem he)) (.head _) (by rw [List.length_map, hlen, hN0]; exact (unhide HO).fits.few) (by
          rw [List.length_map, hlen, hN0]
          exact List.length_pos_iff.2 (unhide HO).root) (fun u hu => by
          obtain ⟨d, hd, rfl⟩ := List.mem_map.1 hu
          rw [hat d (hFm d hd)]
          exact ((unhide HAll).wf (hFm d hd)).1) (by rw [hids]; exact (hFd.map DN.id).nodup_iff.2 (unhide HAll).nodup) (unhide HAll).read.ef (fun e he => ⟨((unhide HAll).items he).1, ((unhide HAll).items he).2.1⟩) (fun u hu hk e he hef => by
          obtain ⟨d, hd, rfl⟩ := List.mem_map.1 hu
          rw [hat d (hFm d hd)] at hef
          obtain ⟨v, hv, hvi, _⟩ := (unhide HAll).dnode (hFm d hd)
          have hk2 : ¬ v.kind = 1 := by
            have : (bare (atN N d.id)).kind = v.kind := by rw [← hvi, atN_of (unhide HO).nodup hv]; rfl
            rw [← this]; exact hk
          obtain ⟨x, hx⟩ := List.exists_mem_of_ne_nil _ ((unhide HAll).read.ei e he).2
          obtain ⟨_, u2, hu2, hui, huk, _⟩ := (unhide HAll).item he hx
          have : u2 = v := uniq_of (unhide HO).nodup hu2 hv (by rw [hui, hef, hvi])
          rw [this] at huk
          exact hk2 huk) nx
      obtain ⟨p7, c7, rfl⟩ : ∃ p c, v7 = .slice p Fd.length c := by
        have := row_cut (Hold.sat h5 (rowNd v7 _) (.head _))
        rwa [List.length_map] at this
      have HOf := hide hof
      have HFd := hide hFd
      have HFm := hide hFm
      clear h5 hFm hlen hN0 hat hids hof hFd HTg
      -- what is made of them, and its rows
      have HEnd : Hid (∀ wx fb mb N' F', Built E F' (Fd.map fun d => bare (atN N d.id)) N' → (∀ x ∈ F', ∃ u ∈ Fd.map (fun d => bare (atN N d.id)), u.kind = 1 ∧ x.2 = putAll (itemsOf E u.id)) → FSIn w0 wx fb mb N' F' nx (rowNd (.slice p7 Fd.length c7) (Fd.map fun d => bare (atN N d.id)) :: dfR (nb + 1 + 1) nb (nb + 1) (mark A2 D) E nx l0) →
          Calls Tryz.prog 31 #[.pointer (some ⟨fb, 0, none⟩)] wx fun e w' => ∃ p c, e = .returned (.slice p n c) ∧ Calls Tryz.prog 81 #[.slice p n c, .slice (some ⟨g, 0, none⟩) n cap] w' fun e w'' => e = .returned (.bool true) ∧ ∃ N' F' acc, acc.Perm N ∧ Twins F F' acc N' ∧ Drawn F F' ∧ FSIn w0 w'' fb mb N' F' nx l0) := fun wx fb mb N' F' hB hD hx => by
        have h := parse_tail (unhide HR) (unhide HO) (unhide HAll) (unhide Hp) (unhide Hs) (unhide Hm) (unhide HFd) hB hD hx
        rw [unhide Hn] at h
        exact h
      obtain ⟨n7, hn7⟩ : ∃ n7, Fd.length = n7 := ⟨_, rfl⟩
      rw [hn7] at HOf HEnd ⊢
      clear hn7
      clear HA2 HAll HFd HFm HO HW HR Hm Hp Hs Hn
      go_wp2_with fail
      go_region_held3 (fun w' => w'.cell? ⟨nb + 1 + 1, 1, none⟩ = some (.map (some (nb + 1))) ∧ w'.cell? ⟨nb + 1 + 1, 2, none⟩ = some (.int .i64 nx)) (first | exact ⟨k1, k2⟩ | exact ⟨m1, m2⟩ | go_keep) ((go_at_call 80; refine (unhide HOf).mono ?_; rintro e w6 ⟨fb, mb, N', F', rfl, hB, hD, h6⟩; have m1 := h6.cellAt (b := nb + 1 + 1) (t := 119) (vs := [.map (some nb), .map (some (nb + 1)), .int .i64 nx]) (by simp [dfR]) (j := 1) (v := .map (some (nb + 1))) rfl; have m2 := h6.cellAt (b := nb + 1 + 1) (t := 119) (vs := [.map (some nb), .map (some (nb + 1)), .int .i64 nx]) (by simp [dfR]) (j := 2) (v := .int .i64 nx) rfl; have HE := hide (unhide HEnd _ _ _ _ _ hB hD h6); clear hB hD h6))
      all_goals
        go_wp2_with fail
        refine (unhide HE).mono ?_
        rintro e w7 ⟨p, c, rfl, h7⟩
        have H7 := hide h7
        clear h7 HE
        go_wp2_with fail
        refine (unhide H7).mono ?_
        rintro e w8 ⟨rfl, h8⟩
        have H8 := hide h8
        clear h8 H7
        go_wp2_with fail
        go_ret2
        obtain ⟨N2, F2, acc, p1, t1, d1, h1⟩ := unhide H8
        exact ⟨fb, _, N2, F2, acc, rfl, p1, t1, d1, h1⟩
end Go.Proofs.YtjpmomklkkifjaaGreatDoor.T
namespace Go.Proofs.YtjpmomklkkifjaaGreatDoor.T
open Go.RowKit
set_option maxRecDepth 100000
set_option linter.unusedVariables false
set_option linter.unusedSimpArgs false

variable {w0 w : World} {fb mb gb gm : Nat} {N acc N' : List NV} {F F' : Forest} {next : Int} {rs' l2 : List Res}
theorem gR_front {r : Res} : (gR gb gm N' next rs' (r :: l2)).Perm (r :: gR gb gm N' next rs' l2) := by
  have h : (.cell gb 77 [.map (some gm), .int .i64 next] :: .obj gm (IsMapN N') :: (rs' ++ r :: l2) : List Res) = (.cell gb 77 [.map (some gm), .int .i64 next] :: .obj gm (IsMapN N') :: rs') ++ r :: l2 := by simp
  show (.cell gb 77 [.map (some gm), .int .i64 next] :: .obj gm (IsMapN N') :: (rs' ++ r :: l2) : List Res).Perm _
  rw [h]
  exact List.perm_middle
set_option maxHeartbeats 4000000 in
theorem same_calls (hR : Ready w0) (h : FSIn w0 w fb mb N F next (gR gb gm N' next rs' l2)) (hF' : ForR F' rs') (hO : RowsOk N F next) (hp : acc.Perm N) (ht : Twins F F' acc N') (hd : Drawn F F') :
    Calls Tryz.prog 28 #[.pointer (some ⟨fb, 0, none⟩), .pointer (some ⟨gb, 0, none⟩)] w fun e w' => e = .returned (.bool true) ∧ Below w0.heap.size w0 w' := by
  have hr1 := rows_calls hR h hO
  have hO' := hO.copy hp ht hd
  have HR1 := hide hr1
  have HR2 : Hid (∀ wx v1 R1, FSIn w0 wx fb mb N F next (rowCh v1 R1 :: gR gb gm N' next rs' l2) → R1.Perm (rowsOf F next N) → R1.Pairwise (fun a b => ¬ kLt b.key a.key) → Calls Tryz.prog 31 #[.pointer (some ⟨gb, 0, none⟩)] wx fun e w' => ∃ v2 R, e = .returned v2 ∧ R.length ≤ 1000 ∧ w'.ownsRow w0.heap.size 69 3 v1 R.length (flatC R) ∧ w'.ownsRow w0.heap.size 69 3 v2 R.length (flatC R) ∧ Below w0.heap.size w0 w') := fun wx v1 R1 h1 p1 s1 => by
    obtain ⟨rs, hrs, h2⟩ := FSIn.swap hF' (h1.perm gR_front)
    refine (rows_calls hR h2 hO').mono ?_
    rintro e w' ⟨v2, R2, rfl, p2, s2, h3⟩
    have p3 : R2.Perm R1 := p2.trans ((by rw [twins_rows ht]; exact rowsOf_perm hp : (rowsOf F' next N').Perm (rowsOf F next N)).trans p1.symm)
    have e : R2 = R1 := sorted_once p3 s2 s1 ((p2.map CH.key).nodup_iff.2 hO'.keys)
    subst e
    have hl : R2.length ≤ 1000 := by rw [p1.length_eq]; exact hO.many
    exact ⟨v2, R2, rfl, hl, h3.rowAt (v := v1) (e := 69) (k := 3) (by simp [rowCh]), h3.rowAt (v := v2) (e := 69) (k := 3) (.head _), h3.below⟩
  clear hr1 hO' hR h hF' hO hp ht hd
  go_enter Tryz.func28, Tryz.ntmps28
  go_wp2_with fail
  refine (unhide HR1).mono ?_
  rintro e w1 ⟨v1, R1, rfl, p1, s1, h1⟩
  have hr2 := unhide HR2 w1 v1 R1 h1 p1 s1
  have HR3 := hide hr2
  obtain ⟨p, c, rfl⟩ := row_cut (h1.rowAt (v := v1) (e := 69) (k := 3) (.head _))
  clear h1 p1 s1 hr2 HR1 HR2
  go_wp2_with fail
  refine (unhide HR3).mono ?_
  rintro e w2 ⟨v2, R, rfl, hl, o1, o2, hb⟩
  have hs := sameCh_calls o1 o2 rfl (by omega)
  have HS := hide hs
  have Hb := hide hb
  obtain ⟨p2, c2, rfl⟩ := row_cut o2
  clear hs hb o1 o2 HR3
  go_wp2_with fail
  refine (unhide HS).mono ?_
  rintro e w3 ⟨rfl, hb3⟩
  have Hb3 : Hid (Below w0.heap.size w0 w3) := (unhide Hb).trans (hb3.mono (unhide Hb).size)
  clear hb3 HS Hb
  go_wp2_with fail
  go_ret
  exact ⟨rfl, unhide Hb3⟩
end Go.Proofs.YtjpmomklkkifjaaGreatDoor.T
