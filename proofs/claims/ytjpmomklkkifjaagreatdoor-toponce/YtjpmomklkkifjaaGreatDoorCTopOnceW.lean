/-
  TopOnce: no two entries of a folder are alike, and they stand in order; each names a node that there is.
-/
import Derived.Test.YtjpmomklkkifjaaGreatDoorCFLater
namespace Go.Proofs.YtjpmomklkkifjaaGreatDoor.T
open Go.RowKit Go.Lib
set_option maxRecDepth 100000
set_option linter.unusedVariables false
set_option linter.unusedSimpArgs false

theorem any_take {L : List NV} {j : Nat} {u : NV} (h : L[j]? = some u) (p : NV → Bool) : (L.take (j + 1)).any p = ((L.take j).any p || p u) := by
  rw [List.take_add_one, h]
  simp
set_option maxHeartbeats 16000000 in
theorem topOnce_walk (va : Value) (na : Nat) (fa : Nat → ActD) (W : World) (hR : Ready W) (hA : ActsOk W va na fa) :
    Calls Tryz.prog 3 #[va] W fun e w' => e = .returned (.bool true) ∧ Below W.heap.size W w' := by
  have hmade := made_calls hR (H0.start W) (Nat.le_refl _)
  have hgr := fun w1 (h1 : H0 W w1 []) => grown_calls hR h1 va na fa hA
  have HMd := hide hmade
  have HGr := hide hgr
  have HR := hide hR
  clear hmade hgr hA hR
  go_enter Tryz.func3, Tryz.ntmps3
  go_wp2_with fail
  refine (unhide HMd).mono ?_
  rintro e w1 ⟨rfl, h1⟩
  have H1 := hide h1
  clear h1 HMd
  go_wp2_with fail
  refine (unhide HGr w1 (unhide H1)).mono ?_
  rintro e w2 (⟨rfl, h2⟩ | ⟨fb, mb, N, F, next, rfl, h2, hG⟩)
  · have H2 := hide h2
    clear h2 HGr H1
    go_wp2_with fail
    go_ret
    exact ⟨rfl, H0.below (unhide H2)⟩
  clear HGr H1
  have hne : N ≠ [] := by
    obtain ⟨r, hr, _⟩ := hG.whole.linked.root
    intro e; rw [e] at hr; cases hr
  have hnd := nodes_calls h2 hG.fits hG.whole.linked.nodup hne
  have HNd := hide hnd
  have HG := hide hG
  clear h2 hG hnd
  go_wp2_with fail
  refine (unhide HNd).mono ?_
  rintro e w3 ⟨vn, L, rfl, hperm, _, h3⟩
  have hlen : L.length = N.length := hperm.length_eq
  have hpos : 0 < L.length := by rw [hlen]; exact List.length_pos_iff.2 hne
  have h16 : L.length ≤ 16 := by rw [hlen]; exact (unhide HG).fits.few
  obtain ⟨g, cap, rfl, hc1, hc2⟩ := row_shape (h3.rowAt (.head _)) hpos
  obtain ⟨n, hn⟩ : ∃ n, L.length = n := ⟨_, rfl⟩
  rw [hn] at h3 h16 ⊢
  have Hn := hide hn
  have HP := hide hperm
  have H3 := hide h3
  clear HNd hperm h3 hc1 hc2 hlen hpos hn hne
  go_wp2_with fail
  go_loopg [7, 8, 9, 10, 11] (n + 1) (fun k v7 v8 v9 v10 v11 wr => ∃ i : Nat, n - i < k ∧ i ≤ n ∧ v7 = .int .i64 i ∧ Hid (FSIn W wr fb mb N F next [rowNd (.slice (some ⟨g, 0, none⟩) n cap) L]))
  case atStart => exact ⟨0, by omega, by omega, rfl, H3⟩
  case round =>
    obtain ⟨i, hk, hi, rfl, HI⟩ := hrel
    clear H3
    by_cases hin : i < n
    · have hiz : (i : Int) < (n : Int) := by omega
      have hil : i < L.length := by rw [unhide Hn]; exact hin
      obtain ⟨u, hu⟩ : ∃ u, L[i]? = some u := ⟨L[i], by simp [hil]⟩
      have hrowI := (unhide HI).rowAt (.head _)
      rw [unhide Hn] at hrowI
      obtain ⟨c0, _⟩ := node_cell hrowI hu
      have huN : u ∈ N := (unhide HP).mem_iff.1 (List.mem_of_getElem? hu)
      have hid := (unhide HG).fits.id u huN
      have hent := entries_calls (unhide HI) (unhide HG).fits u.id (wfI_of (by omega) (by omega))
      rw [atN_of (unhide HG).whole.linked.nodup huN] at hent
      have hok := (unhide HG).whole.ents (unhide HG).fits huN
      generalize entsK F u = es at hent hok
      have HE := hide hent
      have HO := hide hok
      have h900 := hok.few
      clear hrowI huN hid hent hok hu hil
      go_wp2_with fail
      refine (unhide HE).mono ?_
      rintro e w4 ⟨ve, rfl, h4⟩
      have hr4 := h4.rowAt (v := ve) (.head _)
      have H4 := hide h4
      clear h4 HE HI
      rcases entry_shape hr4 (by omega) with ⟨rfl, rfl⟩ | ⟨ge, ce, rfl⟩
      · have H5 := hide (FSIn.forget [] (unhide H4))
        clear H4 hr4 HO
        go_wp2_with fail
        go_loopg [9, 10, 11] 1 (fun k2 v9 v10 v11 wr => v9 = .int .i64 0 ∧ wr = w4)
        case atStart => exact ⟨rfl, rfl⟩
        case round =>
          obtain ⟨rfl, rfl⟩ := hrel
          go_wp2_with fail
          go_roundg (n - i)
          case measure => omega
          case rel => exact ⟨i + 1, by omega, by omega, by simp, H5⟩
      · obtain ⟨m, hm⟩ : ∃ m, es.length = m := ⟨_, rfl⟩
        rw [hm] at hr4 H4 h900 ⊢
        have Hm := hide hm
        clear hr4 hm
        go_wp2_with fail
        go_loopg [9, 10, 11] (m + 1) (fun k2 v9 v10 v11 wr => ∃ j : Nat, m - j < k2 ∧ j ≤ m ∧ v9 = .int .i64 j ∧ Hid (FSIn W wr fb mb N F next [rowE (.slice (some ⟨ge, 0, none⟩) m ce) es, rowNd (.slice (some ⟨g, 0, none⟩) n cap) L]))
        case atStart => exact ⟨0, by omega, by omega, rfl, H4⟩
        case round =>
          obtain ⟨j, hk2, hj, rfl, HJ⟩ := hrel
          clear H4
          by_cases hjm : j < m
          · have hjz : (j : Int) < (m : Int) := by omega
            have hjl : j < es.length := by rw [unhide Hm]; exact hjm
            obtain ⟨x, hx⟩ : ∃ x, es[j]? = some x := ⟨es[j], by simp [hjl]⟩
            have hxm := List.mem_of_getElem? hx
            have hrE := (unhide HJ).rowAt (v := .slice (some ⟨ge, 0, none⟩) m ce) (.head _)
            have hrN := (unhide HJ).rowAt (v := .slice (some ⟨g, 0, none⟩) n cap) (.tail _ (.head _))
            rw [unhide Hm] at hrE
            rw [unhide Hn] at hrN
            have hcE := fun q y (hy : es[q]? = some y) => entry_cell hrE hy
            have hcN := fun q y (hy : L[q]? = some y) => node_cell hrN hy
            have hxn := (unhide HO).name x hxm
            obtain ⟨_, vv, hvv, hvid⟩ := (unhide HO).node x hxm
            have Hex : Hid (L.any (fun u => u.id == x.node) = true) := by
              show _ = _
              rw [List.any_eq_true]
              exact ⟨vv, (unhide HP).mem_iff.2 hvv, by simpa using hvid⟩
            have hRr := (unhide HJ).ready (unhide HR)
            have ef : ∀ q : Later wr, Calls Tryz.prog 17 #[.string x.name] q.wld fun e w' => e = .returned .nilIface ∧ Below q.wld.heap.size q.wld w' := fun q => by
              have := check_spec x.name q.wld (hRr.later q.bel) (by
                obtain ⟨nx, ex, _⟩ := name_of_check hxn
                have h1 := nx.bytes
                rw [ex, encS_size]; omega)
              rw [hxn] at this
              exact this
            have q0 := fun q : Later wr => cell_later q.bel (hcE j x hx).1
            have EF := hide ef
            have Hx := hide hx
            rcases Nat.eq_zero_or_pos j with h0 | h0
            · have hz0 : ¬ (0 : Int) < (j : Int) := by omega
              have hz1 : ¬ 0 < j := by omega
              obtain ⟨xn, hxnm⟩ : ∃ xn, x.name = xn := ⟨_, rfl⟩
              rw [hxnm] at q0 EF
              clear hx hxm hrE hrN hcE hcN hxn hvv hvid hRr ef h0 hjl hxnm
              go_wp2_with fail
              refine wp_region_later (by kernel_rfl) (by kernel_rfl) ?_
              repeat (go_big_quiet_step (refine Calls.later (unhide EF _)))
              refine wpQuiet_nil ?_
              intro _ hw'
              obtain ⟨uq, hw''⟩ := hw'
              subst hw''
              have HJ2 : Hid (FSIn W uq.wld fb mb N F next [rowE (.slice (some ⟨ge, 0, none⟩) m ce) es, rowNd (.slice (some ⟨g, 0, none⟩) n cap) L]) := (unhide HJ).step uq.bel
              clear q0 EF HJ hz0 hz1
              go_wp2_with fail
              go_loopg [10, 11] (n + 1) (fun k3 v10 v11 wr3 => ∃ t : Nat, n - t < k3 ∧ t ≤ n ∧ v11 = .int .i64 t ∧ ∃ b : Bool, v10 = .bool b ∧ Hid (b = (L.take t).any (fun u => u.id == x.node)) ∧ Hid (FSIn W wr3 fb mb N F next [rowE (.slice (some ⟨ge, 0, none⟩) m ce) es, rowNd (.slice (some ⟨g, 0, none⟩) n cap) L]))
              case atStart => exact ⟨0, by omega, by omega, rfl, false, rfl, (by show _ = _; simp), HJ2⟩
              case round =>
                obtain ⟨t, hk3, ht, rfl, b, rfl, HB, HT⟩ := hrel
                clear HJ2
                by_cases htn : t < n
                · have htz : (t : Int) < (n : Int) := by omega
                  have htl : t < L.length := by rw [unhide Hn]; exact htn
                  obtain ⟨u2, hu2⟩ : ∃ u, L[t]? = some u := ⟨L[t], by simp [htl]⟩
                  have hrE := (unhide HT).rowAt (v := .slice (some ⟨ge, 0, none⟩) m ce) (.head _)
                  have hrN := (unhide HT).rowAt (v := .slice (some ⟨g, 0, none⟩) n cap) (.tail _ (.head _))
                  rw [unhide Hm] at hrE
                  rw [unhide Hn] at hrN
                  have qE := fun q : Later wr => cell_later q.bel (entry_cell hrE (unhide Hx)).2
                  have qN := fun q : Later wr => cell_later q.bel (node_cell hrN hu2).1
                  have Hnext : Hid ((L.take (t + 1)).any (fun u => u.id == x.node) = ((L.take t).any (fun u => u.id == x.node) || u2.id == x.node)) := any_take hu2 _
                  clear hrE hrN hu2 htl
                  cases b with
                  | true =>
                    have HB2 : Hid (true = (L.take (t + 1)).any (fun u => u.id == x.node)) := by show _ = _; rw [unhide Hnext, ← unhide HB]; rfl
                    clear qE qN HB Hnext
                    go_wp2_with fail
                    refine wp_region_later (by kernel_rfl) (by kernel_rfl) ?_
                    repeat (go_big_quiet_step (fail))
                    refine wpQuiet_nil ?_
                    intro _ hw'
                    obtain ⟨uq3, hw''⟩ := hw'
                    subst hw''
                    go_wp2_with fail
                    go_roundg (n - t)
                    case measure => omega
                    case rel => exact ⟨t + 1, by omega, by omega, by simp, true, rfl, HB2, (unhide HT).step uq3.bel⟩
                  | false =>
                    obtain ⟨bb, hbb⟩ : ∃ bb, (u2.id == x.node) = bb := ⟨_, rfl⟩
                    have HB2 : Hid (bb = (L.take (t + 1)).any (fun u => u.id == x.node)) := by show _ = _; rw [unhide Hnext, ← unhide HB, hbb]; simp
                    obtain ⟨uid, huid⟩ : ∃ uid, u2.id = uid := ⟨_, rfl⟩
                    obtain ⟨xnd, hxnd⟩ : ∃ xnd, x.node = xnd := ⟨_, rfl⟩
                    rw [huid] at qN hbb
                    rw [hxnd] at qE hbb
                    clear HB Hnext huid hxnd
                    go_wp2_with fail
                    refine wp_region_later (by kernel_rfl) (by kernel_rfl) ?_
                    repeat (go_big_quiet_step (fail))
                    refine wpQuiet_nil ?_
                    intro _ hw'
                    obtain ⟨uq3, hw''⟩ := hw'
                    subst hw''
                    clear qE qN
                    go_wp2_with fail
                    go_roundg (n - t)
                    case measure => omega
                    case rel => exact ⟨t + 1, by omega, by omega, by simp, bb, rfl, HB2, (unhide HT).step uq3.bel⟩
                · have htz : ¬ (t : Int) < (n : Int) := by omega
                  have hb : b = true := by rw [unhide HB, List.take_of_length_le (by rw [unhide Hn]; omega)]; exact unhide Hex
                  subst hb
                  clear HB
                  go_wp2_with fail
                  go_roundg (m - j)
                  case measure => omega
                  case rel => exact ⟨j + 1, by omega, by omega, by simp, HT⟩
            · obtain ⟨k, hkj⟩ : ∃ k, j = k + 1 := ⟨j - 1, by omega⟩
              have hm1 : (j : Int) - 1 = (k : Int) := by omega
              have hz0 : (0 : Int) < (j : Int) := by omega
              have hkm : (k : Int) < (m : Int) := by omega
              obtain ⟨y, hy⟩ : ∃ y, es[k]? = some y := ⟨es[k], by rw [List.getElem?_eq_getElem]⟩
              have hyn := (unhide HO).name y (List.mem_of_getElem? hy)
              have hlt : kLt y.key x.key := by
                have hkl : k < es.length := (List.getElem?_eq_some_iff.1 hy).1
                have := List.pairwise_iff_getElem.1 (unhide HO).sorted k j hkl hjl (by omega)
                rw [(List.getElem?_eq_some_iff.1 hy).2, (List.getElem?_eq_some_iff.1 hx).2] at this
                exact this
              rw [(unhide HO).key y (List.mem_of_getElem? hy), (unhide HO).key x hxm] at hlt
              have ec := fun q : Later wr => compareS_calls hyn hxn q.wld (hRr.later q.bel)
              have q1 := fun q : Later wr => cell_later q.bel (hcE k y hy).1
              unfold kLt at hlt
              generalize cmpB (keyS y.name) (keyS x.name) = c at hlt ec
              have hc0 : ¬ (0 : Int) ≤ c := by omega
              obtain ⟨xn, hxnm⟩ : ∃ xn, x.name = xn := ⟨_, rfl⟩
              obtain ⟨yn, hynm⟩ : ∃ yn, y.name = yn := ⟨_, rfl⟩
              rw [hxnm] at q0 EF ec
              rw [hynm] at q1 ec
              have EC := hide ec
              have Hkj := hide hkj
              clear hx hxm hrE hrN hcE hcN hxn hvv hvid hRr ef hjl hxnm hynm hyn hy hlt ec hkj
              go_wp2_with fail
              refine wp_region_later (by kernel_rfl) (by kernel_rfl) ?_
              repeat (go_big_quiet_step (first | (go_at_call 17; refine Calls.later (unhide EF _)) | (go_at_call 18; refine Calls.later (unhide EC _))))
              refine wpQuiet_nil ?_
              intro _ hw'
              obtain ⟨uq, hw''⟩ := hw'
              subst hw''
              have HJ2 : Hid (FSIn W uq.wld fb mb N F next [rowE (.slice (some ⟨ge, 0, none⟩) m ce) es, rowNd (.slice (some ⟨g, 0, none⟩) n cap) L]) := (unhide HJ).step uq.bel
              clear q0 q1 EF EC HJ hz0 hm1 hkm
              go_wp2_with fail
              go_loopg [10, 11] (n + 1) (fun k3 v10 v11 wr3 => ∃ t : Nat, n - t < k3 ∧ t ≤ n ∧ v11 = .int .i64 t ∧ ∃ b : Bool, v10 = .bool b ∧ Hid (b = (L.take t).any (fun u => u.id == x.node)) ∧ Hid (FSIn W wr3 fb mb N F next [rowE (.slice (some ⟨ge, 0, none⟩) m ce) es, rowNd (.slice (some ⟨g, 0, none⟩) n cap) L]))
              case atStart => exact ⟨0, by omega, by omega, rfl, false, rfl, (by show _ = _; simp), HJ2⟩
              case round =>
                obtain ⟨t, hk3, ht, rfl, b, rfl, HB, HT⟩ := hrel
                clear HJ2
                by_cases htn : t < n
                · have htz : (t : Int) < (n : Int) := by omega
                  have htl : t < L.length := by rw [unhide Hn]; exact htn
                  obtain ⟨u2, hu2⟩ : ∃ u, L[t]? = some u := ⟨L[t], by simp [htl]⟩
                  have hrE := (unhide HT).rowAt (v := .slice (some ⟨ge, 0, none⟩) m ce) (.head _)
                  have hrN := (unhide HT).rowAt (v := .slice (some ⟨g, 0, none⟩) n cap) (.tail _ (.head _))
                  rw [unhide Hm] at hrE
                  rw [unhide Hn] at hrN
                  have qE := fun q : Later wr => cell_later q.bel (entry_cell hrE (unhide Hx)).2
                  have qN := fun q : Later wr => cell_later q.bel (node_cell hrN hu2).1
                  have Hnext : Hid ((L.take (t + 1)).any (fun u => u.id == x.node) = ((L.take t).any (fun u => u.id == x.node) || u2.id == x.node)) := any_take hu2 _
                  clear hrE hrN hu2 htl
                  cases b with
                  | true =>
                    have HB2 : Hid (true = (L.take (t + 1)).any (fun u => u.id == x.node)) := by show _ = _; rw [unhide Hnext, ← unhide HB]; rfl
                    clear qE qN HB Hnext
                    go_wp2_with fail
                    refine wp_region_later (by kernel_rfl) (by kernel_rfl) ?_
                    repeat (go_big_quiet_step (fail))
                    refine wpQuiet_nil ?_
                    intro _ hw'
                    obtain ⟨uq3, hw''⟩ := hw'
                    subst hw''
                    go_wp2_with fail
                    go_roundg (n - t)
                    case measure => omega
                    case rel => exact ⟨t + 1, by omega, by omega, by simp, true, rfl, HB2, (unhide HT).step uq3.bel⟩
                  | false =>
                    obtain ⟨bb, hbb⟩ : ∃ bb, (u2.id == x.node) = bb := ⟨_, rfl⟩
                    have HB2 : Hid (bb = (L.take (t + 1)).any (fun u => u.id == x.node)) := by show _ = _; rw [unhide Hnext, ← unhide HB, hbb]; simp
                    obtain ⟨uid, huid⟩ : ∃ uid, u2.id = uid := ⟨_, rfl⟩
                    obtain ⟨xnd, hxnd⟩ : ∃ xnd, x.node = xnd := ⟨_, rfl⟩
                    rw [huid] at qN hbb
                    rw [hxnd] at qE hbb
                    clear HB Hnext huid hxnd
                    go_wp2_with fail
                    refine wp_region_later (by kernel_rfl) (by kernel_rfl) ?_
                    repeat (go_big_quiet_step (fail))
                    refine wpQuiet_nil ?_
                    intro _ hw'
                    obtain ⟨uq3, hw''⟩ := hw'
                    subst hw''
                    clear qE qN
                    go_wp2_with fail
                    go_roundg (n - t)
                    case measure => omega
                    case rel => exact ⟨t + 1, by omega, by omega, by simp, bb, rfl, HB2, (unhide HT).step uq3.bel⟩
                · have htz : ¬ (t : Int) < (n : Int) := by omega
                  have hb : b = true := by rw [unhide HB, List.take_of_length_le (by rw [unhide Hn]; omega)]; exact unhide Hex
                  subst hb
                  clear HB
                  go_wp2_with fail
                  go_roundg (m - j)
                  case measure => omega
                  case rel => exact ⟨j + 1, by omega, by omega, by simp, HT⟩
          · have hjz : ¬ (j : Int) < (m : Int) := by omega
            have H5 := hide (FSIn.forget [] (unhide HJ))
            clear HJ
            go_wp2_with fail
            go_roundg (n - i)
            case measure => omega
            case rel => exact ⟨i + 1, by omega, by omega, by simp, H5⟩
    · have hiz : ¬ (i : Int) < (n : Int) := by omega
      go_wp2_with fail
      go_ret
      exact ⟨rfl, (unhide HI).below⟩
end Go.Proofs.YtjpmomklkkifjaaGreatDoor.T
