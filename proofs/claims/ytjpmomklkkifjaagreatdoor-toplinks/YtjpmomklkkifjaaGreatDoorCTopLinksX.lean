/-
  The walk of TopLinks.
-/
import Derived.Test.YtjpmomklkkifjaaGreatDoorCTopLinksW
namespace Go.Proofs.YtjpmomklkkifjaaGreatDoor.T
open Go.RowKit Go.Lib
set_option maxRecDepth 100000
set_option linter.unusedVariables false
set_option linter.unusedSimpArgs false

theorem isAt {L : List NV} {j : Nat} (h : j < L.length) : ∃ u, L[j]? = some u := ⟨L[j], by simp [h]⟩
set_option maxHeartbeats 32000000 in
theorem topLinks_walk (va : Value) (na : Nat) (fa : Nat → ActD) (W : World) (hR : Ready W) (hA : ActsOk W va na fa) :
    Calls Tryz.prog 4 #[va] W fun e w' => e = .returned (.bool true) ∧ Below W.heap.size W w' := by
  have hmade := made_calls hR (H0.start W) (Nat.le_refl _)
  have hgr := fun w1 (h1 : H0 W w1 []) => grown_calls hR h1 va na fa hA
  have HMd := hide hmade
  have HGr := hide hgr
  have HR := hide hR
  clear hmade hgr hA hR
  go_enter Tryz.func4, Tryz.ntmps4
  go_wp2_with fail
  refine (unhide HMd).mono ?_
  rintro e w1 ⟨rfl, h1⟩
  have H1 := hide h1
  clear h1 HMd
  go_wp2_with fail
  refine (unhide HGr w1 (unhide H1)).mono ?_
  rintro e w2 (⟨rfl, h2⟩ | ⟨fb, mb, N, F, next, rfl, h2, hG⟩)
  · have H2 := hide h2
    clear h2 HGr H1
    go_wp2_with fail
    go_ret
    exact ⟨rfl, H0.below (unhide H2)⟩
  clear HGr H1
  have hne : N ≠ [] := by
    obtain ⟨r, hr, _⟩ := hG.whole.linked.root
    intro e; rw [e] at hr; cases hr
  have hnd := nodes_calls h2 hG.fits hG.whole.linked.nodup hne
  have HNd := hide hnd
  have HG := hide hG
  clear h2 hG hnd
  go_wp2_with fail
  refine (unhide HNd).mono ?_
  rintro e w3 ⟨vn, L, rfl, hperm, _, h3⟩
  have hlen : L.length = N.length := hperm.length_eq
  have hpos : 0 < L.length := by rw [hlen]; exact List.length_pos_iff.2 hne
  have h16 : L.length ≤ 16 := by rw [hlen]; exact (unhide HG).fits.few
  obtain ⟨g, cap, rfl, hc1, hc2⟩ := row_shape (h3.rowAt (.head _)) hpos
  obtain ⟨n, hn⟩ : ∃ n, L.length = n := ⟨_, rfl⟩
  rw [hn] at h3 h16 ⊢
  have Hn := hide hn
  have HP := hide hperm
  have H3 := hide h3
  have HnN : Hid (N.length = n) := by show _ = _; rw [← hlen, hn]
  clear HNd hperm h3 hc1 hc2 hlen hpos hn hne
  go_wp2_with fail
  go_loopg [7, 8, 9, 10, 11, 12, 13, 14, 15, 16] (n + 1) (fun k v7 v8 v9 v10 v11 v12 v13 v14 v15 v16 wr => ∃ i : Nat, n - i < k ∧ i ≤ n ∧ v7 = .int .i64 i ∧ Hid (FSIn W wr fb mb N F next [rowNd (.slice (some ⟨g, 0, none⟩) n cap) L]))
  case atStart => exact ⟨0, by omega, by omega, rfl, H3⟩
  case round =>
    obtain ⟨i, hk, hi, rfl, HI⟩ := hrel
    clear H3
    by_cases hin : i < n
    · have hiz : (i : Int) < (n : Int) := by omega
      obtain ⟨u, hu⟩ := isAt (L := L) (j := i) (by rw [unhide Hn]; exact hin)
      have hrowI := (unhide HI).rowAt (.head _)
      rw [unhide Hn] at hrowI
      obtain ⟨c0, c1, c2, c3, c4⟩ := node_cell hrowI hu
      have huN : u ∈ N := (unhide HP).mem_iff.1 (List.mem_of_getElem? hu)
      have hok := (unhide HG).whole.linked.ok (pairs_perm (unhide HP) F) huN
      have hclimb := fun hk => (unhide HG).whole.linked.climb huN hk
      have HO := hide hok
      have HCl := hide hclimb
      have h4 := (unhide HI).made 33 [.int .i64 u.id, .int .i64 u.kind, .int .i64 u.up, .int .i64 u.links, .string u.text]
      obtain ⟨B, hB⟩ : ∃ B, wr.heap.size = B := ⟨_, rfl⟩
      rw [hB] at h4
      have H4 := hide h4
      clear hrowI huN hok hclimb hu h4 HI
      go_wp2_with fail
      clear hB c0 c1 c2 c3 c4
      go_loopg [9, 10, 11, 12, 13] (n + 1) (fun k2 v9 v10 v11 v12 v13 wr2 => ∃ (q c : Nat) (p : Int), n - q < k2 ∧ q ≤ n ∧ v11 = .int .i64 q ∧ v9 = .int .i64 c ∧ c ≤ 900 * q ∧ v10 = .int .i64 p ∧ Hid (c = refsE (pairs (L.take q) F) u.id) ∧ Hid (p = lastUp (pairs (L.take q) F) u.id) ∧ Hid (FSIn W wr2 fb mb N F next [.cell B 33 [.int .i64 u.id, .int .i64 u.kind, .int .i64 u.up, .int .i64 u.links, .string u.text], rowNd (.slice (some ⟨g, 0, none⟩) n cap) L]))
      case atStart => exact ⟨0, 0, 0, by omega, by omega, rfl, rfl, by omega, rfl, (by show _ = _; simp [pairs, refsE]), (by show _ = _; simp [pairs, lastUp]), H4⟩
      case round =>
        obtain ⟨q, c, p, hk2, hq, rfl, rfl, hc9, rfl, Hc, Hp, HQ⟩ := hrel
        clear H4
        by_cases hqn : q < n
        · have hqz : (q : Int) < (n : Int) := by omega
          obtain ⟨y, hy⟩ := isAt (L := L) (j := q) (by rw [unhide Hn]; exact hqn)
          have hrowQ := (unhide HQ).rowAt (v := .slice (some ⟨g, 0, none⟩) n cap) (.tail _ (.head _))
          rw [unhide Hn] at hrowQ
          obtain ⟨d0, _⟩ := node_cell hrowQ hy
          have hyN : y ∈ N := (unhide HP).mem_iff.1 (List.mem_of_getElem? hy)
          have hid := (unhide HG).fits.id y hyN
          have hent := entries_calls (unhide HQ) (unhide HG).fits y.id (wfI_of (by omega) (by omega))
          rw [atN_of (unhide HG).whole.linked.nodup hyN] at hent
          have h900 := ((unhide HG).whole.ents (unhide HG).fits hyN).few
          have Htk : Hid (pairs (L.take (q + 1)) F = pairs (L.take q) F ++ tagE y.id (entsK F y)) := pairs_take hy F
          generalize entsK F y = es at hent h900 Htk
          obtain ⟨yid, hyid⟩ : ∃ yid, y.id = yid := ⟨_, rfl⟩
          rw [hyid] at d0 hent Htk
          have HE := hide hent
          have Hy := hide hy
          have Hyid := hide hyid
          clear hrowQ hyN hid hent hy hyid
          go_wp2_with fail
          refine (unhide HE).mono ?_
          rintro e w4 ⟨ve, rfl, h4⟩
          have hr4 := h4.rowAt (v := ve) (.head _)
          have H4 := hide h4
          clear h4 HE HQ
          rcases entry_shape hr4 (by omega) with ⟨rfl, rfl⟩ | ⟨ge, ce, rfl⟩
          · have H5 := hide (FSIn.forget [] (unhide H4))
            have Hc2 : Hid (c = refsE (pairs (L.take (q + 1)) F) u.id) := by show _ = _; rw [unhide Htk, unhide Hc]; simp [tagE]
            have Hp2 : Hid (p = lastUp (pairs (L.take (q + 1)) F) u.id) := by show _ = _; rw [unhide Htk, unhide Hp]; simp [tagE]
            clear H4 hr4 Hc Hp Htk
            go_wp2_with fail
            go_loopg [9, 10, 13] 1 (fun k2 v9 v10 v13 wr => v9 = .int .i64 c ∧ v10 = .int .i64 p ∧ v13 = .int .i64 0 ∧ wr = w4)
            case atStart => exact ⟨rfl, rfl, rfl, rfl⟩
            case round =>
              obtain ⟨rfl, rfl, rfl, rfl⟩ := hrel
              go_wp2_with fail
              go_roundg (n - q)
              case measure => omega
              case rel => exact ⟨q + 1, c, p, by omega, by omega, by simp, rfl, by omega, rfl, Hc2, Hp2, H5⟩
          · obtain ⟨m, hm⟩ : ∃ m, es.length = m := ⟨_, rfl⟩
            rw [hm] at hr4 H4 h900 ⊢
            have Hm := hide hm
            clear hr4 hm
            go_wp2_with fail
            go_loopg [9, 10, 13] (m + 1) (fun k3 v9 v10 v13 wr3 => ∃ (j c2 : Nat) (p2 : Int), m - j < k3 ∧ j ≤ m ∧ v13 = .int .i64 j ∧ v9 = .int .i64 c2 ∧ c2 ≤ 900 * q + j ∧ v10 = .int .i64 p2 ∧ Hid (c2 = refsE (pairs (L.take q) F ++ tagE yid (es.take j)) u.id) ∧ Hid (p2 = lastUp (pairs (L.take q) F ++ tagE yid (es.take j)) u.id) ∧ Hid (FSIn W wr3 fb mb N F next [rowE (.slice (some ⟨ge, 0, none⟩) m ce) es, .cell B 33 [.int .i64 u.id, .int .i64 u.kind, .int .i64 u.up, .int .i64 u.links, .string u.text], rowNd (.slice (some ⟨g, 0, none⟩) n cap) L]))
            case atStart => exact ⟨0, c, p, by omega, by omega, rfl, rfl, by omega, rfl, (by show _ = _; rw [unhide Hc]; simp [tagE]), (by show _ = _; rw [unhide Hp]; simp [tagE]), H4⟩
            case round =>
              obtain ⟨j, c2, p2, hk3, hj, rfl, rfl, hc9j, rfl, Hc2, Hp2, HJ⟩ := hrel
              clear H4
              by_cases hjm : j < m
              · have hjz : (j : Int) < (m : Int) := by omega
                have hjl : j < es.length := by rw [unhide Hm]; exact hjm
                obtain ⟨x, hx⟩ : ∃ x, es[j]? = some x := ⟨es[j], by simp [hjl]⟩
                have hrE := (unhide HJ).rowAt (v := .slice (some ⟨ge, 0, none⟩) m ce) (.head _)
                have hrN := (unhide HJ).rowAt (v := .slice (some ⟨g, 0, none⟩) n cap) (.tail _ (.tail _ (.head _)))
                rw [unhide Hm] at hrE
                rw [unhide Hn] at hrN
                have hb0 := (unhide HJ).cellAt (b := B) (.tail _ (.head _)) (j := 0) rfl
                have qE := fun q : Later wr => cell_later q.bel (entry_cell hrE hx).2
                have qB := fun q : Later wr => cell_later q.bel hb0
                have hd1 := (node_cell hrN (unhide Hy)).1
                rw [unhide Hyid] at hd1
                have hd : ∀ uq : Later wr, uq.wld.cell? ⟨g, q * 5, none⟩ = some (.int .i64 yid) := fun uq => cell_later uq.bel hd1
                have Htg : Hid (pairs (L.take q) F ++ tagE yid (es.take (j + 1)) = (pairs (L.take q) F ++ tagE yid (es.take j)) ++ [(yid, x)]) := by show _ = _; rw [tag_take hx, List.append_assoc]
                obtain ⟨bb, hbb⟩ : ∃ bb, (x.node == u.id) = bb := ⟨_, rfl⟩
                have Hcs : Hid (refsE (pairs (L.take q) F ++ tagE yid (es.take (j + 1))) u.id = c2 + if bb then 1 else 0) := by
                  show _ = _
                  rw [unhide Htg, refs_snoc, unhide Hc2, ← hbb]
                  simp
                have Hps : Hid (lastUp (pairs (L.take q) F ++ tagE yid (es.take (j + 1))) u.id = if bb then yid else p2) := by
                  show _ = _
                  rw [unhide Htg, lastUp_snoc, unhide Hp2, ← hbb]
                  simp
                obtain ⟨xnd, hxnd⟩ : ∃ xnd, x.node = xnd := ⟨_, rfl⟩
                rw [hxnd] at qE hbb
                obtain ⟨uid, huid⟩ : ∃ uid, u.id = uid := ⟨_, rfl⟩
                rw [huid] at qB hbb
                clear hrE hrN hb0 hd1 hx hjl Htg Hc2 Hp2 hxnd huid
                cases bb with
                | true =>
                  go_wp2_with fail
                  refine wp_region_later (by kernel_rfl) (by kernel_rfl) ?_
                  repeat (go_big_quiet_step (fail))
                  refine wpQuiet_nil ?_
                  intro _ hw'
                  obtain ⟨uq, hw''⟩ := hw'
                  subst hw''
                  have d1 := hd uq
                  clear qE qB hd
                  go_wp2_with fail
                  go_roundg (m - j)
                  case measure => omega
                  case rel => exact ⟨j + 1, c2 + 1, yid, by omega, by omega, by simp, by simp, by omega, rfl, (by show _ = _; rw [unhide Hcs]; rfl), (by show _ = _; rw [unhide Hps]; rfl), (unhide HJ).step uq.bel⟩
                | false =>
                  go_wp2_with fail
                  refine wp_region_later (by kernel_rfl) (by kernel_rfl) ?_
                  repeat (go_big_quiet_step (fail))
                  refine wpQuiet_nil ?_
                  intro _ hw'
                  obtain ⟨uq, hw''⟩ := hw'
                  subst hw''
                  clear qE qB hd
                  go_wp2_with fail
                  go_roundg (m - j)
                  case measure => omega
                  case rel => exact ⟨j + 1, c2, p2, by omega, by omega, by simp, by simp, by omega, rfl, (by show _ = _; rw [unhide Hcs]; rfl), (by show _ = _; rw [unhide Hps]; rfl), (unhide HJ).step uq.bel⟩
              · have hjz : ¬ (j : Int) < (m : Int) := by omega
                have hje : es.take j = es := List.take_of_length_le (by rw [unhide Hm]; omega)
                have Hc3 : Hid (c2 = refsE (pairs (L.take (q + 1)) F) u.id) := by show _ = _; rw [unhide Htk, unhide Hc2, hje]
                have Hp3 : Hid (p2 = lastUp (pairs (L.take (q + 1)) F) u.id) := by show _ = _; rw [unhide Htk, unhide Hp2, hje]
                have H5 := hide (FSIn.forget [] (unhide HJ))
                clear HJ hje Hc2 Hp2
                go_wp2_with fail
                go_roundg (n - q)
                case measure => omega
                case rel => exact ⟨q + 1, c2, p2, by omega, by omega, by simp, rfl, by omega, rfl, Hc3, Hp3, H5⟩
        · have hqz : ¬ (q : Int) < (n : Int) := by omega
          have hqe : L.take q = L := List.take_of_length_le (by rw [unhide Hn]; omega)
          have hcv : c = refsE (pairs L F) u.id := by rw [unhide Hc, hqe]
          have hpv : p = lastUp (pairs L F) u.id := by rw [unhide Hp, hqe]
          have hb := fun t v (hv : [Value.int .i64 u.id, .int .i64 u.kind, .int .i64 u.up, .int .i64 u.links, .string u.text][t]? = some v) => (unhide HQ).cellAt (b := B) (t := 33) (.head _) hv
          have b0 := hb 0 _ rfl
          have b1 := hb 1 _ rfl
          have b2 := hb 2 _ rfl
          have b3 := hb 3 _ rfl
          have hok := unhide HO
          clear Hc Hp hqe
          by_cases h1 : u.id = 1
          · obtain ⟨hr0, hrk⟩ := hok.root h1
            have hc0 : c = 0 := by rw [hcv, hr0]
            have H5 := hide (FSIn.forget [] (unhide HQ))
            rw [h1] at b0
            rw [hrk] at b1
            subst hc0
            clear hcv hpv hok hr0 hrk HQ h1 HO HCl hb b2 b3
            go_wp2_with fail
            go_roundg (n - i)
            case measure => omega
            case rel => exact ⟨i + 1, by omega, by omega, by simp, H5⟩
          · obtain ⟨hs1, hs2⟩ := hok.some h1
            rw [← hcv] at hs1 hs2
            have hcz : ¬ (c : Int) < 1 := by omega
            have hcz2 : ¬ c < 1 := by omega
            have hc0 : ¬ c = 0 := by omega
            rw [← hs2] at b3
            cases hkk : (u.kind == 1) with
            | false =>
              have hkk2 : ¬ u.kind = 1 := by simpa using hkk
              have H5 := hide (FSIn.forget [] (unhide HQ))
              obtain ⟨ukd, hukd⟩ : ∃ ukd, u.kind = ukd := ⟨_, rfl⟩
              obtain ⟨uid, huid⟩ : ∃ uid, u.id = uid := ⟨_, rfl⟩
              rw [hukd] at b1 hkk hkk2
              rw [huid] at b0 h1
              clear hcv hpv hok HQ HO HCl hb hs1 hs2 hukd huid b2
              go_wp2_with fail
              go_loopg [14, 15, 16] 1 (fun k4 v14 v15 v16 wr4 => v14 = .int .i64 uid ∧ v15 = .int .i64 0 ∧ wr4 = wr)
              case atStart => exact ⟨rfl, rfl, rfl⟩
              case round =>
                obtain ⟨rfl, rfl, rfl⟩ := hrel
                go_wp2_with fail
                go_roundg (n - i)
                case measure => omega
                case rel => exact ⟨i + 1, by omega, by omega, by simp, H5⟩
            | true =>
              have hk1 : u.kind = 1 := by simpa using hkk
              obtain ⟨hf1, hf2⟩ := hok.folder h1 hk1
              have hc1 : c = 1 := by rw [hcv, hf1]
              have hp1 : p = u.up := by rw [hpv, hf2]
              rw [hk1] at b1
              rw [← hp1] at b2
              obtain ⟨hcl1, hcl2⟩ := unhide HCl hk1
              rw [unhide HnN] at hcl1
              have Hcl1 := hide hcl1
              have Hcl2 := hide hcl2
              obtain ⟨uid, huid⟩ : ∃ uid, u.id = uid := ⟨_, rfl⟩
              have Hz : Hid (uid = upk N 0 uid) := rfl
              rw [huid] at b0 h1 Hcl1 Hcl2 HQ
              rw [hk1] at HQ
              subst hc1
              clear hcv hpv hok HO HCl hb hs1 hs2 huid hcl1 hcl2 hf1 hf2 hp1 hk1 hkk hcz hcz2 hc0
              go_wp2_with fail
              go_loopg [14, 15, 16] (n + 1) (fun k4 v14 v15 v16 wr4 => ∃ (t : Nat) (z : Int), n - t < k4 ∧ t ≤ n ∧ v15 = .int .i64 t ∧ v14 = .int .i64 z ∧ Hid (z = upk N t uid) ∧ Hid (FSIn W wr4 fb mb N F next [.cell B 33 [.int .i64 uid, .int .i64 1, .int .i64 u.up, .int .i64 u.links, .string u.text], rowNd (.slice (some ⟨g, 0, none⟩) n cap) L]))
              case atStart => exact ⟨0, uid, by omega, by omega, rfl, rfl, Hz, HQ⟩
              case round =>
                obtain ⟨t, z, hk4, ht, rfl, rfl, HZ, HT⟩ := hrel
                have e1 : _ = some (Value.int .i64 1) := (unhide HT).cellAt (b := B) (.head _) (j := 1) rfl
                clear HQ Hz b0 b1 b2 b3
                have H5 := hide (FSIn.forget [] (unhide HT))
                by_cases htn : t < n
                · have htz : (t : Int) < (n : Int) := by omega
                  by_cases hz1 : z = 1
                  · clear HZ
                    subst hz1
                    go_wp2_with fail
                    go_roundg (n - i)
                    case measure => omega
                    case rel => exact ⟨i + 1, by omega, by omega, by simp, H5⟩
                  · have hzb : (z == 1) = false := by simpa using hz1
                    obtain ⟨yy, hyy, hyid⟩ := List.mem_map.1 (unhide Hcl2 t)
                    have Hyy : Hid (yy ∈ L ∧ yy.id = z) := ⟨(unhide HP).mem_iff.2 hyy, by rw [hyid, ← unhide HZ]⟩
                    clear hyy hyid H5
                    go_wp2_with fail
                    go_loopg [14, 16] (n + 1) (fun k5 v14 v16 wr5 => ∃ j : Nat, n - j < k5 ∧ j ≤ n ∧ v16 = .int .i64 j ∧ v14 = .int .i64 z ∧ Hid (∀ y ∈ L.take j, y.id ≠ z) ∧ Hid (FSIn W wr5 fb mb N F next [.cell B 33 [.int .i64 uid, .int .i64 1, .int .i64 u.up, .int .i64 u.links, .string u.text], rowNd (.slice (some ⟨g, 0, none⟩) n cap) L]))
                    case atStart => exact ⟨0, by omega, by omega, rfl, rfl, (by show ∀ y ∈ L.take 0, _; simp), HT⟩
                    case round =>
                      obtain ⟨j, hk5, hj, rfl, rfl, HNo, HJ⟩ := hrel
                      clear HT e1
                      by_cases hjn : j < n
                      · have hjz : (j : Int) < (n : Int) := by omega
                        obtain ⟨y, hy⟩ := isAt (L := L) (j := j) (by rw [unhide Hn]; exact hjn)
                        have hrowJ := (unhide HJ).rowAt (v := .slice (some ⟨g, 0, none⟩) n cap) (.tail _ (.head _))
                        rw [unhide Hn] at hrowJ
                        obtain ⟨d0, _, d2, _⟩ := node_cell hrowJ hy
                        obtain ⟨yid, hyid⟩ : ∃ yid, y.id = yid := ⟨_, rfl⟩
                        obtain ⟨yup, hyup⟩ : ∃ yup, y.up = yup := ⟨_, rfl⟩
                        rw [hyid] at d0
                        rw [hyup] at d2
                        cases hbz : (yid == z) with
                        | true =>
                          have hyz : yid = z := by simpa using hbz
                          have Hnx : Hid (yup = upk N (t + 1) uid) := by
                            show _ = _
                            rw [upk_next, ← unhide HZ, ← hyz, ← hyid, atN_of (unhide HG).whole.linked.nodup ((unhide HP).mem_iff.1 (List.mem_of_getElem? hy)), hyup]
                          clear hy hrowJ hyid hyup HNo Hyy HZ hz1 hzb hyz
                          go_wp2_with fail
                          go_roundg (n - t)
                          case measure => omega
                          case rel => exact ⟨t + 1, yup, by omega, by omega, by simp, rfl, Hnx, HJ⟩
                        | false =>
                          have hyz : ¬ yid = z := by simpa using hbz
                          have HNo2 : Hid (∀ y ∈ L.take (j + 1), y.id ≠ z) := by
                            intro x hx
                            rw [List.take_add_one, hy] at hx
                            rcases List.mem_append.1 hx with hx | hx
                            · exact unhide HNo x hx
                            · have : x = y := by simpa using hx
                              rw [this, hyid]; exact hyz
                          clear hy hrowJ hyid hyup HNo hyz d2
                          go_wp2_with fail
                          go_roundg (n - j)
                          case measure => omega
                          case rel => exact ⟨j + 1, by omega, by omega, by simp, rfl, HNo2, HJ⟩
                      · exfalso
                        have := unhide HNo yy (by rw [List.take_of_length_le (by rw [unhide Hn]; omega)]; exact (unhide Hyy).1)
                        exact this (unhide Hyy).2
                · have htz : ¬ (t : Int) < (n : Int) := by omega
                  have hte : t = n := by omega
                  have hz1 : z = 1 := by rw [unhide HZ, hte]; exact unhide Hcl1
                  clear HZ hte
                  subst hz1
                  go_wp2_with fail
                  go_roundg (n - i)
                  case measure => omega
                  case rel => exact ⟨i + 1, by omega, by omega, by simp, H5⟩
    · have hiz : ¬ (i : Int) < (n : Int) := by omega
      go_wp2_with fail
      go_ret
      exact ⟨rfl, (unhide HI).below⟩
end Go.Proofs.YtjpmomklkkifjaaGreatDoor.T
