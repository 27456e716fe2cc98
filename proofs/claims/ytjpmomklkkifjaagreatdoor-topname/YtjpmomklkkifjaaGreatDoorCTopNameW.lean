/-
  TopName: an entry keeps its name as it was given, till it is given another one, also one that is alike.
-/
import Derived.Test.YtjpmomklkkifjaaGreatDoorCLaid
import Derived.Test.YtjpmomklkkifjaaGreatDoorCRunesW
namespace Go.Proofs.YtjpmomklkkifjaaGreatDoor.T
open Go.RowKit
set_option maxRecDepth 100000
set_option linter.unusedVariables false
set_option linter.unusedSimpArgs false

theorem within_none (N : List NV) : ∀ (n : Nat) (i o : Int), (∀ k, k < n → upk N k i ≠ o) → withinP N n i o = false
  | 0, _, _, _ => rfl
  | n + 1, i, o, h => by
    unfold withinP
    have h0 : i ≠ o := h 0 (by omega)
    rw [if_neg (by simpa using h0)]
    exact within_none N n _ o fun k hk => h (k + 1) (by omega)
theorem named_has {L : List Item} {x : Item} (h : x ∈ L) : namedB L x.name x.node = true := by
  unfold namedB
  rw [List.any_eq_true]
  exact ⟨x, h, by simp⟩
theorem name_facts {k : Nat} {N : List NV} {F : Forest} {next : Int} (hG : Good k N F next) (hk : k < 700) {s o ps po : ByteArray} (hs : checkP s = none) (ho : checkP o = none) (hko : keyS o = keyS s) (hps : ps.data.toList = 47 :: s.data.toList) (hpo : po.data.toList = 47 :: o.data.toList)
    {p : PL} (hf : freeP N F ps = .ok p) (hfull : ¬ (16 ≤ N.length ∨ 999 < next)) {tb : Nat} (ht : tb ∉ F.map (·.1)) {N1 : List NV} {F1 : Forest} (hN1 : putN N ⟨next, 1, p.v.id, 1, ⟨#[]⟩, some tb⟩ = N1) (hF1 : putF ((tb, []) :: F) p.tb ⟨p.key, p.name, next⟩ = F1) :
    Good (k + 1) N1 F1 (next + 1) ∧ (∃ u, findP N1 F1 po = .ok u ∧ u.id = next) ∧ namedB (entsK F1 (atN N1 1)) s next = true ∧ freeP N1 F1 po = .error 6 ∧
      (renameP N1 F1 ps po).1 = none ∧ Fits (renameP N1 F1 ps po).2.1 (renameP N1 F1 ps po).2.2 (next + 1) ∧ namedB (entsK (renameP N1 F1 ps po).2.2 (atN (renameP N1 F1 ps po).2.1 1)) o next = true := by
  have hfo := freeP_ok hG.fits hf
  have hG1 : Good (k + 1) N1 F1 (next + 1) := by
    rw [← hN1, ← hF1]
    exact hG.addFolder (by omega) hfo (by omega) (by omega) ht
  obtain ⟨hnf, hn1⟩ := hG.whole.find_next
  obtain ⟨r1, r2, r3, r4⟩ := hG.whole.linked.at1
  -- the place is the root's
  have hp : p = ⟨atN N 1, keyS s, s⟩ := by
    unfold freeP at hf
    rw [place_one hs hps, if_neg (by rw [r1]; simp)] at hf
    simp only at hf
    split at hf
    · cases hf
    · cases hf; rfl
  have hpt := hfo.1.tbs
  have hat1 : atN N1 1 = atN N 1 := by
    rw [← hN1]
    unfold atN
    rw [findN_put_other (by simp only; exact fun e => hn1 e.symm)]
  have hatn : atN N1 next = ⟨next, 1, p.v.id, 1, ⟨#[]⟩, some tb⟩ := by
    rw [← hN1]
    unfold atN
    have := findN_put_same N (⟨next, 1, p.v.id, 1, ⟨#[]⟩, some tb⟩ : NV)
    simp only at this
    rw [this]
    rfl
  have hin : p.tb ∈ ((tb, []) :: F).map (·.1) := List.mem_cons_of_mem _ hpt.2
  have hT1 : Trees ((tb, []) :: F) := hG.whole.trees.new ht
  have hlk : lookF F1 p.tb = putL (lookF ((tb, []) :: F) p.tb) ⟨p.key, p.name, next⟩ := by
    rw [← hF1]
    exact lookF_set _ _ _ hin
  have hentsO : ∀ G : Forest, entsOf G (atN N 1) = lookF G p.tb := fun G => by
    have : (atN N 1).tb = some p.tb := by rw [← show p.v = atN N 1 by rw [hp]]; exact hpt.1
    unfold entsOf
    rw [this]
  have hentsK : ∀ G : Forest, entsK G (atN N 1) = lookF G p.tb := fun G => by unfold entsK; rw [if_pos r1, hentsO]
  have hkey : p.key = keyS s := by rw [hp]
  have hname : p.name = s := by rw [hp]
  have hget : ∀ key, key = keyS s → getL (lookF F1 p.tb) key = some ⟨p.key, p.name, next⟩ := fun key e => by
    rw [hlk]
    exact getL_putL (by rw [e]; exact hkey) (hT1.look hin).1
  have hfp := find_one (N := N1) (F := F1) ho hpo
  rw [hat1, if_neg (by rw [r1]; simp), hentsO, hget _ hko] at hfp
  simp only [hatn] at hfp
  have htakeS : takenP N1 F1 ps = .ok (⟨atN N 1, keyS s, s⟩, ⟨p.key, p.name, next⟩) := by
    unfold takenP
    rw [place_one hs hps, hat1, if_neg (by rw [r1]; simp)]
    simp only
    rw [hentsO, hget _ rfl]
  have hplO : placeP N1 F1 po = .ok ⟨atN N 1, keyS o, o⟩ := by
    rw [place_one ho hpo, hat1, if_neg (by rw [r1]; simp)]
  have hren : renameP N1 F1 ps po = movedP N1 F1 ⟨atN N 1, keyS s, s⟩ ⟨atN N 1, keyS o, o⟩ next := by
    unfold renameP
    rw [htakeS]
    simp only
    rw [hplO]
    simp only
    unfold goesP
    simp only
    have hwi : withinP N1 N1.length (atN N 1).id (atN N1 next).id = false := by
      rw [r4, hatn]
      exact within_none N1 _ 1 next fun j _ => by rw [hG1.whole.linked.stay j]; exact fun e => hn1 e.symm
    rw [hwi]
    simp only [Bool.and_false, Bool.false_eq_true, if_false]
    have htb : PL.tb ⟨atN N 1, keyS o, o⟩ = p.tb := by unfold PL.tb; rw [show p.v = atN N 1 by rw [hp]]
    rw [htb, hget _ hko]
    simp only
    rw [hko]
    simp
  have htbs : PL.tb ⟨atN N 1, keyS s, s⟩ = p.tb ∧ PL.tb ⟨atN N 1, keyS o, o⟩ = p.tb := by
    unfold PL.tb
    rw [show p.v = atN N 1 by rw [hp]]
    exact ⟨rfl, rfl⟩
  have hin1 : p.tb ∈ F1.map (·.1) := by rw [← hF1]; unfold putF; rw [setF_keys]; exact hin
  refine ⟨hG1, ⟨_, hfp, rfl⟩, ?_, ?_, ?_, (hG1.goo.rename (by omega) ps po).fits, ?_⟩
  · rw [hat1, hentsK, hlk]
    have := named_has (putL_has (lookF ((tb, []) :: F) p.tb) ⟨p.key, p.name, next⟩)
    rw [hname] at this
    rw [hname]
    exact this
  · unfold freeP
    rw [hplO]
    simp only
    rw [hentsO, hget _ hko]
    rfl
  · rw [hren]; rfl
  · rw [hren]
    unfold movedP
    simp only
    rw [htbs.1, htbs.2]
    have h2 : atN (moveN N1 next (atN N 1).id) 1 = atN N 1 := by
      unfold moveN
      split
      · unfold atN at hat1 ⊢
        rw [findN_put_other]
        · exact hat1
        · simp only
          have : (atN N1 next).id = next := by rw [hatn]
          unfold atN at this
          rw [this]
          exact fun e => hn1 e.symm
      · exact hat1
    rw [h2, hentsK]
    have h3 : lookF (putF (dropF F1 p.tb (keyS s)) p.tb ⟨keyS o, o, next⟩) p.tb = putL (lookF (dropF F1 p.tb (keyS s)) p.tb) ⟨keyS o, o, next⟩ := lookF_set _ _ _ (by unfold dropF; rw [setF_keys]; exact hin1)
    rw [h3]
    exact named_has (putL_has _ ⟨keyS o, o, next⟩)

theorem append47 (s : ByteArray) : ((⟨#[47]⟩ : ByteArray) ++ s).data.toList = 47 :: s.data.toList := by simp
theorem errV_shape (o : Option Int) : ∃ t v, errV o = .iface t v ∨ errV o = .nilIface := by
  cases o with
  | none => exact ⟨0, .nilIface, .inr rfl⟩
  | some k => exact ⟨_, _, .inl rfl⟩

set_option maxHeartbeats 8000000 in
theorem topName_walk (va : Value) (na : Nat) (fa : Nat → ActD) (s : ByteArray) (W : World) (hR : Ready W) (hA : ActsOk W va na fa) :
    Calls Tryz.prog 6 #[va, .string s] W fun e w' => e = .returned (.bool true) ∧ Below W.heap.size W w' := by
  have hmade := made_calls hR (H0.start W) (Nat.le_refl _)
  have hgr := fun w1 (h1 : H0 W w1 []) => grown_calls hR h1 va na fa hA
  have HMd := hide hmade
  have HGr := hide hgr
  have HR := hide hR
  clear hmade hgr hA hR
  go_enter Tryz.func6, Tryz.ntmps6
  go_wp2_with fail
  refine (unhide HMd).mono ?_
  rintro e w1 ⟨rfl, h1⟩
  have H1 := hide h1
  clear h1 HMd
  go_wp2_with fail
  refine (unhide HGr w1 (unhide H1)).mono ?_
  rintro e w2 (⟨rfl, h2⟩ | ⟨fb, mb, N, F, next, rfl, h2, hG⟩)
  · have H2 := hide h2
    clear h2 HGr H1
    go_wp2_with fail
    go_ret
    exact ⟨rfl, H0.below (unhide H2)⟩
  clear HGr H1
  by_cases hs : 60 < s.size
  · have hsz : (60 : Int) < (s.size : Int) := by omega
    have H2 := hide h2
    clear h2 hG
    go_wp2_with fail
    go_ret
    exact ⟨rfl, (unhide H2).below⟩
  have hsz : ¬ (60 : Int) < (s.size : Int) := by omega
  have hck := check_spec s w2 (h2.ready (unhide HR)) (by omega)
  have H2 := hide h2
  have HG := hide hG
  have HCk := hide hck
  clear h2 hG hck
  cases hc : checkP s with
  | some k =>
    rw [hc] at HCk
    simp only [errV] at HCk
    go_wp2_with fail
    refine (unhide HCk).mono ?_
    rintro e w3 ⟨rfl, hb3⟩
    have H3 := hide ((unhide H2).step hb3)
    clear hb3 HCk H2
    go_wp2_with fail
    go_ret
    exact ⟨rfl, (unhide H3).below⟩
  | none =>
    rw [hc] at HCk
    simp only [errV] at HCk
    have hnm := name_of_check hc
    obtain ⟨hco, hko⟩ := check_swapped hc
    have hsw := fun wx => swapped_calls (signsOf s) wx hnm.1.small (by have := hnm.1.short; omega)
    rw [← hnm.2.1] at hsw
    have hosz : (encS ((signsOf s).map swapZ)).size ≤ 100 := by
      rw [encS_size]
      have h1 := (encL_len ((signsOf s).map swapZ) (fun r hr => by obtain ⟨q, hq, rfl⟩ := List.mem_map.1 hr; exact swap_small (hnm.1.small q hq))).2
      rw [List.length_map] at h1
      have := hnm.1.short
      omega
    generalize encS ((signsOf s).map swapZ) = o at hco hko hsw hosz
    have Hsw := hide hsw
    have Hc := hide hc
    have Hco := hide hco
    have Hko := hide hko
    clear hsw hc hco hko hnm
    go_wp2_with fail
    refine (unhide HCk).mono ?_
    rintro e w3 ⟨rfl, hb3⟩
    have H3 := hide ((unhide H2).step hb3)
    clear hb3 HCk H2
    go_wp2_with fail
    refine (unhide Hsw _).mono ?_
    rintro e w4 ⟨rfl, hb4⟩
    have h4 := (unhide H3).step hb4
    clear hb4 Hsw H3
    have hps : ((⟨#[47]⟩ : ByteArray) ++ s).size ≤ 200 := by rw [Lib.size_eq, append47, List.length_cons, ← Lib.size_eq]; omega
    have hpo : ((⟨#[47]⟩ : ByteArray) ++ o).size ≤ 200 := by rw [Lib.size_eq, append47, List.length_cons, ← Lib.size_eq]; omega
    have Eps : Hid (((⟨#[47]⟩ : ByteArray) ++ s).data.toList = 47 :: s.data.toList) := append47 s
    have Epo : Hid (((⟨#[47]⟩ : ByteArray) ++ o).data.toList = 47 :: o.data.toList) := append47 o
    have hmk := mkdir_calls W w4 fb mb N F next [] (unhide HR) h4 (unhide HG).fits ((⟨#[47]⟩ : ByteArray) ++ s) (by omega)
    clear h4
    cases hfr : freeP N F ((⟨#[47]⟩ : ByteArray) ++ s) with
    | error k =>
      have hm2 : Calls Tryz.prog 24 #[.pointer (some ⟨fb, 0, none⟩), .string ((⟨#[47]⟩ : ByteArray) ++ s)] w4 fun e w' => e = .returned (.iface 86 (.int .i64 k)) ∧ FSIn W w' fb mb N F next [] := hmk.mono fun e w' hE => by
        unfold AddFolderEnd at hE
        rw [hfr] at hE
        exact hE
      have HM := hide hm2
      clear hmk hm2 hfr
      go_wp2_with fail
      refine (unhide HM).mono ?_
      rintro e w5 ⟨rfl, h5⟩
      have H5 := hide h5
      clear h5 HM
      go_wp2_with fail
      go_ret
      exact ⟨rfl, (unhide H5).below⟩
    | ok p =>
      by_cases hfull : 16 ≤ N.length ∨ 999 < next
      · have hm2 : Calls Tryz.prog 24 #[.pointer (some ⟨fb, 0, none⟩), .string ((⟨#[47]⟩ : ByteArray) ++ s)] w4 fun e w' => e = .returned (.iface 86 (.int .i64 9)) ∧ FSIn W w' fb mb N F next [] := hmk.mono fun e w' hE => by
          unfold AddFolderEnd at hE
          rw [hfr] at hE
          simp only at hE
          rw [if_pos hfull] at hE
          exact hE
        have HM := hide hm2
        clear hmk hm2 hfr hfull
        go_wp2_with fail
        refine (unhide HM).mono ?_
        rintro e w5 ⟨rfl, h5⟩
        have H5 := hide h5
        clear h5 HM
        go_wp2_with fail
        go_ret
        exact ⟨rfl, (unhide H5).below⟩
      have hm2 : Calls Tryz.prog 24 #[.pointer (some ⟨fb, 0, none⟩), .string ((⟨#[47]⟩ : ByteArray) ++ s)] w4 fun e w' => e = .returned .nilIface ∧ ∃ N1 F1, FSIn W w' fb mb N1 F1 (next + 1) [] ∧ Good 61 N1 F1 (next + 1) ∧ (∃ u, findP N1 F1 ((⟨#[47]⟩ : ByteArray) ++ o) = .ok u ∧ u.id = next) ∧ namedB (entsK F1 (atN N1 1)) s next = true ∧ freeP N1 F1 ((⟨#[47]⟩ : ByteArray) ++ o) = .error 6 ∧
            (renameP N1 F1 ((⟨#[47]⟩ : ByteArray) ++ s) ((⟨#[47]⟩ : ByteArray) ++ o)).1 = none ∧ Fits (renameP N1 F1 ((⟨#[47]⟩ : ByteArray) ++ s) ((⟨#[47]⟩ : ByteArray) ++ o)).2.1 (renameP N1 F1 ((⟨#[47]⟩ : ByteArray) ++ s) ((⟨#[47]⟩ : ByteArray) ++ o)).2.2 (next + 1) ∧
            namedB (entsK (renameP N1 F1 ((⟨#[47]⟩ : ByteArray) ++ s) ((⟨#[47]⟩ : ByteArray) ++ o)).2.2 (atN (renameP N1 F1 ((⟨#[47]⟩ : ByteArray) ++ s) ((⟨#[47]⟩ : ByteArray) ++ o)).2.1 1)) o next = true := hmk.mono fun e w' hE => by
        unfold AddFolderEnd at hE
        rw [hfr] at hE
        simp only at hE
        rw [if_neg hfull] at hE
        obtain ⟨he, tb, hI⟩ := hE
        exact ⟨he, _, _, hI, name_facts (unhide HG) (by omega) (unhide Hc) (unhide Hco) (unhide Hko) (append47 s) (append47 o) hfr hfull (fresh_of (G := F) hI) rfl rfl⟩
      have HM := hide hm2
      have hn999 : 0 ≤ next ∧ next ≤ 999 := ⟨by have := (unhide HG).fits.next; omega, by omega⟩
      clear hmk hm2 hfr hfull HG Hc Hko
      go_wp2_with fail
      refine (unhide HM).mono ?_
      rintro e w5 ⟨rfl, N1, F1, h5, hG1, ⟨u, hu, hid⟩, hnm, hfree, hr1, hr2, hr3⟩
      have hfd := fsFind_calls W w5 fb mb N1 F1 (next + 1) [] (unhide HR) h5 hG1.fits ((⟨#[47]⟩ : ByteArray) ++ o) (by omega)
      rw [hu] at hfd
      unfold findRet at hfd
      simp only [resN, resE, errV, hid] at hfd
      have HFd := hide hfd
      have HG1 := hide hG1
      have Hnm := hide hnm
      have Hfree := hide hfree
      have Hr1 := hide hr1
      have Hr2 := hide hr2
      have Hr3 := hide hr3
      clear h5 hG1 hu hid hnm hfree hr1 hr2 hr3 hfd HM
      go_wp2_with fail
      refine (unhide HFd).mono ?_
      rintro e w6 ⟨rfl, h6⟩
      have h7 := h6.made 33 [.int .i64 next, .int .i64 u.kind, .int .i64 u.up, .int .i64 u.links, .string u.text]
      obtain ⟨B, hB⟩ : ∃ B, w6.heap.size = B := ⟨_, rfl⟩
      rw [hB] at h7
      have hnd := named_calls h7 (unhide HG1).fits s next
      rw [unhide Hnm] at hnd
      have HNd := hide hnd
      clear h6 h7 hnd HFd Hnm
      go_wp2_with fail
      refine (unhide HNd).mono ?_
      rintro e w8 ⟨rfl, h8⟩
      have hmk := mkdir_calls W w8 fb mb N1 F1 (next + 1) _ (unhide HR) h8 (unhide HG1).fits ((⟨#[47]⟩ : ByteArray) ++ o) (by omega)
      unfold AddFolderEnd at hmk
      rw [unhide Hfree] at hmk
      have HMk := hide hmk
      have hno := fun wx => number_calls (some 6) wx
      simp only [errV, Option.getD_some] at hno
      have HNo := hide hno
      clear h8 hmk HNd hno
      go_wp2_with fail
      refine (unhide HMk).mono ?_
      rintro e w9 ⟨rfl, h9⟩
      have H9 := hide h9
      clear h9 HMk
      go_wp2_with fail
      refine (unhide HNo _).mono ?_
      rintro e wx ⟨rfl, hwx⟩
      have hwx := hwx.symm
      subst hwx
      have hck := check_spec o w9 ((unhide H9).ready (unhide HR)) (by omega)
      rw [unhide Hco] at hck
      simp only [errV] at hck
      have HCk := hide hck
      clear hck HNo
      go_wp2_with fail
      refine (unhide HCk).mono ?_
      rintro e w10 ⟨rfl, hb10⟩
      have h10 := (unhide H9).step hb10
      have hrn := rename_calls W w10 fb mb N1 F1 (next + 1) _ (unhide HR) h10 (unhide HG1).fits ((unhide HG1).million (by omega)) ((⟨#[47]⟩ : ByteArray) ++ s) ((⟨#[47]⟩ : ByteArray) ++ o) (by omega) (by omega)
      rw [unhide Hr1] at hrn
      simp only [errV] at hrn
      have Hr2' := hide (unhide Hr2)
      have Hr3' := hide (unhide Hr3)
      generalize (renameP N1 F1 ((⟨#[47]⟩ : ByteArray) ++ s) ((⟨#[47]⟩ : ByteArray) ++ o)).2.1 = N2 at hrn Hr2' Hr3'
      generalize (renameP N1 F1 ((⟨#[47]⟩ : ByteArray) ++ s) ((⟨#[47]⟩ : ByteArray) ++ o)).2.2 = F2 at hrn Hr2' Hr3'
      have HRn := hide hrn
      clear h10 hb10 hrn H9 HCk Hr1 Hr2 Hr3
      go_wp2_with fail
      refine (unhide HRn).mono ?_
      rintro e w11 ⟨rfl, h11⟩
      have b0 := h11.cellAt (b := B) (.head _) (j := 0) rfl
      have hnd := named_calls h11 (unhide Hr2') o next
      rw [unhide Hr3'] at hnd
      have HNd := hide hnd
      clear h11 hnd HRn
      go_wp2_with fail
      refine (unhide HNd).mono ?_
      rintro e w12 ⟨rfl, h12⟩
      have H12 := hide h12
      clear h12 HNd
      go_wp2_with fail
      go_ret
      exact ⟨rfl, (unhide H12).below⟩
end Go.Proofs.YtjpmomklkkifjaaGreatDoor.T
