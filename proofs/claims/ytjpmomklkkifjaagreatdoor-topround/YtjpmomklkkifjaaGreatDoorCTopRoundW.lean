/-
  The walk of TopRound: no folder comes into itself.
-/
import Derived.Test.YtjpmomklkkifjaaGreatDoorCISameFs
import Derived.Test.YtjpmomklkkifjaaGreatDoorCIRound
import Derived.Test.YtjpmomklkkifjaaGreatDoorCISort
import Derived.Test.YtjpmomklkkifjaaGreatDoorCBWalkA
namespace Go.Proofs.YtjpmomklkkifjaaGreatDoor.T
open Go.RowKit
set_option maxRecDepth 100000
set_option linter.unusedVariables false
set_option linter.unusedSimpArgs false

theorem more47 (s r : ByteArray) : ((s ++ ⟨#[47]⟩) ++ r : ByteArray).data.toList = s.data.toList ++ 47 :: r.data.toList := by simp
theorem findRet_ok (u : NV) : findRet (.ok u) = .tuple #[.agg #[.int .i64 u.id, .int .i64 u.kind, .int .i64 u.up, .int .i64 u.links, .string u.text], .nilIface] := rfl
theorem findRet_error (k : Int) : findRet (.error k) = .tuple #[.agg #[.int .i64 0, .int .i64 0, .int .i64 0, .int .i64 0, .string ⟨#[]⟩], .iface 86 (.int .i64 k)] := rfl
theorem number_some (k : Int) (w : World) : Calls Tryz.prog 22 #[.iface 86 (.int .i64 k)] w fun e w' => e = .returned (.int .i64 k) ∧ w' = w := number_calls (some k) w

set_option maxHeartbeats 16000000 in
theorem topRound_walk (va : Value) (na : Nat) (fa : Nat → ActD) (s r : ByteArray) (W : World) (hR : Ready W) (hA : ActsOk W va na fa) :
    Calls Tryz.prog 8 #[va, .string s, .string r] W fun e w' => e = .returned (.bool true) ∧ Below W.heap.size W w' := by
  have hmade := made_calls hR (H0.start W) (Nat.le_refl _)
  have hgr := fun w1 (h1 : H0 W w1 []) => grown_calls hR h1 va na fa hA
  have HMd := hide hmade
  have HGr := hide hgr
  have HR := hide hR
  clear hmade hgr hA hR
  go_enter Tryz.func8, Tryz.ntmps8
  go_wp2_with fail
  refine (unhide HMd).mono ?_
  rintro e w1 ⟨rfl, h1⟩
  have H1 := hide h1
  clear h1 HMd
  go_wp2_with fail
  refine (unhide HGr w1 (unhide H1)).mono ?_
  rintro e w2 (⟨rfl, h2⟩ | ⟨fb, mb, N, F, next, rfl, h2, hG⟩)
  · have H2 := hide h2
    clear h2 HGr H1
    go_wp2_with fail
    go_ret
    exact ⟨rfl, H0.below (unhide H2)⟩
  clear HGr H1
  by_cases hs : 100 < s.size
  · have hsz : (100 : Int) < (s.size : Int) := by omega
    have H2 := hide h2
    clear h2 hG
    go_wp2_with fail
    go_ret
    exact ⟨rfl, (unhide H2).below⟩
  have hsz : ¬ (100 : Int) < (s.size : Int) := by omega
  by_cases hr : 40 < r.size
  · have hrz : (40 : Int) < (r.size : Int) := by omega
    have H2 := hide h2
    clear h2 hG
    go_wp2_with fail
    go_ret
    exact ⟨rfl, (unhide H2).below⟩
  have hrz : ¬ (40 : Int) < (r.size : Int) := by omega
  have hck := check_spec r w2 (h2.ready (unhide HR)) (by omega)
  have H2 := hide h2
  have HG := hide hG
  have HCk := hide hck
  clear h2 hG hck
  cases hc : checkP r with
  | some k =>
    rw [hc] at HCk
    simp only [errV] at HCk
    go_wp2_with fail
    refine (unhide HCk).mono ?_
    rintro e w3 ⟨rfl, hb3⟩
    have H3 := hide ((unhide H2).step hb3)
    clear hb3 HCk H2
    go_wp2_with fail
    go_ret
    exact ⟨rfl, (unhide H3).below⟩
  | none =>
  rw [hc] at HCk
  simp only [errV] at HCk
  have Hc := hide hc
  clear hc
  have hup := fun wx (hx : FSIn W wx fb mb N F next []) => up_calls s wx (hx.ready (unhide HR)) (by omega)
  cases hu : upP s with
  | true =>
    rw [hu] at hup
    have HUp := hide hup
    clear hup hu
    go_wp2_with fail
    refine (unhide HCk).mono ?_
    rintro e w3 ⟨rfl, hb3⟩
    have h3 := (unhide H2).step hb3
    have hu3 := unhide HUp _ h3
    have H3 := hide h3
    have HU3 := hide hu3
    clear hb3 HCk H2 h3 hu3 HUp
    go_wp2_with fail
    refine (unhide HU3).mono ?_
    rintro e w4 ⟨rfl, hb4⟩
    have H4 := hide ((unhide H3).step hb4)
    clear hb4 HU3 H3
    go_wp2_with fail
    go_ret
    exact ⟨rfl, (unhide H4).below⟩
  | false =>
  rw [hu] at hup
  have HUp := hide hup
  have Hu := hide hu
  clear hup hu
  cases hsl : (s.toList == [47]) with
  | true =>
    go_wp2_with fail
    refine (unhide HCk).mono ?_
    rintro e w3 ⟨rfl, hb3⟩
    have h3 := (unhide H2).step hb3
    have hu3 := unhide HUp _ h3
    have H3 := hide h3
    have HU3 := hide hu3
    clear hb3 HCk H2 h3 hu3 HUp
    go_wp2_with fail
    refine (unhide HU3).mono ?_
    rintro e w4 ⟨rfl, hb4⟩
    have H4 := hide ((unhide H3).step hb4)
    clear hb4 HU3 H3
    go_wp2_with fail
    go_ret
    exact ⟨rfl, (unhide H4).below⟩
  | false =>
  have Hsl : Hid (s.data.toList ≠ [47]) := fun e => by
    rw [Lib.toList_data, e] at hsl
    simp at hsl
  go_wp2_with fail
  refine (unhide HCk).mono ?_
  rintro e w3 ⟨rfl, hb3⟩
  have h3 := (unhide H2).step hb3
  have hu3 := unhide HUp _ h3
  have H3 := hide h3
  have HU3 := hide hu3
  clear hb3 HCk H2 h3 hu3 HUp
  go_wp2_with fail
  refine (unhide HU3).mono ?_
  rintro e w4 ⟨rfl, hb4⟩
  have h4 := (unhide H3).step hb4
  have hfd := fsFind_calls W w4 fb mb N F next [] (unhide HR) h4 (unhide HG).fits s (by omega)
  clear hb4 HU3 H3 h4
  cases hf : findP N F s with
  | error k =>
    rw [hf, findRet_error] at hfd
    have HFd := hide hfd
    clear hfd hf
    go_wp2_with fail
    refine (unhide HFd).mono ?_
    rintro e w5 ⟨rfl, h5⟩
    have H5 := hide h5
    clear h5 HFd
    go_wp2_with fail
    go_ret
    exact ⟨rfl, ((unhide H5).alloc _).below⟩
  | ok u =>
  rw [hf, findRet_ok] at hfd
  have HFd := hide hfd
  have Hf := hide hf
  clear hfd hf
  by_cases hk : u.kind = 1
  · have hkz : (u.kind == 1) = true := by simpa using hk
    have Hk := hide hk
    clear hk
    go_wp2_with fail
    refine (unhide HFd).mono ?_
    rintro e w5 ⟨rfl, h5⟩
    have h6 := h5.alloc (.cells #[.int .i64 u.id, .int .i64 u.kind, .int .i64 u.up, .int .i64 u.links, .string u.text] 33)
    have hcp := copyFs_calls h6 (unhide HG).fits (unhide HG).whole.linked.nodup
    have HCp := hide hcp
    clear h5 HFd h6 hcp
    go_wp2_with fail
    refine (unhide HCp).mono ?_
    rintro e w7 ⟨gb, gm, N', F', acc, rs', rfl, hp, ht, hd, hF', h7⟩
    have Hsame : Hid (∀ wx, FSIn W wx fb mb N F next (gR gb gm N' next rs' []) → Calls Tryz.prog 28 #[.pointer (some ⟨fb, 0, none⟩), .pointer (some ⟨gb, 0, none⟩)] wx fun e w' => e = .returned (.bool true) ∧ Below W.heap.size W w') := fun wx hx => same_calls (unhide HR) hx hF' ((unhide HG).rows (by decide)) hp ht hd
    have a1 : ¬ 9223372036854775807 < s.size + 1 := by omega
    have a2 : ((s ++ ⟨#[47]⟩ : ByteArray)).size = s.size + 1 := by rw [ByteArray.size_append]; rfl
    have a3 : ¬ 9223372036854775807 < s.size + 1 + r.size := by omega
    have k1 : ByteArray.size ⟨#[47]⟩ = 1 := rfl
    obtain ⟨t, ht2⟩ : ∃ t, ((s ++ ⟨#[47]⟩) ++ r : ByteArray) = t := ⟨_, rfl⟩
    have htd : t.data.toList = s.data.toList ++ 47 :: r.data.toList := by rw [← ht2, more47]
    have htz : t.size ≤ 4000000000 := by rw [← ht2, ByteArray.size_append, a2]; omega
    have hrn := rename_calls W w7 fb mb N F next _ (unhide HR) h7 (unhide HG).fits ((unhide HG).million (by decide)) s t (by omega) htz
    rw [round_rename (fun e => by have := (unhide HG).whole.linked.at1.2.2.1; rw [e] at this; cases this) (unhide Hu) (unhide Hsl) (unhide Hf) (unhide Hk) (unhide Hc) htd] at hrn
    simp only at hrn
    clear hp ht hd hF' h7 HCp htd
    cases hpt : partsP t with
    | error k =>
      rw [hpt] at hrn
      simp only [errV] at hrn
      have HP := fun wx (hx : FSIn W wx fb mb N F next (gR gb gm N' next rs' [])) => partsE_err (hx.ready (unhide HR)) htz hpt
      have HRn := hide hrn
      have HPt := hide HP
      clear hrn HP hpt htz
      go_wp2_with fail
      refine (unhide HRn).mono ?_
      rintro e w8 ⟨rfl, h8⟩
      have hp8 := unhide HPt _ h8
      have H8 := hide h8
      have HP8 := hide hp8
      clear h8 hp8 HRn HPt
      go_wp2_with fail
      refine (unhide HP8).mono ?_
      rintro e w9 ⟨rfl, hb9⟩
      have H9 := hide ((unhide H8).step hb9)
      clear hb9 HP8 H8
      go_wp2_with fail
      refine (number_some k _).mono ?_
      rintro e w10 ⟨rfl, rfl⟩
      go_wp2_with fail
      refine (number_some k _).mono ?_
      rintro e w10 ⟨rfl, rfl⟩
      go_wp2_with fail
      go_ret
      exact ⟨by simp, (unhide H9).below⟩
    | ok l1 =>
      rw [hpt] at hrn
      simp only [errV] at hrn
      have HP := fun wx (hx : FSIn W wx fb mb N F next (gR gb gm N' next rs' [])) => partsE_fine (hx.ready (unhide HR)) htz hpt
      have HRn := hide hrn
      have HPt := hide HP
      clear hrn HP hpt htz
      go_wp2_with fail
      refine (unhide HRn).mono ?_
      rintro e w8 ⟨rfl, h8⟩
      have hp8 := unhide HPt _ h8
      have H8 := hide h8
      have HP8 := hide hp8
      clear h8 hp8 HRn HPt
      go_wp2_with fail
      refine (unhide HP8).mono ?_
      rintro e w9 ⟨p1, n1, c1, rfl, hb9⟩
      have h9 := (unhide H8).step hb9
      have hs9 := unhide Hsame _ h9
      have HS9 := hide hs9
      clear hb9 HP8 H8 h9 hs9
      go_wp2_with fail
      refine (number_some 8 _).mono ?_
      rintro e w10 ⟨rfl, rfl⟩
      go_wp2_with fail
      refine (unhide HS9).mono ?_
      rintro e w11 ⟨rfl, hb11⟩
      have Hb := hide hb11
      clear hb11 HS9
      go_wp2_with fail
      go_ret
      exact ⟨rfl, unhide Hb⟩
  · have hkz : (u.kind == 1) = false := by simpa using hk
    clear hk Hf
    go_wp2_with fail
    refine (unhide HFd).mono ?_
    rintro e w5 ⟨rfl, h5⟩
    have H5 := hide h5
    clear h5 HFd
    go_wp2_with fail
    go_ret
    exact ⟨rfl, ((unhide H5).alloc _).below⟩
end Go.Proofs.YtjpmomklkkifjaaGreatDoor.T
