/-
  The walk of TopRows: rows of all are read as it.
-/
import Derived.Test.YtjpmomklkkifjaaGreatDoorCISameFs
import Derived.Test.YtjpmomklkkifjaaGreatDoorCBCopied
import Derived.Test.YtjpmomklkkifjaaGreatDoorCBWalkA
import Derived.BigQuiet
import Derived.Deep.QuietTactic
namespace Go.Proofs.YtjpmomklkkifjaaGreatDoor.T
open Go.RowKit
set_option maxRecDepth 100000
set_option linter.unusedVariables false
set_option linter.unusedSimpArgs false

theorem keyS_few {s : ByteArray} (h : checkP s = none) : (keyS s).size ≤ 26 := by
  obtain ⟨hn, _, _⟩ := name_of_check h
  have h1 := hn.few
  have h2 := repl_len _ (foldL (signsOf s)) (Nat.le_refl _)
  have h3 : (foldL (signsOf s)).length = (splitL (signsOf s)).length := by simp [foldL]
  obtain ⟨f1, f2, _, _⟩ := runK_facts (repl (foldL (signsOf s)))
  have h4 : (keyS s).size = (keyZ (repl (foldL (signsOf s)))).length := by
    unfold keyS keyOf keyB toB
    simp [ByteArray.size]
  rw [h4]
  unfold keyZ
  simp only [List.length_append, List.length_cons, List.length_nil]
  omega
theorem name_few {s : ByteArray} (h : checkP s = none) : s.size ≤ 24 := by
  by_cases h1 : s.size = 0 ∨ 24 < s.size
  · rw [checkP_size h1] at h; simp at h
  · omega
theorem told_three {k : Nat} (h : k < 100) : (toldS k).size = 3 := by
  rw [Lib.size_eq, told_list ⟨k, h⟩]; rfl
def RowOk (c : CH) : Prop := c.key ≠ ⟨#[]⟩ ∧ c.key.size ≤ 48 ∧ c.val.size ≤ 44 ∧ c.gone = false
theorem one_app_ne {x : UInt8} {s : ByteArray} : (⟨#[x]⟩ ++ s : ByteArray) ≠ ⟨#[]⟩ := fun h => by
  have := congrArg ByteArray.size h
  rw [ByteArray.size_append] at this
  have h1 : (⟨#[x]⟩ : ByteArray).size = 1 := rfl
  have h2 : (⟨#[]⟩ : ByteArray).size = 0 := rfl
  omega
theorem one_size {x : UInt8} : (⟨#[x]⟩ : ByteArray).size = 1 := rfl
theorem RowsOk.row {N : List NV} {F : Forest} {next : Int} (h : RowsOk N F next) {c : CH} (hc : c ∈ rowsOf F next N) : RowOk c := by
  unfold rowsOf at hc
  rcases List.mem_cons.1 hc with e | hc
  · subst e
    have := h.top
    refine ⟨fun e => by have := congrArg ByteArray.size e; exact absurd this (by show ¬ (1 : Nat) = 0; omega), by show (1 : Nat) ≤ 48; omega, ?_, rfl⟩
    show (toldS next.toNat).size ≤ 44
    rw [told_three (by omega)]; omega
  · obtain ⟨v, hv, hc⟩ := List.mem_flatMap.1 hc
    have hi := h.ids v hv
    rcases ofNode_keys hc with e | ⟨x, hx, e⟩
    · subst e
      have := h.ups v hv
      have := h.links v hv
      have := h.text v hv
      refine ⟨one_app_ne, ?_, ?_, rfl⟩
      · show (⟨#[110]⟩ ++ toldS v.id.toNat : ByteArray).size ≤ 48
        rw [ByteArray.size_append, told_three (by omega), one_size]; omega
      · show (((⟨#[if v.kind = 1 then 100 else 102]⟩ ++ toldS v.up.toNat) ++ toldS v.links.toNat) ++ v.text : ByteArray).size ≤ 44
        rw [ByteArray.size_append, ByteArray.size_append, ByteArray.size_append, told_three (by omega), told_three (by omega), one_size]; omega
    · subst e
      obtain ⟨_, hx2, hx3⟩ := h.ents v hv x hx
      have h1 := keyS_few hx2
      have h2 := name_few hx2
      have h0 : ((entCh v.id x).key).size = 4 + (keyS x.name).size := by
        show ((⟨#[101]⟩ ++ toldS v.id.toNat) ++ keyS x.name : ByteArray).size = _
        rw [ByteArray.size_append, ByteArray.size_append, told_three (by omega), one_size]
      refine ⟨fun e => by rw [e] at h0; have h4 : (⟨#[]⟩ : ByteArray).size = 0 := rfl; omega, by omega, ?_, rfl⟩
      show (toldS x.node.toNat ++ x.name : ByteArray).size ≤ 44
      rw [ByteArray.size_append, told_three (by omega)]; omega
theorem rise {R : List CH} (hs : R.Pairwise fun a b => ¬ kLt b.key a.key) (hn : (R.map CH.key).Nodup) {j : Nat} {a b : CH} (ha : R[j]? = some a) (hb : R[j + 1]? = some b) : kLt a.key b.key := by
  obtain ⟨h1, e1⟩ := List.getElem?_eq_some_iff.1 ha
  obtain ⟨h2, e2⟩ := List.getElem?_eq_some_iff.1 hb
  have hk := List.pairwise_iff_getElem.1 hs j (j + 1) h1 h2 (by omega)
  have hne := List.pairwise_iff_getElem.1 (List.pairwise_map.1 hn) j (j + 1) h1 h2 (by omega)
  rw [e1, e2] at hk hne
  have n1 : cmpB a.key b.key ≠ 0 := fun e => hne ((cmpB_zero _ _).1 e)
  have := cmpB_neg a.key b.key
  unfold kLt at hk ⊢
  omega

set_option maxHeartbeats 16000000 in
theorem topRows_walk (va : Value) (na : Nat) (fa : Nat → ActD) (W : World) (hR : Ready W) (hA : ActsOk W va na fa) :
    Calls Tryz.prog 11 #[va] W fun e w' => e = .returned (.bool true) ∧ Below W.heap.size W w' := by
  have hmade := made_calls hR (H0.start W) (Nat.le_refl _)
  have hgr := fun w1 (h1 : H0 W w1 []) => grown_calls hR h1 va na fa hA
  have HMd := hide hmade
  have HGr := hide hgr
  have HR := hide hR
  clear hmade hgr hA hR
  go_enter Tryz.func11, Tryz.ntmps11
  go_wp2_with fail
  refine (unhide HMd).mono ?_
  rintro e w1 ⟨rfl, h1⟩
  have H1 := hide h1
  clear h1 HMd
  go_wp2_with fail
  refine (unhide HGr w1 (unhide H1)).mono ?_
  rintro e w2 (⟨rfl, h2⟩ | ⟨fb, mb, N, F, next, rfl, h2, hG⟩)
  · have H2 := hide h2
    clear h2 HGr H1
    go_wp2_with fail
    go_ret
    exact ⟨rfl, H0.below (unhide H2)⟩
  clear HGr H1
  have hO := hG.rows (by omega)
  have hrw := rows_calls (unhide HR) h2 hO
  have HRw := hide hrw
  have HG := hide hG
  have HO := hide hO
  clear h2 hG hrw hO
  go_wp2_with fail
  refine (unhide HRw).mono ?_
  rintro e w3 ⟨v, R, rfl, hp, hs, h3⟩
  obtain ⟨n, hn⟩ : ∃ n, R.length = n := ⟨_, rfl⟩
  have hnl : n ≤ 1000 := by rw [← hn, hp.length_eq]; exact (unhide HO).many
  have hn0 : 0 < n := by rw [← hn, hp.length_eq]; simp [rowsOf]
  have hall : ∀ c ∈ R, RowOk c := fun c hc => (unhide HO).row (hp.mem_iff.1 hc)
  have hkeys : (R.map CH.key).Nodup := (hp.map CH.key).nodup_iff.2 (unhide HO).keys
  have hrow := h3.rowAt (v := v) (e := 69) (k := 3) (.head _)
  obtain ⟨g, cap, rfl, _⟩ := row_shape hrow (by omega)
  rw [hn]
  have HAll := hide hall
  have HKeys := hide hkeys
  have Hp := hide hp
  have Hs := hide hs
  have Hn := hide hn
  have H3 : Hid (FSIn W w3 fb mb N F next (rowCh (.slice (some ⟨g, 0, none⟩) R.length cap) R :: [])) := h3
  clear hall hkeys hp hs hn h3 HRw hrow hn0
  go_wp2_with fail
  go_loopg [6] (n + 1) (fun k vi wr => ∃ i : Nat, n - i < k ∧ i ≤ n ∧ vi = .int .i64 i ∧ Hid (FSIn W wr fb mb N F next (rowCh (.slice (some ⟨g, 0, none⟩) R.length cap) R :: [])))
  case atStart => exact ⟨0, by omega, by omega, rfl, H3⟩
  case round =>
    obtain ⟨i, hg, hi, rfl, HI⟩ := hrel
    clear H3
    by_cases hin : i < n
    · have hiz : (i : Int) < (n : Int) := by omega
      have hil : i < R.length := by rw [unhide Hn]; exact hin
      obtain ⟨c, hc⟩ : ∃ c, R[i]? = some c := ⟨R[i]'hil, by simp [hil]⟩
      have hrow := (unhide HI).rowAt (e := 69) (k := 3) (.head _)
      rw [unhide Hn] at hrow
      obtain ⟨c0, c1, c2⟩ := ch_cell hrow hc
      obtain ⟨q0, q1, q2, q3⟩ := unhide HAll c (List.mem_of_getElem? hc)
      rw [q3] at c2
      obtain ⟨ck, hck⟩ : ∃ ck, c.key = ck := ⟨_, rfl⟩
      obtain ⟨cv, hcv⟩ : ∃ cv, c.val = cv := ⟨_, rfl⟩
      rw [hck] at c0 q0 q1
      rw [hcv] at c1 q2
      have q0e : ck.toList.isEmpty = false := by
        cases hl : ck.toList with
        | nil => exact absurd (bytes_ext ((Go.Lib.toList_data ck).symm.trans hl)) q0
        | cons a b => rfl
      have q1z : decide ((48 : Int) < (ck.size : Int)) = false := decide_eq_false (by omega)
      have q2z : decide ((44 : Int) < (cv.size : Int)) = false := decide_eq_false (by omega)
      by_cases hi0 : i = 0
      · subst hi0
        clear hc hrow hil hck hcv q0 q1 q2 q3
        go_wp2_with fail
        go_quiet (fail)
        go_wp2_with fail
        go_roundg (n - 0)
        case measure => omega
        case rel => exact ⟨1, by omega, by omega, by simp, (unhide HI).drewN _⟩
      · obtain ⟨d, hd⟩ : ∃ d, R[i - 1]? = some d := ⟨R[i - 1]'(by omega), List.getElem?_eq_getElem (by omega)⟩
        obtain ⟨e0, e1, e2⟩ := ch_cell hrow hd
        have hk : kLt d.key c.key := rise (unhide Hs) (unhide HKeys) hd (by rw [Nat.sub_add_cancel (by omega)]; exact hc)
        rw [hck] at hk
        obtain ⟨dk, hdk⟩ : ∃ dk, d.key = dk := ⟨_, rfl⟩
        rw [hdk] at e0 hk
        obtain ⟨g1, g2⟩ := greater_yes hk
        have g3 : (ck.toList == dk.toList) = false := by simpa using g2
        have hp0 : (0 : Int) < (i : Int) := by omega
        have hp1 : decide ((0 : Int) < (i : Int)) = true := decide_eq_true hp0
        have hp2 : 0 < i := by omega
        have hw1 : IntKind.i64.wrap ((i : Int) - 1) = (i : Int) - 1 := by rw [IntKind.wrap_i64]; omega
        have htn : ((i : Int) - 1).toNat = i - 1 := by omega
        have hge : (0 : Int) ≤ (i : Int) - 1 := by omega
        have hlt : (i : Int) - 1 < (n : Int) := by omega
        clear hc hrow hil hck hcv q0 q1 q2 q3 hd hdk hk
        go_wp2_with fail
        go_quiet (fail)
        go_wp2_with fail
        go_roundg (n - i)
        case measure => omega
        case rel => exact ⟨i + 1, by omega, by omega, by simp, (unhide HI).drewN _⟩
    · have hiz : ¬ (i : Int) < (n : Int) := by omega
      obtain ⟨rs, hrs, h4⟩ := unhide HI
      have hps := parse_calls (l0 := gR fb mb N next rs [rowCh (.slice (some ⟨g, 0, none⟩) R.length cap) R]) (unhide HR) (unhide HG).whole (unhide HO) h4 (va := .slice (some ⟨g, 0, none⟩) R.length cap) (R := R) (by simp [gR]) (unhide Hp) (unhide Hs)
      rw [unhide Hn] at hps
      have HPs := hide hps
      have HSm : Hid (∀ wx gb gm N' F' acc, acc.Perm N → Twins F F' acc N' → Drawn F F' → FSIn W wx gb gm N' F' next (gR fb mb N next rs [rowCh (.slice (some ⟨g, 0, none⟩) n cap) R]) → Calls Tryz.prog 28 #[.pointer (some ⟨fb, 0, none⟩), .pointer (some ⟨gb, 0, none⟩)] wx fun e w' => e = .returned (.bool true) ∧ Below W.heap.size W w') := fun wx gb gm N' F' acc h1 h2 h3 hx => by
        obtain ⟨rs', hrs', hy⟩ := FSIn.swap hrs hx
        exact same_calls (unhide HR) hy hrs' (unhide HO) h1 h2 h3
      clear hrs h4 hps HI
      go_wp2_with fail
      refine (unhide HPs).mono ?_
      rintro e w5 ⟨gb, gm, N', F', acc, rfl, h1, h2, h3, h4⟩
      have HS := hide (unhide HSm w5 gb gm N' F' acc h1 h2 h3 h4)
      clear h1 h2 h3 h4 HSm HPs
      go_wp2_with fail
      refine (unhide HS).mono ?_
      rintro e w6 ⟨rfl, h6⟩
      have H6 := hide h6
      clear h6 HS
      go_wp2_with fail
      go_ret
      exact ⟨rfl, unhide H6⟩
end Go.Proofs.YtjpmomklkkifjaaGreatDoor.T
