import Derived.Test.YtjpmomklkkifjaaGreatDoorCBWalkFacts
import Derived.Test.YtjpmomklkkifjaaGreatDoorCBActs
import Derived.Deep.QuietTactic
import Derived.BigQuiet
import Derived.BigRegion
import Derived.Test.YtjpmomklkkifjaaGreatDoorCBTree
set_option maxRecDepth 100000
set_option linter.unusedVariables false
set_option linter.unusedSimpArgs false
namespace Go.Proofs.YtjpmomklkkifjaaGreatDoor.T
open Go.RowKit Go.Lib
def SeeSpecM (base : Nat) (w0 : World) (K0 : Nat → Nat) (mb : Nat) (S : List Item → List Res → Prop) (more : List Item → Bool) : Prop :=
  ∀ (w : World) (acc : List Item) (rs : List Res) (it : Item) (l2 : List Res), S acc rs → acc.length < 1000 → Hold base w0 K0 w (rs ++ l2) →
    Calls Tryz.prog 87 #[.agg #[.string it.name, .int .i64 it.node], .pointer (some ⟨mb, 0, none⟩)] w fun e w' => SeeEnd base w0 K0 S more acc it l2 e w'
def WalkSpecM (base : Nat) (w0 : World) (K0 : Nat → Nat) (mb : Nat) (S : List Item → List Res → Prop) (more : List Item → Bool) (key : ByteArray) (h : Nat) : Prop :=
  ∀ (w : World) (k : Kid) (acc : List Item) (rs : List Res) (l2 : List Res), S acc rs → acc.length + k.L.length ≤ 1000 → Hold base w0 K0 w (rs ++ .sub h k :: l2) → Sorted k.L → k.c ≤ 3 →
    Calls Tryz.prog 85 #[.pointer (some ⟨k.b, 0, none⟩), .string key, .func (.func 87) #[] #[.pointer (some ⟨mb, 0, none⟩)]] w fun e w' => WalkEnd base w0 K0 S more key h k acc l2 e w'
set_option maxRecDepth 100000 in
set_option maxHeartbeats 4000000 in
theorem walkM_leaf (base : Nat) (w0 : World) (K0 : Nat → Nat) (mb : Nat) (S : List Item → List Res → Prop) (more : List Item → Bool) (key : ByteArray) (hsee : SeeSpecM base w0 K0 mb S more) (w : World) (k : Kid) (acc0 : List Item) (rs0 : List Res) (l2 : List Res) (hS : S acc0 rs0) (hlen : acc0.length + k.L.length ≤ 1000) (H : Hold base w0 K0 w (rs0 ++ .sub 0 k :: l2)) (hs : Sorted k.L) (hc : k.c ≤ 3) :
    Calls Tryz.prog 85 #[.pointer (some ⟨k.b, 0, none⟩), .string key, .func (.func 87) #[] #[.pointer (some ⟨mb, 0, none⟩)]] w fun e w' => WalkEnd base w0 K0 S more key 0 k acc0 l2 e w' := by
  obtain ⟨its, kids, v0, v1, hcc, hL, hsh, hfit, hown, H1⟩ := H.openk rs0
  have hk0 : kids = [] := by rcases hsh with ⟨_, h⟩ | ⟨h, _⟩; exact h; omega
  subst hk0
  simp only [List.map_nil, inter_nil] at hL
  obtain ⟨b, hb⟩ : ∃ b, k.b = b := ⟨_, rfl⟩
  obtain ⟨n, hn⟩ : ∃ n, its.length = n := ⟨_, rfl⟩
  have hn3 : n ≤ 3 := by omega
  rw [hL] at hs hlen
  rw [hb] at H1 ⊢
  have e1 := find_calls b v0 its key w (H1.cellAt (b := b) (t := 188) (vs := [v0, v1]) (by simp [nodeR]) (j := 0) rfl) base (H1.rowAt (by simp [rowI])) hs (by omega)
  have E1 := hide e1
  have HH := hide H1
  have HS := hide hS
  have Hsee := hide hsee
  have Hs := hide hs
  have HL := hide hL
  have Hcc := hide hcc
  have Hown := hide hown
  have Hb := hide hb
  have Hn := hide hn
  clear e1 H H1 hS hsee hs hL hcc hown hsh hfit hb hn
  go_enter Tryz.func85, Tryz.ntmps85
  go_wp2_with fail
  refine (unhide E1).mono ?_
  rintro e w2 ⟨at', is', rfl, hF, hB⟩
  have H3 := hide ((unhide HH).below hB)
  have han : at' ≤ n := by have := unhide Hn; have := hF.1; omega
  have Hst : Hid (tell more acc0 (afterL its key) = tell more acc0 (afterL (its.drop at') key)) := by
    have := after_from (its := its) (ls := []) (key := key) (.inl rfl) (by rw [inter_nil]; exact unhide Hs) hF.1 hF.2.1
    rw [inter_nil, rest_leaf] at this
    show _ = _
    rw [this]
  clear HH hB E1 hF
  go_wp2_with fail
  go_loopg [9] (n + 2) (fun g vi wr => ∃ (i : Nat) (acc : List Item) (rs : List Res), n + 1 - i < g ∧ i ≤ n + 1 ∧ vi = .int .i64 i ∧ acc.length + (its.drop i).length ≤ 1000 ∧ Hid (S acc rs) ∧ Hid (tell more acc0 (afterL its key) = tell more acc (afterL (its.drop i) key)) ∧ Hid (Hold base w0 K0 wr (rs ++ nodeR b v0 v1 :: rowI v0 its :: rowN v1 [] :: .subs (0 - 1) [] :: l2)))
  case atStart => exact ⟨at', acc0, rs0, by omega, by omega, rfl, by rw [List.length_drop]; omega, HS, Hst, H3⟩
  case round =>
    obtain ⟨i, acc, rs, hg, hi, rfl, hal, HSr, HT, HR⟩ := hrel
    have h4 := unhide HR
    have r0 : wr.ownsRow base 190 3 v0 n (flat its) := by have := unhide Hn; rw [← this]; exact h4.rowAt (by simp [rowI])
    have q0 : wr.cell? ⟨b, 0, none⟩ = some v0 := h4.cellAt (t := 188) (vs := [v0, v1]) (by simp [nodeR]) rfl
    have q1 : wr.cell? ⟨b, 1, none⟩ = some v1 := h4.cellAt (t := 188) (vs := [v0, v1]) (by simp [nodeR]) rfl
    have e2 := leaf_calls b v0 v1 0 wr q1 base [] (h4.rowAt (by simp [rowN])) (by omega)
    have E2 := hide e2
    by_cases hin : i < n
    · obtain ⟨g0, cap0, hv0, hc0, hm0⟩ := row_shape r0 (by omega)
      have hin' : i < its.length := by have := unhide Hn; omega
      obtain ⟨x, hx⟩ : ∃ x, its[i]? = some x := ⟨_, List.getElem?_eq_getElem hin'⟩
      rw [hv0] at r0 q0
      obtain ⟨s1, s2, s3⟩ := item_cell r0 (j := i) (x := x) hx
      have hdrop : its.drop i = x :: its.drop (i + 1) := by
        obtain ⟨g2, rfl⟩ := List.getElem?_eq_some_iff.1 hx
        exact List.drop_eq_getElem_cons g2
      have hz : (i : Int) ≤ (n : Int) := by omega
      have hz2 : (i : Int) < (n : Int) := by omega
      have Hdrop := hide hdrop
      clear e2 r0 h4 hx hdrop q1
      by_cases hgt : kLt key x.key
      · obtain ⟨hb1, hb2⟩ := greater_yes hgt
        have hb3 : (x.key.toList == key.toList) = false := by simp [hb2]
        have e3 := unhide Hsee wr acc rs x _ (unhide HSr) (by have := unhide Hdrop; rw [this] at hal; simp at hal; omega) (unhide HR)
        obtain ⟨ans, hans⟩ : ∃ ans, more (acc ++ [x]) = ans := ⟨_, rfl⟩
        have E3 := hide e3
        have HA := hide hans
        clear e3 hans hv0
        go_wp2_with fail
        refine (unhide E2).mono ?_
        rintro e w3 ⟨rfl, rfl⟩
        go_wp2_with fail
        refine (unhide E3).mono ?_
        rintro e w4 ⟨rs', rfl, hS', H5⟩
        rw [unhide HA]
        have HS' := hide hS'
        have HH5 := hide H5
        clear hS' H5 q0 s1 s2 s3 HR E2 E3
        have htell : tell more acc0 (afterL its key) = if ans then tell more (acc ++ [x]) (afterL (its.drop (i + 1)) key) else (acc ++ [x], false) := by
          rw [unhide HT, unhide Hdrop, afterL_cons, if_pos hgt, tell_cons, unhide HA]
        have HTe := hide htell
        clear htell
        cases ans with
        | true =>
          go_wp2_with fail
          go_roundg (n + 1 - i)
          case measure => omega
          case rel => exact ⟨i + 1, acc ++ [x], rs', by omega, by omega, by simp, by have := unhide Hdrop; rw [this] at hal; simp at hal ⊢; omega, HS', (unhide HTe), HH5⟩
        | false =>
          go_wp2_with fail
          go_ret
          have hT := unhide HTe
          simp only [Bool.false_eq_true, if_false] at hT
          refine ⟨rs', by rw [unhide HL, hT]; rfl, by rw [unhide HL, hT]; exact unhide HS', Hold.shutk (v0 := v0) (v1 := v1) rs' (by rw [unhide Hb]; exact unhide HH5) (unhide Hcc) (by rw [unhide HL]; simp [inter_nil]) (.inl ⟨rfl, rfl⟩) (by simp) (unhide Hown)⟩
      · have hb1 := greater_no hgt
        clear hv0
        go_wp2_with fail
        refine (unhide E2).mono ?_
        rintro e w3 ⟨rfl, rfl⟩
        go_wp2_with fail
        go_roundg (n + 1 - i)
        case measure => omega
        case rel => exact ⟨i + 1, acc, rs, by omega, by omega, by simp, by have := unhide Hdrop; rw [this] at hal; simp at hal ⊢; omega, HSr, (by show _ = _; rw [unhide HT, unhide Hdrop, afterL_cons, if_neg hgt]), HR⟩
    · obtain ⟨p0, cap0, hv0⟩ := row_len r0
      rw [hv0] at q0
      have hni : its.drop i = [] := List.drop_eq_nil_of_le (by have := unhide Hn; omega)
      have Hni := hide hni
      clear e2 r0 h4 q1 hni hv0
      have hz2 : ¬ ((i : Int) < (n : Int)) := by omega
      by_cases hin2 : i ≤ n
      · have hz : (i : Int) ≤ (n : Int) := by omega
        go_wp2_with fail
        refine (unhide E2).mono ?_
        rintro e w3 ⟨rfl, rfl⟩
        go_wp2_with fail
        go_roundg (n + 1 - i)
        case measure => omega
        case rel => exact ⟨i + 1, acc, rs, by omega, by omega, by simp, by have := unhide Hni; rw [this] at hal; rw [List.drop_eq_nil_of_le (by have := unhide Hn; omega)]; exact hal, HSr, (by show _ = _; rw [unhide HT, unhide Hni, List.drop_eq_nil_of_le (by have := unhide Hn; omega)]), HR⟩
      · have hz : ¬ ((i : Int) ≤ (n : Int)) := by omega
        go_wp2_with fail
        go_ret
        have hT := unhide HT
        rw [unhide Hni] at hT
        refine ⟨rs, by rw [unhide HL, hT]; rfl, by rw [unhide HL, hT]; exact unhide HSr, Hold.shutk (v0 := v0) (v1 := v1) rs (by rw [unhide Hb]; exact unhide HR) (unhide Hcc) (by rw [unhide HL]; simp [inter_nil]) (.inl ⟨rfl, rfl⟩) (by simp) (unhide Hown)⟩
set_option maxRecDepth 100000 in
set_option maxHeartbeats 4000000 in
theorem walkM_inner (base : Nat) (w0 : World) (K0 : Nat → Nat) (mb : Nat) (S : List Item → List Res → Prop) (more : List Item → Bool) (key : ByteArray) (hsee : SeeSpecM base w0 K0 mb S more) (h : Nat) (ih : WalkSpecM base w0 K0 mb S more key h) (w : World) (k : Kid) (acc0 : List Item) (rs0 : List Res) (l2 : List Res) (hS : S acc0 rs0) (hlen : acc0.length + k.L.length ≤ 1000) (H : Hold base w0 K0 w (rs0 ++ .sub (h + 1) k :: l2)) (hs : Sorted k.L) (hc : k.c ≤ 3) :
    Calls Tryz.prog 85 #[.pointer (some ⟨k.b, 0, none⟩), .string key, .func (.func 87) #[] #[.pointer (some ⟨mb, 0, none⟩)]] w fun e w' => WalkEnd base w0 K0 S more key (h + 1) k acc0 l2 e w' := by
  obtain ⟨its, kids, v0, v1, hcc, hL, hsh, hfit, hown, H1⟩ := H.openk rs0
  have hk0 : kids.length = its.length + 1 := by rcases hsh with ⟨h, _⟩ | ⟨_, h⟩; omega; exact h
  obtain ⟨b, hb⟩ : ∃ b, k.b = b := ⟨_, rfl⟩
  obtain ⟨n, hn⟩ : ∃ n, its.length = n := ⟨_, rfl⟩
  have hn3 : n ≤ 3 := by omega
  have hk1 : (kids.map Kid.L).length = its.length + 1 := by simpa using hk0
  rw [hL] at hs hlen
  rw [hb] at H1 ⊢
  have e1 := find_calls b v0 its key w (H1.cellAt (b := b) (t := 188) (vs := [v0, v1]) (by simp [nodeR]) (j := 0) rfl) base (H1.rowAt (by simp [rowI])) (hs.items (.inr hk1)) (by omega)
  have E1 := hide e1
  have HH := hide H1
  have HS := hide hS
  have Hsee := hide hsee
  have IH := hide ih
  have Hs := hide hs
  have HL := hide hL
  have Hcc := hide hcc
  have Hown := hide hown
  have Hb := hide hb
  have Hn := hide hn
  have Hk0 := hide hk0
  have Hk1 := hide hk1
  have Hsh := hide hsh
  have Hfit := hide hfit
  have Hlen := hide hlen
  clear e1 H H1 hS hsee ih hs hL hcc hown hsh hfit hb hn hk0 hk1 hlen
  go_enter Tryz.func85, Tryz.ntmps85
  go_wp2_with fail
  refine (unhide E1).mono ?_
  rintro e w2 ⟨at', is', rfl, hF, hB⟩
  have H3 := hide ((unhide HH).below hB)
  have han : at' ≤ n := by have := unhide Hn; have := hF.1; omega
  have Hst : Hid (tell more acc0 (afterL (inter its (kids.map Kid.L)) key) = tell more acc0 (afterL (restL its (kids.map Kid.L) at') key)) := by
    show _ = _
    rw [after_from (.inr (unhide Hk1)) (unhide Hs) hF.1 hF.2.1]
  have hal0 : acc0.length + (restL its (kids.map Kid.L) at').length ≤ 1000 := by
    have h1 := unhide Hlen
    have h2 := rest_length its (kids.map Kid.L) at' (.inr (unhide Hk1)) hF.1
    omega
  have Hal0 := hide hal0
  clear HH hB E1 hF hal0
  go_wp2_with fail
  go_loopg [9] (n + 2) (fun g vi wr => ∃ (i : Nat) (acc : List Item) (rs : List Res), n + 1 - i < g ∧ i ≤ n + 1 ∧ vi = .int .i64 i ∧ Hid (acc.length + (restL its (kids.map Kid.L) i).length ≤ 1000) ∧ Hid (S acc rs) ∧ Hid (tell more acc0 (afterL (inter its (kids.map Kid.L)) key) = tell more acc (afterL (restL its (kids.map Kid.L) i) key)) ∧ Hid (Hold base w0 K0 wr (rs ++ nodeR b v0 v1 :: rowI v0 its :: rowN v1 kids :: .subs h kids :: l2)))
  case atStart => exact ⟨at', acc0, rs0, by omega, by omega, rfl, Hal0, HS, Hst, H3⟩
  case round =>
    obtain ⟨i, acc, rs, hg, hi, rfl, Hal, HSr, HT, HR⟩ := hrel
    have h4 := unhide HR
    have r0 : wr.ownsRow base 190 3 v0 n (flat its) := by have := unhide Hn; rw [← this]; exact h4.rowAt (by simp [rowI])
    have q0 : wr.cell? ⟨b, 0, none⟩ = some v0 := h4.cellAt (t := 188) (vs := [v0, v1]) (by simp [nodeR]) rfl
    have q1 : wr.cell? ⟨b, 1, none⟩ = some v1 := h4.cellAt (t := 188) (vs := [v0, v1]) (by simp [nodeR]) rfl
    obtain ⟨p0, cap0, hv0⟩ := row_len r0
    by_cases hin2 : i ≤ n
    · have hz : (i : Int) ≤ (n : Int) := by omega
      have r1 : wr.ownsRow base 128 1 v1 (n + 1) (kids.map fun y => ptrV y.b) := by have h1 := unhide Hn; have h2 := unhide Hk0; rw [← h1, ← h2]; exact h4.rowAt (by simp [rowN])
      have e2 := leaf_calls b v0 v1 (n + 1) wr q1 base _ r1 (by omega)
      rw [show decide (n + 1 = 0) = false from by simp] at e2
      have E2 := hide e2
      obtain ⟨g1, cap1, hv1, hc1, hm1⟩ := row_shape r1 (by omega)
      have hik : i < kids.length := by have h1 := unhide Hn; have h2 := unhide Hk0; omega
      obtain ⟨ks1, kk, ks2, hkids, hks1⟩ : ∃ ks1 kk ks2, kids = ks1 ++ kk :: ks2 ∧ ks1.length = i := ⟨kids.take i, kids[i], kids.drop (i + 1), by rw [← List.drop_eq_getElem_cons hik, List.take_append_drop], by rw [List.length_take]; omega⟩
      have hkki : kids[i]? = some kk := by rw [hkids, ← hks1]; simp
      have hkkL : (kids.map Kid.L)[i]? = some kk.L := by rw [List.getElem?_map, hkki]; rfl
      rw [hv1] at r1 q1
      have p1 := ptr_cell r1 (j := i) (k := kk) hkki
      have hfk : Fit kk := unhide Hfit kk (by rw [hkids]; simp)
      -- what is left from here on
      obtain ⟨rest, hrest⟩ : ∃ rest, restL its (kids.map Kid.L) i = kk.L ++ rest := by
        rcases Nat.lt_or_ge i n with h1 | h1
        · exact ⟨_, rest_item (unhide Hk1) hkkL (List.getElem?_eq_getElem (by have := unhide Hn; omega))⟩
        · refine ⟨[], ?_⟩
          have h2 : its.length = i := by have := unhide Hn; omega
          rw [← h2, List.append_nil]
          exact rest_last (unhide Hk1) (by rw [h2]; exact hkkL)
      have hskk : Sorted kk.L := by
        have h1 := unhide Hs
        rw [hkids, List.map_append, List.map_cons] at h1
        have h2 := inter_split (its.take i) (ks1.map Kid.L) (its.drop i) kk.L (ks2.map Kid.L) (by have := unhide Hn; simp; omega) (by have h5 := unhide Hk0; rw [hkids] at h5; simp at h5 ⊢; omega)
        rw [List.take_append_drop] at h2
        rw [h2] at h1
        exact h1.mid
      have halk : acc.length + kk.L.length ≤ 1000 := by have h1 := unhide Hal; rw [hrest, List.length_append] at h1; omega
      have h5 : Hold base w0 K0 wr (rs ++ .sub h kk :: nodeR b v0 v1 :: rowI v0 its :: rowN v1 kids :: .subs h (ks1 ++ ks2) :: l2) := by
        rw [hkids] at h4 ⊢
        exact h4.kidOut rs
      have e3 := unhide IH wr kk acc rs _ (unhide HSr) halk h5 hskk hfk.2
      have E3 := hide e3
      obtain ⟨acc1, hacc1⟩ : ∃ acc1, (tell more acc (afterL kk.L key)).1 = acc1 := ⟨_, rfl⟩
      obtain ⟨ans1, hans1⟩ : ∃ ans1, (tell more acc (afterL kk.L key)).2 = ans1 := ⟨_, rfl⟩
      have hal1 : acc1.length + rest.length ≤ 1000 := by
        have h1 := unhide Hal
        rw [hrest, List.length_append] at h1
        have h2 := tell_length more (afterL kk.L key) acc
        rw [hacc1] at h2
        have h3 := afterL_length kk.L key
        omega
      have HT2 : Hid (tell more acc0 (afterL (inter its (kids.map Kid.L)) key) = if ans1 then tell more acc1 (afterL rest key) else (acc1, false)) := by
        show _ = _
        rw [unhide HT, hrest, afterL_append, tell_append, hacc1, hans1]
        cases ans1 with
        | true => rfl
        | false => simp only [Bool.false_eq_true, if_false]; rw [← hacc1, ← hans1]
      have Hrest := hide hrest
      have Hal1 := hide hal1
      have Hkids := hide hkids
      have Hacc1 := hide hacc1
      have Hans1 := hide hans1
      have HkkL := hide hkkL
      have hv0' := hide hv0
      have hv1' := hide hv1
      have hiz1 : (i : Int) < (n : Int) + 1 := by omega
      clear e2 e3 r0 r1 h4 h5 hrest hal1 hkids hacc1 hans1 hkkL hskk halk hkki hks1 hfk hik
      rw [hv0] at q0
      clear hv0 hv1
      go_wp2_with fail
      refine (unhide E2).mono ?_
      rintro e w3 ⟨rfl, rfl⟩
      go_wp2_with fail
      refine (unhide E3).mono ?_
      rintro e w4 ⟨rs', rfl, hS', H6⟩
      rw [unhide Hans1]
      rw [unhide Hacc1] at hS'
      have H7 : Hold base w0 K0 w4 (rs' ++ nodeR b v0 v1 :: rowI v0 its :: rowN v1 kids :: .subs h kids :: l2) := by
        have hk := unhide Hkids
        rw [hk] at H6 ⊢
        exact H6.kidIn rs'
      have q0' : w4.cell? ⟨b, 0, none⟩ = some v0 := H7.cellAt (t := 188) (vs := [v0, v1]) (by simp [nodeR]) rfl
      have r0' : w4.ownsRow base 190 3 v0 n (flat its) := by have := unhide Hn; rw [← this]; exact H7.rowAt (by simp [rowI])
      rw [unhide hv0'] at q0'
      have HS' := hide hS'
      have HH7 := hide H7
      have Hr0 := hide r0'
      clear hS' H6 H7 q0 q1 p1 HR E2 E3 Hans1 Hacc1 HSr HT r0'
      cases ans1 with
      | false =>
        go_wp2_with fail
        go_ret
        have hT := unhide HT2
        simp only [Bool.false_eq_true, if_false] at hT
        refine ⟨rs', by rw [unhide HL, hT]; rfl, by rw [unhide HL, hT]; exact unhide HS', Hold.shutk (v0 := v0) (v1 := v1) rs' (by rw [unhide Hb]; exact unhide HH7) (unhide Hcc) (unhide HL) (unhide Hsh) (unhide Hfit) (unhide Hown)⟩
      | true =>
        have hT := unhide HT2
        simp only [if_true] at hT
        have HT3 := hide hT
        clear hT HT2
        by_cases hin : i < n
        · obtain ⟨g0, cap0', hv0, hc0, hm0⟩ := row_shape (unhide Hr0) (by omega)
          have hv00 := unhide hv0'
          rw [hv0] at hv00
          injection hv00 with hp hnn hcap
          subst hp hcap
          have hin' : i < its.length := by have := unhide Hn; omega
          obtain ⟨x, hx⟩ : ∃ x, its[i]? = some x := ⟨_, List.getElem?_eq_getElem hin'⟩
          have hr0 := unhide Hr0
          rw [hv0] at hr0
          obtain ⟨s1, s2, s3⟩ := item_cell hr0 (j := i) (x := x) hx
          have hre : rest = x :: restL its (kids.map Kid.L) (i + 1) := by
            have h1 := rest_item (unhide Hk1) (unhide HkkL) hx
            rw [unhide Hrest] at h1
            exact List.append_cancel_left h1
          have Hre := hide hre
          have hz2 : (i : Int) < (n : Int) := by omega
          clear hr0 hx hre hv0 hnn
          by_cases hgt : kLt key x.key
          · obtain ⟨hb1, hb2⟩ := greater_yes hgt
            have hb3 : (x.key.toList == key.toList) = false := by simp [hb2]
            have e4 := unhide Hsee w4 acc1 rs' x _ (unhide HS') (by have h1 := unhide Hal1; rw [unhide Hre] at h1; simp at h1; omega) (unhide HH7)
            obtain ⟨ans, hans⟩ : ∃ ans, more (acc1 ++ [x]) = ans := ⟨_, rfl⟩
            have E4 := hide e4
            have HA := hide hans
            clear e4 hans
            go_wp2_with fail
            refine (unhide E4).mono ?_
            rintro e w5 ⟨rs2, rfl, hS2, H8⟩
            rw [unhide HA]
            have HS2 := hide hS2
            have HH8 := hide H8
            clear hS2 H8 q0' s1 s2 s3 E4 HH7 Hr0
            have htell : tell more acc0 (afterL (inter its (kids.map Kid.L)) key) = if ans then tell more (acc1 ++ [x]) (afterL (restL its (kids.map Kid.L) (i + 1)) key) else (acc1 ++ [x], false) := by
              rw [unhide HT3, unhide Hre, afterL_cons, if_pos hgt, tell_cons, unhide HA]
            have HTe := hide htell
            clear htell
            cases ans with
            | true =>
              go_wp2_with fail
              go_roundg (n + 1 - i)
              case measure => omega
              case rel => exact ⟨i + 1, acc1 ++ [x], rs2, by omega, by omega, by simp, (by have h1 := unhide Hal1; rw [unhide Hre] at h1; show _ ≤ _; simp at h1 ⊢; omega), HS2, (unhide HTe), HH8⟩
            | false =>
              go_wp2_with fail
              go_ret
              have hT := unhide HTe
              simp only [Bool.false_eq_true, if_false] at hT
              refine ⟨rs2, by rw [unhide HL, hT]; rfl, by rw [unhide HL, hT]; exact unhide HS2, Hold.shutk (v0 := v0) (v1 := v1) rs2 (by rw [unhide Hb]; exact unhide HH8) (unhide Hcc) (unhide HL) (unhide Hsh) (unhide Hfit) (unhide Hown)⟩
          · have hb1 := greater_no hgt
            go_wp2_with fail
            go_roundg (n + 1 - i)
            case measure => omega
            case rel => exact ⟨i + 1, acc1, rs', by omega, by omega, by simp, (by have h1 := unhide Hal1; rw [unhide Hre] at h1; show _ ≤ _; simp at h1 ⊢; omega), HS', (by show _ = _; rw [unhide HT3, unhide Hre, afterL_cons, if_neg hgt]), HH7⟩
        · have hz2 : ¬ ((i : Int) < (n : Int)) := by omega
          have hre : rest = restL its (kids.map Kid.L) (i + 1) := by
            have h2 : its.length = i := by have := unhide Hn; omega
            have h1 := rest_last (unhide Hk1) (by rw [h2]; exact unhide HkkL)
            rw [h2, unhide Hrest] at h1
            have h3 : rest = [] := by have h4 := congrArg List.length h1; simp at h4; exact h4
            rw [h3, ← h2, rest_end (unhide Hk1)]
          have Hre := hide hre
          clear hre
          go_wp2_with fail
          go_roundg (n + 1 - i)
          case measure => omega
          case rel => exact ⟨i + 1, acc1, rs', by omega, by omega, by simp, (by have h1 := unhide Hal1; rw [unhide Hre] at h1; exact h1), HS', (by show _ = _; rw [unhide HT3, unhide Hre]), HH7⟩
    · have hz : ¬ ((i : Int) ≤ (n : Int)) := by omega
      rw [hv0] at q0
      clear r0 h4 q1 hv0
      go_wp2_with fail
      go_ret
      have hT := unhide HT
      rw [show i = its.length + 1 by have := unhide Hn; omega, rest_end (unhide Hk1)] at hT
      refine ⟨rs, by rw [unhide HL, hT]; rfl, by rw [unhide HL, hT]; exact unhide HSr, Hold.shutk (v0 := v0) (v1 := v1) rs (by rw [unhide Hb]; exact unhide HR) (unhide Hcc) (unhide HL) (unhide Hsh) (unhide Hfit) (unhide Hown)⟩
theorem walkM_spec (base : Nat) (w0 : World) (K0 : Nat → Nat) (mb : Nat) (S : List Item → List Res → Prop) (more : List Item → Bool) (key : ByteArray) (hsee : SeeSpecM base w0 K0 mb S more) : ∀ h, WalkSpecM base w0 K0 mb S more key h
  | 0 => fun w k acc rs l2 hS hl H hs hc => walkM_leaf base w0 K0 mb S more key hsee w k acc rs l2 hS hl H hs hc
  | h + 1 => fun w k acc rs l2 hS hl H hs hc => walkM_inner base w0 K0 mb S more key hsee h (walkM_spec base w0 K0 mb S more key hsee h) w k acc rs l2 hS hl H hs hc
end Go.Proofs.YtjpmomklkkifjaaGreatDoor.T
namespace Go.Proofs.YtjpmomklkkifjaaGreatDoor.T
open Go.RowKit Go.Lib
def Full (L : List Item) : Prop := ∀ x ∈ L, x.key.toList.isEmpty = false
theorem Full.after {L : List Item} (h : Full L) : afterL L ⟨#[]⟩ = L := by
  unfold afterL
  rw [List.filter_eq_self]
  intro x hx
  have h1 := h x hx
  rw [Go.Lib.toList_data] at h1
  simp only [decide_eq_true_eq]
  unfold kLt cmpB
  cases hq : x.key.data.toList with
  | nil => rw [hq] at h1; simp at h1
  | cons a l => simp [Go.Lib.compareBytes]
theorem Full.put {L : List Item} {it : Item} (h : Full L) (hi : it.key.toList.isEmpty = false) : Full (putL L it) := fun x hx => by
  rcases putL_mem L hx with rfl | h1
  · exact hi
  · exact h x h1
theorem tell_all {more : List Item → Bool} (h : ∀ a, more a = true) : ∀ (xs acc : List Item), tell more acc xs = (acc ++ xs, true)
  | [], acc => by rw [tell_nil, List.append_nil]
  | x :: xs, acc => by rw [tell_cons, h, if_pos rfl, tell_all h xs]; simp
def SM (mb : Nat) (acc : List Item) (rs : List Res) : Prop := rs = [.cell mb 3 [.int .i64 acc.length]]
theorem seeM (base : Nat) (w0 : World) (K0 : Nat → Nat) (mb : Nat) : SeeSpecM base w0 K0 mb (SM mb) (fun _ => true) := by
  intro w acc rs it l2 hS hl H
  unfold SM at hS
  subst hS
  have q0 : w.cell? ⟨mb, 0, none⟩ = some (.int .i64 acc.length) := H.cellAt (t := 3) (vs := [.int .i64 acc.length]) (by simp) rfl
  have q1 : w.frozen? ⟨mb, 0, none⟩ = false := H.frozenAt (t := 3) (vs := [.int .i64 acc.length]) (by simp) 0
  have hca : ∀ o, (w.alloc o).cell? ⟨mb, 0, none⟩ = some (.int .i64 acc.length) := fun o => Lib.cell?_alloc_some _ q0
  have hlt : mb < w.heap.size := (Array.getElem?_eq_some_iff.1 (H.sat (.cell mb 3 [.int .i64 acc.length]) (by simp)).2).1
  have h2 := H.store [] 0 (.int .i64 ((acc.length : Int) + 1)) _ rfl
  have HH2 := hide h2
  obtain ⟨n, hn⟩ : ∃ n, acc.length = n := ⟨_, rfl⟩
  rw [hn] at q0 hl hca
  have Hn := hide hn
  clear H h2 hn
  go_enter Tryz.func87, Tryz.ntmps87
  go_wp2_with fail
  go_ret
  refine ⟨[.cell mb 3 [.int .i64 ((acc ++ [it]).length : Nat)]], rfl, rfl, ?_⟩
  have h3 := unhide HH2
  rw [unhide Hn] at h3
  have e : (((acc ++ [it]).length : Nat) : Int) = (n : Int) + 1 := by rw [List.length_append, unhide Hn]; simp
  rw [e]
  exact h3.alloc _
theorem many_calls (base : Nat) (w0 : World) (K0 : Nat → Nat) (w : World) (tb : Nat) (L : List Item) (l2 : List Res) (HT : TreeIn base w0 K0 w tb L l2) (hf : Full L) (hl : L.length ≤ 1000) :
    Calls Tryz.prog 46 #[.pointer (some ⟨tb, 0, none⟩)] w fun e w' => e = .returned (.int .i64 L.length) ∧ TreeIn base w0 K0 w' tb L l2 := by
  obtain ⟨hs, h, k, hL, hc, hc1, H⟩ := HT
  have hbw : base ≤ w.heap.size := H.low (b := tb) (t := 130) (vs := [ptrV k.b]) (by simp)
  have H1 := H.made hbw 3 [.int .i64 0]
  have e1 := walkM_spec base w0 K0 w.heap.size (SM w.heap.size) (fun _ => true) ⟨#[]⟩ (seeM base w0 K0 w.heap.size) h _ k [] _ (.cell tb 130 [ptrV k.b] :: l2) rfl (by rw [hL]; simp; omega) (H1.conv (rs' := [.cell w.heap.size 3 [.int .i64 (([] : List Item).length : Nat)]] ++ .sub h k :: .cell tb 130 [ptrV k.b] :: l2) (fun x => by simp only [total_append, total_cons, total_nil, foot_cell]; omega) (fun r hr => H1.sat r (by
    simp only [List.cons_append, List.nil_append, List.mem_cons] at hr ⊢
    rcases hr with h | h | h | h
    · exact .inl h
    · exact .inr (.inr (.inl h))
    · exact .inr (.inl h)
    · exact .inr (.inr (.inr h))))) (by rw [hL]; exact hs) hc
  have q0 : w.cell? ⟨tb, 0, none⟩ = some (.pointer (some ⟨k.b, 0, none⟩)) := H.cellAt (t := 130) (vs := [ptrV k.b]) (by simp) rfl
  have hca : ∀ o, (w.alloc o).cell? ⟨tb, 0, none⟩ = some (.pointer (some ⟨k.b, 0, none⟩)) := fun o => Lib.cell?_alloc_some _ q0
  have E1 := hide e1
  have HL := hide hL
  have HS := hide hs
  have Hc1 := hide hc1
  have Hf := hide hf
  clear e1 H H1 hL hs hc1 hf
  go_enter Tryz.func46, Tryz.ntmps46
  go_wp2_with fail
  refine (unhide E1).mono ?_
  rintro e w2 ⟨rs', rfl, hS', H2⟩
  have ht : tell (fun _ => true) [] (afterL k.L ⟨#[]⟩) = (L, true) := by
    rw [unhide HL, (unhide Hf).after, tell_all (fun _ => rfl)]
    rfl
  rw [ht] at hS' ⊢
  unfold SM at hS'
  subst hS'
  have q1 : w2.cell? ⟨w.heap.size, 0, none⟩ = some (.int .i64 L.length) := H2.cellAt (t := 3) (vs := [.int .i64 L.length]) (by simp) rfl
  have HH2 := hide H2
  clear H2 ht E1
  go_wp2_with fail
  go_ret
  exact ⟨rfl, unhide HS, h, k, unhide HL, hc, unhide Hc1, ((unhide HH2).forget []).front [_]⟩
end Go.Proofs.YtjpmomklkkifjaaGreatDoor.T
