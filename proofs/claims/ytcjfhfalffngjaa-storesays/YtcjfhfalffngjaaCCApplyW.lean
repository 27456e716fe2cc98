/-
  The contract of row.Apply, over the seat's program.
-/
import Derived.Test.YtcjfhfalffngjaaCCApply
namespace Go.Proofs.Ytcjfhfalffngjaa
open Go.RowKit Go.Lib
set_option maxRecDepth 100000
set_option linter.unusedVariables false
set_option linter.unusedSimpArgs false

/-- How a slice of changes looks. -/
def Shaped (v : Value) : Prop := v = .slice none 0 0 ∨ ∃ a n c, v = .slice (some a) n c
theorem flat_listOf {w : World} {b off : Nat} : ∀ {n : Nat} {f : Nat → ChD}, (∀ j, j < n → w.cell? ⟨b, off + j * 3, none⟩ = some (.string (f j).key) ∧ w.cell? ⟨b, off + j * 3 + 1, none⟩ = some (.string (f j).val) ∧ w.cell? ⟨b, off + j * 3 + 2, none⟩ = some (.bool (f j).gone)) → ∀ j u, (flat (listOf n f))[j]? = some u → w.cell? ⟨b, off + j, none⟩ = some u := fun {n f} h j u hu => by
  have hj : j < n * 3 := by
    have := (List.getElem?_eq_some_iff.1 hu).1
    rwa [flat_length, listOf_length] at this
  have hq : j / 3 < n := by omega
  have hg := flat_get (listOf n f) (j / 3) (by rw [listOf_length]; exact hq)
  have hx : (listOf n f)[j / 3]'(by rw [listOf_length]; exact hq) = f (j / 3) := by
    have := listOf_get (f := f) hq
    exact (List.getElem?_eq_some_iff.1 this).2
  rw [hx] at hg
  obtain ⟨c0, c1, c2⟩ := h (j / 3) hq
  have hm : j % 3 = 0 ∨ j % 3 = 1 ∨ j % 3 = 2 := by omega
  rcases hm with hm | hm | hm
  · have e : j = j / 3 * 3 := by omega
    rw [e, hg.1] at hu
    rw [e, ← Option.some.inj hu]
    exact c0
  · have e : j = j / 3 * 3 + 1 := by omega
    rw [e, hg.2.1] at hu
    rw [e, ← Option.some.inj hu, ← Nat.add_assoc]
    exact c1
  · have e : j = j / 3 * 3 + 2 := by omega
    rw [e, hg.2.2] at hu
    rw [e, ← Option.some.inj hu, ← Nat.add_assoc]
    exact c2
/-- A copy of rows. -/
theorem clone_calls (v : Value) (n : Nat) (f : Nat → ChD) (w : World) (h : ChOk w v n f) (hs : Shaped v) (hn : n ≤ 100) : Calls Try.prog 62 #[v] w fun e w' => ∃ v', e = .returned v' ∧ Hold w w' [rowI v' (listOf n f)] := by
  have key : ∀ (a : Addr) c, v = .slice (some a) n c → (∀ j u, (flat (listOf n f))[j]? = some u → w.cell? (a.add j) = some u) → Calls Try.prog 62 #[v] w fun e w' => ∃ v', e = .returned v' ∧ Hold w w' [rowI v' (listOf n f)] := fun a c hv hc => by
    subst hv
    refine (cloneA_calls w.heap.size a n c (flat (listOf n f)) w (by rw [flat_length, listOf_length]) hn (Nat.le_refl _) hc (flat_one _)).mono ?_
    rintro e w' ⟨v', rfl, hr, ⟨x, hx, hxs⟩, hb⟩
    refine ⟨v', rfl, ?_⟩
    have h9 := (Hold.init w).newRow hb hr (fun y hy => by rw [hx] at hy; cases hy; exact hxs)
    unfold rowI
    rw [listOf_length]
    exact h9
  rcases h with ⟨⟨p, c, hv⟩, rfl⟩ | ⟨b, off, c, hv, _, _, hcells⟩
  · rcases hs with h0 | ⟨a, m, c', h0⟩
    · subst h0
      refine (cloneI_nil w).mono ?_
      rintro e w' ⟨rfl, rfl⟩
      exact ⟨_, rfl, (Hold.init _).nilRow 54 3⟩
    · have hm : m = 0 := by rw [h0] at hv; injection hv
      subst hm
      exact key a c' h0 (fun j u hu => by simp [listOf, flat] at hu)
  · exact key ⟨b, off, none⟩ c hv (fun j u hu => by rw [add_plain]; exact flat_listOf hcells j u hu)

set_option maxHeartbeats 4000000 in
theorem apply_calls (va : Value) (na : Nat) (fa : Nat → ChD) (vb : Value) (nb : Nat) (fb : Nat → ChD) (w : World) (ha : ChOk w va na fa) (hb : ChOk w vb nb fb) (hsa : Shaped va) (hsb : Shaped vb) (hs : Sorted (listOf na fa)) (hna : na ≤ 75) (hnb : nb ≤ 20) :
    Calls Try.prog 36 #[va, vb] w fun e w' => ∃ v', e = .returned v' ∧ Hold w w' [rowI v' (applyP (listOf na fa) (listOf nb fb))] := by
  have ec := clone_calls va na fa w ha hsa (by omega)
  have EC := hide ec
  have HB := hide hb
  have HS := hide hs
  obtain ⟨pa, ca, hva⟩ := ha.slice
  obtain ⟨pb, cb, hvb⟩ := hb.slice
  subst hva hvb
  clear ec ha hb hsa hsb hs
  go_enter Try.func36, Try.ntmps36
  go_wp2_with fail
  refine (unhide EC).mono ?_
  rintro e w1 ⟨v1, rfl, hH⟩
  have HH : Hid (Hold w w1 [rowI v1 (applyP (listOf na fa) ((listOf nb fb).take 0))]) := hH
  clear hH EC
  go_wp2_with fail
  go_loopg [0, 13] (nb + 1) (fun g v0 vi wr => ∃ (i : Nat), nb - i < g ∧ i ≤ nb ∧ vi = .int .i64 i ∧ Hid (Hold w wr [rowI v0 (applyP (listOf na fa) ((listOf nb fb).take i))]) ∧ (applyP (listOf na fa) ((listOf nb fb).take i)).length ≤ na + i)
  case atStart => exact ⟨0, by omega, by omega, rfl, HH, by show (listOf na fa).length ≤ na + 0; rw [listOf_length]; omega⟩
  case round =>
    obtain ⟨i, hg, hi, rfl, HHi, hlen⟩ := hrel
    by_cases hin : i < nb
    · have hiz : (i : Int) < (nb : Int) := by omega
      rcases unhide HB with ⟨_, h0⟩ | ⟨b, off, c, hv, hn63, hbb, hcells⟩
      · omega
      injection hv with hp _ hcc
      subst hp hcc
      obtain ⟨p0, p1, p2⟩ := hcells i hin
      have below := (unhide HHi).below
      have q0 := (cell_below below (p := ⟨b, off + i * 3, none⟩) hbb).trans p0
      have q1 := (cell_below below (p := ⟨b, off + i * 3 + 1, none⟩) hbb).trans p1
      have q2 := (cell_below below (p := ⟨b, off + i * 3 + 2, none⟩) hbb).trans p2
      have hnext := listOf_take (f := fb) hin
      have hsort := applyP_sorted (unhide HS) ((listOf nb fb).take i)
      obtain ⟨L, hL⟩ : ∃ L, applyP (listOf na fa) ((listOf nb fb).take i) = L := ⟨_, rfl⟩
      have hnx : applyP (listOf na fa) ((listOf nb fb).take (i + 1)) = applyOne L (fb i) := by rw [hnext, applyP_snoc, hL]
      rw [hL] at hlen hsort
      rw [hL] at HHi
      obtain ⟨⟨key, val, gone⟩, hc⟩ : ∃ c, fb i = c := ⟨_, rfl⟩
      rw [hc] at q0 q1 q2 hnx
      simp only at q0 q1 q2
      obtain ⟨cb', hcb⟩ : ∃ cb', wr.heap.size = cb' := ⟨_, rfl⟩
      have h1 := (unhide HHi).made 54 [.string key, .string val, .bool gone]
      rw [hcb] at h1
      obtain ⟨wa, hwa⟩ : ∃ wa, wr.alloc (.cells #[.string key, .string val, .bool gone] 54) = wa := ⟨_, rfl⟩
      have h2 : Hold w wa [.cell cb' 54 [.string key, .string val, .bool gone], rowI u0 L] := by rw [← hwa]; exact h1
      have es := search_calls w.heap.size u0 L key wa (h2.rowAt (.tail _ (.head _))) hsort (by omega)
      have k0 : wa.cell? ⟨cb', 0, none⟩ = some (.string key) := h2.cellAt (.head _) rfl
      have ES := hide es
      have H2 := hide h2
      have Hs := hide hsort
      have Hnx := hide hnx
      have Hlen := hide hlen
      clear es h1 h2 hsort hnx hnext hL below p0 p1 p2 hcells hc HHi hlen
      go_wp2_with fail
      refine (unhide ES).mono ?_
      rintro e w2 ⟨at', is', rfl, hF, hB2⟩
      have h3 := (unhide H2).over hB2
      have k0 : w2.cell? ⟨cb', 0, none⟩ = some (.string key) := h3.cellAt (.head _) rfl
      have k1 : w2.cell? ⟨cb', 1, none⟩ = some (.string val) := h3.cellAt (.head _) rfl
      have k2 : w2.cell? ⟨cb', 2, none⟩ = some (.bool gone) := h3.cellAt (.head _) rfl
      clear hB2 ES H2 hcb hwa
      cases is' with
      | true =>
        obtain ⟨a, d, x, hLa, hal, hxk, _, hdr, hpu⟩ := apply_there (c := ⟨key, val, gone⟩) (x := ⟨key, val, gone⟩) (unhide Hs) hF
        cases gone with
        | true =>
          have hone : applyOne L ⟨key, val, true⟩ = a ++ d := by unfold applyOne; exact hdr
          rw [hLa] at h3
          have ed := hold_delete (h3.front [_]) hal (n := L.length) (by rw [← hLa]) (by have := unhide Hlen; omega)
          have ED := hide ed
          have Hone := hide hone
          have hat : (at' : Int) + 1 ≤ 9223372036854775807 := by have := hF.1; have := unhide Hlen; omega
          have Hln : Hid ((a ++ d).length ≤ L.length) := by show (a ++ d).length ≤ L.length; rw [hLa]; simp
          clear ed hone h3 hLa hdr hpu hF hal hxk
          go_wp2_with fail
          refine (unhide ED).mono ?_
          rintro e w3 ⟨v3, rfl, h4⟩
          have H4 := hide (h4.forget [_])
          clear h4 ED
          go_wp2_with fail
          go_roundg (nb - i)
          case measure => omega
          case rel => exact ⟨i + 1, by omega, by omega, by simp, by rw [unhide Hnx, unhide Hone]; exact H4, by rw [unhide Hnx, unhide Hone]; have := unhide Hln; have := unhide Hlen; omega⟩
        | false =>
          have hone : applyOne L ⟨key, val, false⟩ = a ++ ⟨key, val, false⟩ :: d := by unfold applyOne; exact hpu
          have hnpos : 0 < L.length := by rw [hLa]; simp; omega
          obtain ⟨g, cap, hu0, _, _⟩ := row_shape (h3.rowAt (.tail _ (.head _))) hnpos
          subst hu0
          have hne : cb' ≠ g := fun e => by
            have h5 := h3.uniq g
            subst e
            simp only [total_cons, foot_cell, rowI, foot_row, one_self, blkN_self (show (Value.slice (some ⟨cb', 0, none⟩) L.length cap).ownBlock = some cb' from rfl)] at h5
            omega
          have hlt : cb' < w2.heap.size := h3.ltAt (.head _)
          have hatl : at' < L.length := by rw [hLa, ← hal]; simp
          have hln : (a ++ (⟨key, val, false⟩ : ChD) :: d).length = L.length := by rw [hLa]; simp
          rw [hLa] at h3
          obtain ⟨h4, hcs⟩ := hold_over (m := ⟨key, val, false⟩) (l1 := [.cell cb' 54 [.string key, .string val, .bool false]]) (n := L.length) (by rw [← hLa]) (by rw [← hLa] at h3 ⊢; exact h3) hal
          obtain ⟨y0, hy0⟩ := Option.isSome_iff_exists.1 (hcs 0 (by omega)).1
          obtain ⟨y1, hy1⟩ := Option.isSome_iff_exists.1 (hcs 1 (by omega)).1
          obtain ⟨y2, hy2⟩ := Option.isSome_iff_exists.1 (hcs 2 (by omega)).1
          have z0 := (hcs 0 (by omega)).2
          have z1 := (hcs 1 (by omega)).2
          have z2 := (hcs 2 (by omega)).2
          rw [Nat.add_zero] at hy0 z0
          obtain ⟨n, hn⟩ : ∃ n, L.length = n := ⟨_, rfl⟩
          have H4 := hide (h4.forget [])
          have Hone := hide hone
          have Hln := hide hln
          have hatz : (at' : Int) < (n : Int) := by omega
          have Hn := hide hn
          rw [hn]
          clear h3 h4 hcs hone hln hLa hdr hpu hF hal hxk hnpos hatl hn
          go_wp2_with fail
          go_roundg (nb - i)
          case measure => omega
          case rel => exact ⟨i + 1, by omega, by omega, by simp, by rw [unhide Hnx, unhide Hone, ← unhide Hn]; exact H4, by rw [unhide Hnx, unhide Hone]; have := unhide Hln; have := unhide Hlen; omega⟩
      | false =>
        obtain ⟨a, d, hLa, hal, hdr, hpu⟩ := apply_not (c := ⟨key, val, gone⟩) hF
        cases gone with
        | true =>
          have hone : applyOne L ⟨key, val, true⟩ = L := by unfold applyOne; exact hdr
          have H4 := hide (h3.forget [])
          have Hone := hide hone
          clear h3 hone hLa hdr hpu hF hal
          go_wp2_with fail
          go_roundg (nb - i)
          case measure => omega
          case rel => exact ⟨i + 1, by omega, by omega, by simp, by rw [unhide Hnx, unhide Hone]; exact H4, by rw [unhide Hnx, unhide Hone]; have := unhide Hlen; omega⟩
        | false =>
          have hone : applyOne L ⟨key, val, false⟩ = a ++ ⟨key, val, false⟩ :: d := by unfold applyOne; exact hpu
          have hln : (a ++ (⟨key, val, false⟩ : ChD) :: d).length = L.length + 1 := by rw [hLa]; simp; omega
          have h5 := (h3.forget []).made 54 [.string key, .string val, .bool false]
          rw [hLa] at h5
          have ei := hold_insert (m := ⟨key, val, false⟩) (vc := 1) h5 hal (n := L.length) (by rw [← hLa]) (by have := unhide Hlen; omega)
          have EI := hide ei
          have Hone := hide hone
          have Hln := hide hln
          clear ei h5 h3 hone hln hLa hdr hpu hF hal
          go_wp2_with fail
          refine (unhide EI).mono ?_
          rintro e w3 ⟨v3, rfl, h4⟩
          have H4 := hide h4
          clear h4 EI
          go_wp2_with fail
          go_roundg (nb - i)
          case measure => omega
          case rel => exact ⟨i + 1, by omega, by omega, by simp, by rw [unhide Hnx, unhide Hone]; exact H4, by rw [unhide Hnx, unhide Hone]; have := unhide Hln; have := unhide Hlen; omega⟩
    · have hiz : ¬ (i : Int) < (nb : Int) := by omega
      have hie : i = nb := by omega
      subst hie
      have h9 := unhide HHi
      rw [List.take_of_length_le (by rw [listOf_length]; exact Nat.le_refl _)] at h9
      have H9 := hide h9
      clear h9 HHi
      go_wp2_with fail
      go_ret
      exact ⟨_, rfl, unhide H9⟩
#print axioms apply_calls
end Go.Proofs.Ytcjfhfalffngjaa
