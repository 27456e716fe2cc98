/-
  TopFind: a path that is written otherwise leads to the same node, or to the same fault.
-/
import Derived.Test.YtjpmomklkkifjaaGreatDoorCLaid
import Derived.Test.YtjpmomklkkifjaaGreatDoorCRunesW
namespace Go.Proofs.YtjpmomklkkifjaaGreatDoor.T
open Go.RowKit
set_option maxRecDepth 100000
set_option linter.unusedVariables false
set_option linter.unusedSimpArgs false

theorem reads_once : ∀ (a b : List Int) (l : List UInt8), Reads l a → Reads l b → a = b
  | [], [], _, _, _ => rfl
  | [], y :: b, l, h1, h2 => absurd h1 h2.1
  | x :: a, [], l, h1, h2 => absurd h2 h1.1
  | x :: a, y :: b, l, h1, h2 => by
    have e : x = y := by
      have h3 := h1.2.1.symm.trans h2.2.1
      have h4 := h1.2.2.1
      have h5 := h2.2.2.1
      omega
    rw [e, reads_once a b _ h1.2.2.2 h2.2.2.2]
theorem parts_err {s : ByteArray} {w : World} (hR : Ready w) (hs : s.size ≤ 4000000000) {k : Int} (h : partsP s = .error k) : Calls Tryz.prog 20 #[.string s] w fun e w' => e = .returned (.tuple #[.slice none 0 0, .iface 86 (.int .i64 k)]) ∧ Below w.heap.size w w' :=
  (parts_calls s w hR hs).mono fun e w' ⟨hb, hE⟩ => by rw [h] at hE; exact ⟨hE, hb⟩
theorem parts_fine {s : ByteArray} {w : World} (hR : Ready w) (hs : s.size ≤ 4000000000) {l : List ByteArray} (h : partsP s = .ok l) : Calls Tryz.prog 20 #[.string s] w fun e w' => ∃ p n c, e = .returned (.tuple #[.slice p n c, .nilIface]) ∧ Below w.heap.size w w' :=
  (parts_calls s w hR hs).mono fun e w' ⟨hb, hE⟩ => by
    rw [h] at hE
    cases l with
    | nil => exact ⟨_, _, _, hE, hb⟩
    | cons p l =>
      obtain ⟨b, he, _⟩ := hE
      exact ⟨_, _, _, he, hb⟩
theorem FSIn.belowH {w0 w : World} {fb mb : Nat} {N : List NV} {F : Forest} {next : Int} {l2 : List Res} (h : FSIn w0 w fb mb N F next l2) : Below w0.heap.size w0 w := h.below

set_option maxHeartbeats 8000000 in
theorem topFind_walk (va : Value) (na : Nat) (fa : Nat → ActD) (s : ByteArray) (W : World) (hR : Ready W) (hA : ActsOk W va na fa) :
    Calls Tryz.prog 5 #[va, .string s] W fun e w' => e = .returned (.bool true) ∧ Below W.heap.size W w' := by
  have hmade := made_calls hR (H0.start W) (Nat.le_refl _)
  have hgr := fun w1 (h1 : H0 W w1 []) => grown_calls hR h1 va na fa hA
  have HMd := hide hmade
  have HGr := hide hgr
  have HR := hide hR
  clear hmade hgr hA hR
  go_enter Tryz.func5, Tryz.ntmps5
  go_wp2_with fail
  refine (unhide HMd).mono ?_
  rintro e w1 ⟨rfl, h1⟩
  have H1 := hide h1
  clear h1 HMd
  go_wp2_with fail
  refine (unhide HGr w1 (unhide H1)).mono ?_
  rintro e w2 (⟨rfl, h2⟩ | ⟨fb, mb, N, F, next, rfl, h2, hG⟩)
  · have H2 := hide h2
    clear h2 HGr H1
    go_wp2_with fail
    go_ret
    exact ⟨rfl, H0.below (unhide H2)⟩
  clear HGr H1
  by_cases hs : 150 < s.size
  · have hsz : (150 : Int) < (s.size : Int) := by omega
    have H2 := hide h2
    clear h2 hG
    go_wp2_with fail
    go_ret
    exact ⟨rfl, (unhide H2).below⟩
  have hsz : ¬ (150 : Int) < (s.size : Int) := by omega
  obtain ⟨rs, hRd, hW, hlen, hmk⟩ := reads_any s.data.toList.length s.data.toList (Nat.le_refl _)
  have hl8 : s.data.toList.length = s.size := (Lib.size_eq s).symm
  have hal := alikePath_calls s rs w2 hRd (h2.ready (unhide HR)) hW (by omega) (by omega)
  have Hsame : Hid (∀ l l2, partsP s = .ok l → partsP (encS ((splitL rs).map swapZ)) = .ok l2 → findP N F (encS ((splitL rs).map swapZ)) = findP N F s) := fun l l2 hl hl2 => by
    obtain ⟨rs', h1, h2, h3⟩ := find_other (N := N) (F := F) hl
    have : rs' = rs := reads_once _ _ s.data.toList (by rw [h1, data_enc]; exact reads_enc rs' fun r hr => (h2 r hr).wide) hRd
    subst this
    exact h3 l2 hl2
  have hosz : (encS ((splitL rs).map swapZ)).size ≤ 4000000000 := by
    rw [encS_size]
    have h1 := (encL_lenW ((splitL rs).map swapZ)).2
    rw [List.length_map, splitL_length] at h1
    have h3 := partsL_len rs
    omega
  generalize encS ((splitL rs).map swapZ) = o at hal Hsame hosz
  have HAl := hide hal
  have H2 := hide h2
  have HG := hide hG
  have Hosz := hide hosz
  clear hal h2 hG hosz hRd hW hlen hmk hl8
  go_wp2_with fail
  refine (unhide HAl).mono ?_
  rintro e w3 ⟨rfl, hb3⟩
  have h3 := (unhide H2).step hb3
  clear hb3 H2 HAl
  cases hp : partsP s with
  | error k =>
    have HP := hide (parts_err (h3.ready (unhide HR)) (by omega) hp)
    have H3 := hide h3
    clear h3 hp Hsame
    go_wp2_with fail
    refine (unhide HP).mono ?_
    rintro e w4 ⟨rfl, hb4⟩
    have H4 := hide ((unhide H3).step hb4)
    clear hb4 HP H3
    go_wp2_with fail
    go_ret
    exact ⟨rfl, (unhide H4).below⟩
  | ok l =>
    have HP := hide (parts_fine (h3.ready (unhide HR)) (by omega) hp)
    have H3 := hide h3
    have Hp := hide hp
    clear h3 hp
    go_wp2_with fail
    refine (unhide HP).mono ?_
    rintro e w4 ⟨p1, n1, c1, rfl, hb4⟩
    have h4 := (unhide H3).step hb4
    clear hb4 HP H3
    cases hp2 : partsP o with
    | error k =>
      have HP := hide (parts_err (h4.ready (unhide HR)) (unhide Hosz) hp2)
      have H4 := hide h4
      clear h4 hp2 Hsame
      go_wp2_with fail
      refine (unhide HP).mono ?_
      rintro e w5 ⟨rfl, hb5⟩
      have H5 := hide ((unhide H4).step hb5)
      clear hb5 HP H4
      go_wp2_with fail
      go_ret
      exact ⟨rfl, (unhide H5).below⟩
    | ok l2 =>
      have HP := hide (parts_fine (h4.ready (unhide HR)) (unhide Hosz) hp2)
      have hfs : findP N F o = findP N F s := unhide Hsame l l2 (unhide Hp) hp2
      have H4 := hide h4
      have hf1 := fun wx lx (hx : FSIn W wx fb mb N F next lx) => fsFind_calls W wx fb mb N F next lx (unhide HR) hx (unhide HG).fits s (by omega)
      have hf2 := fun wx lx (hx : FSIn W wx fb mb N F next lx) => fsFind_calls W wx fb mb N F next lx (unhide HR) hx (unhide HG).fits o (unhide Hosz)
      rw [hfs] at hf2
      generalize findP N F s = r at hf1 hf2
      unfold findRet at hf1 hf2
      have hn := fun wx => number_calls (resE r) wx
      generalize resE r = oe at hf1 hf2 hn
      generalize resN r = u at hf1 hf2
      have HF1 := hide hf1
      have HF2 := hide hf2
      clear h4 hp2 Hsame hf1 hf2 hfs Hp
      go_wp2_with fail
      refine (unhide HP).mono ?_
      rintro e w5 ⟨p2, n2, c2, rfl, hb5⟩
      have H5 := hide ((unhide H4).step hb5)
      clear hb5 HP H4
      have hov : ∃ t v, errV oe = .iface t v ∨ errV oe = .nilIface := by
        cases oe with
        | none => exact ⟨0, .nilIface, .inr rfl⟩
        | some k => exact ⟨_, _, .inl rfl⟩
      generalize errV oe = ov at HF1 HF2 hn hov
      generalize oe.getD 0 = ni at hn
      have Hn := hide hn
      clear hn
      go_wp2_with fail
      refine (unhide HF1 _ _ (unhide H5)).mono ?_
      rintro e w6 ⟨rfl, h6⟩
      have h7 := h6.made 33 [.int .i64 u.id, .int .i64 u.kind, .int .i64 u.up, .int .i64 u.links, .string u.text]
      obtain ⟨B, hB⟩ : ∃ B, w6.heap.size = B := ⟨_, rfl⟩
      rw [hB] at h7
      have H7 := hide h7
      clear h6 h7 H5 HF1
      go_wp2_with fail
      refine (unhide HF2 _ _ (unhide H7)).mono ?_
      rintro e w8 ⟨rfl, h8⟩
      have a0 := h8.cellAt (b := B) (.head _) (j := 0) rfl
      have a1 := h8.cellAt (b := B) (.head _) (j := 1) rfl
      have a2 := h8.cellAt (b := B) (.head _) (j := 2) rfl
      have a3 := h8.cellAt (b := B) (.head _) (j := 3) rfl
      have a4 := h8.cellAt (b := B) (.head _) (j := 4) rfl
      have H8 := hide h8
      clear h8 H7 HF2 hB
      have b0 : ∀ obj, (w8.alloc obj).cell? ⟨B, 0, none⟩ = some (.int .i64 u.id) := fun obj => Lib.cell?_alloc_some obj a0
      have b1 : ∀ obj, (w8.alloc obj).cell? ⟨B, 1, none⟩ = some (.int .i64 u.kind) := fun obj => Lib.cell?_alloc_some obj a1
      have b2 : ∀ obj, (w8.alloc obj).cell? ⟨B, 2, none⟩ = some (.int .i64 u.up) := fun obj => Lib.cell?_alloc_some obj a2
      have b3 : ∀ obj, (w8.alloc obj).cell? ⟨B, 3, none⟩ = some (.int .i64 u.links) := fun obj => Lib.cell?_alloc_some obj a3
      have b4 : ∀ obj, (w8.alloc obj).cell? ⟨B, 4, none⟩ = some (.string u.text) := fun obj => Lib.cell?_alloc_some obj a4
      clear a0 a1 a2 a3 a4
      go_wp2_with fail
      refine (unhide Hn _).mono ?_
      rintro e w9 ⟨rfl, rfl⟩
      go_wp2_with fail
      refine (unhide Hn _).mono ?_
      rintro e w9 ⟨rfl, rfl⟩
      go_wp2_with fail
      go_ret
      exact ⟨rfl, ((unhide H8).alloc _).below⟩
end Go.Proofs.YtjpmomklkkifjaaGreatDoor.T
