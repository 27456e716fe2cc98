/-
  The contract of the store's textOf: the bytes of rows, one behind the other.
-/
import Derived.Test.YtcjfhfalffngjaaCSShelf
namespace Go.Proofs.Ytcjfhfalffngjaa
open Go.RowKit Go.Lib
set_option maxRecDepth 100000
set_option linter.unusedVariables false
set_option linter.unusedSimpArgs false

theorem builder_over {B b : Nat} {bs : List Value} {w w' : World} (h : Lib.IsBuilder 147 5 B b bs w) (hb : Below w.heap.size w w') : Lib.IsBuilder 147 5 B b bs w' := by
  have key : ∀ p, Lib.BuilderAt 147 5 B b p bs w → Lib.BuilderAt 147 5 B b p bs w' := fun p ⟨h1, v, h2, h3, h4⟩ =>
    ⟨h1, v, (hb.block b (Array.getElem?_eq_some_iff.1 h2).1).trans h2, (Kept.of_below (S := fun _ => False) hb).row h3 (fun _ _ h => h), h4⟩
  exact h.imp (key _) (key _)
theorem secV_byte (l : List UInt8) : secV l = Lib.byteCells l := rfl

/-- A row's bytes, with their number ahead; all rows'. -/
def rowY (c : ChD) : List UInt8 := leB (bytesP c).length 1 ++ bytesP c
def textL (l : List ChD) : List UInt8 := (l.map rowY).flatten
theorem textL_snoc (l : List ChD) (c : ChD) : textL (l ++ [c]) = textL l ++ rowY c := by simp [textL]
theorem rowY_length {c : ChD} (h : checkP c = none) : (rowY c).length ≤ 95 := by
  have := bytesP_length h
  simp only [rowY, List.length_append, leB_length]
  omega
theorem textL_length : ∀ {l : List ChD}, (∀ c ∈ l, checkP c = none) → (textL l).length ≤ l.length * 95
  | [], _ => by simp [textL]
  | c :: l, h => by
    have h1 := rowY_length (h c (by simp))
    have h2 := textL_length (l := l) fun x hx => h x (by simp [hx])
    simp only [textL, List.map_cons, List.flatten_cons, List.length_append, List.length_cons] at *
    omega

set_option maxHeartbeats 2000000 in
theorem textOf_calls (v : Value) (L : List ChD) (w : World) (h : ChL w v L) (hn : L.length ≤ 100) (hc : ∀ c ∈ L, checkP c = none) :
    Calls Try.prog 92 #[v] w fun e w' => e = .returned (.tuple #[.string (mkB (textL L)), .nilIface]) ∧ Below w.heap.size w w' := by
  obtain ⟨pv, cv, hv⟩ := ChOk.slice h
  subst hv
  obtain ⟨n, hnn⟩ : ∃ n, L.length = n := ⟨_, rfl⟩
  have HH : Hid (ChOk w (.slice pv n cv) n (fun i => L.getD i chZ)) := by have := h; unfold ChL at this; rw [hnn] at this; exact this
  rw [hnn] at hn ⊢
  have Hn := hide hnn
  have HC := hide hc
  obtain ⟨bb, hbb⟩ : ∃ bb, w.heap.size = bb := ⟨_, rfl⟩
  have H0 : Hid (Lib.IsBuilder 147 5 bb bb (secV (textL (L.take 0))) (w.alloc (.cells #[.pointer none, .slice none 0 0] 147))) := by rw [← hbb]; exact Lib.fresh_isBuilder 147 5 w
  have HB0 : Hid (Below w.heap.size w (w.alloc (.cells #[.pointer none, .slice none 0 0] 147))) := (Below.refl _ w).alloc (Nat.le_refl _) _
  have Hbb := hide hbb
  clear h hc hnn
  go_enter Try.func92, Try.ntmps92
  go_wp2_with fail
  go_loopg [11] (n + 1) (fun g vi wr => ∃ (i : Nat), n - i < g ∧ i ≤ n ∧ vi = .int .i64 i ∧ Hid (Lib.IsBuilder 147 5 bb bb (secV (textL (L.take i))) wr) ∧ Hid (Below w.heap.size w wr))
  case atStart => exact ⟨0, by omega, by omega, rfl, H0, HB0⟩
  case round =>
    clear H0 HB0
    obtain ⟨i, hg, hi, rfl, HI, HB⟩ := hrel
    have hlb : bb ≤ wr.heap.size := by rw [← unhide Hbb]; exact (unhide HB).size
    by_cases hin : i < n
    · have hiz : (i : Int) < (n : Int) := by omega
      rcases unhide HH with ⟨_, h0⟩ | ⟨b, off, c, hv, _, hbW, hcells⟩
      · omega
      injection hv with e1 e2 e3
      subst e1 e3
      clear e2
      obtain ⟨t0, t1, t2⟩ := hcells i hin
      simp only at t0 t1 t2
      have q0 := (cell_below (unhide HB) (p := ⟨b, off + i * 3, none⟩) hbW).trans t0
      have q1 := (cell_below (unhide HB) (p := ⟨b, off + i * 3 + 1, none⟩) hbW).trans t1
      have q2 := (cell_below (unhide HB) (p := ⟨b, off + i * 3 + 2, none⟩) hbW).trans t2
      have hget : L[i]? = some (L.getD i chZ) := by rw [List.getD, List.getElem?_eq_getElem (by rw [unhide Hn]; exact hin)]; rfl
      have hck := unhide HC _ (List.mem_of_getElem? hget)
      have htk : L.take (i + 1) = L.take i ++ [L.getD i chZ] := by rw [List.take_add_one, hget]; rfl
      obtain ⟨C, hC⟩ : ∃ C, L.getD i chZ = C := ⟨_, rfl⟩
      rw [hC] at q0 q1 q2 hck htk
      have hbl := bytesP_length hck
      have eb := fun wx => bytes_calls C wx
      have hbe : bytesE C = bytesP C := by unfold bytesE; rw [hck]; rfl
      unfold BytesEnd at eb
      rw [hbe, hck] at eb
      have hmk : (⟨(bytesP C).toArray⟩ : ByteArray) = mkB (bytesP C) := rfl
      rw [hmk] at eb
      have htl := textL_length (l := L.take i) fun x hx => unhide HC x (List.mem_of_mem_take hx)
      have htl2 : (L.take i).length ≤ 100 := by rw [List.length_take]; omega
      have hsz : (mkB (bytesP C)).size = (bytesP C).length := mkB_size _
      have el := fun wx => little_calls (bytesP C).length 1 (by omega) (by decide) wx
      have hwz : IntKind.u32.wrap ((bytesP C).length : Int) = ((bytesP C).length : Int) := by rw [IntKind.wrap_u32]; omega
      obtain ⟨bl, hbl2⟩ : ∃ bl, (bytesP C).length = bl := ⟨_, rfl⟩
      have happ : (⟨(leB bl 1).toArray⟩ : ByteArray) ++ mkB (bytesP C) = mkB (rowY C) := by unfold rowY; rw [hbl2]; exact ByteArray.mk_append_mk _ _
      have ew := fun wx (hx : Lib.IsBuilder 147 5 bb bb (secV (textL (L.take i))) wx) (hb : bb ≤ wx.heap.size) => writeString_calls bb bb (textL (L.take i)) (mkB (rowY C)) wx hx (by rw [mkB_size]; have := rowY_length hck; omega) hb
      unfold WriteEnd2 at ew
      rw [mkB_list, ← textL_snoc, ← htk] at ew
      rw [hbl2] at el hwz hsz hbl
      obtain ⟨S, hS⟩ : ∃ S, mkB (bytesP C) = S := ⟨_, rfl⟩
      obtain ⟨S1, hS1⟩ : ∃ S : ByteArray, ⟨(leB bl 1).toArray⟩ = S := ⟨_, rfl⟩
      have hz1 : S1.size = 1 := by rw [← hS1]; show (leB bl 1).toArray.size = 1; rw [List.size_toArray, leB_length]
      rw [hS] at eb hsz happ
      rw [hS1] at el happ
      obtain ⟨SR, hSR⟩ : ∃ S, mkB (rowY C) = S := ⟨_, rfl⟩
      rw [hSR] at ew happ
      obtain ⟨ab, hab⟩ : ∃ ab, wr.heap.size = ab := ⟨_, rfl⟩
      have ha := (Hold.init wr).made 54 [.string C.key, .string C.val, .bool C.gone]
      rw [hab] at ha
      obtain ⟨wa, hwa⟩ : ∃ wa, wr.alloc (.cells #[.string C.key, .string C.val, .bool C.gone] 54) = wa := ⟨_, rfl⟩
      have ha' : Hold wr wa [.cell ab 54 [.string C.key, .string C.val, .bool C.gone]] := by rw [← hwa]; exact ha
      have k0 : wa.cell? ⟨ab, 0, none⟩ = some (.string C.key) := ha'.cellAt (.head _) rfl
      have k1 : wa.cell? ⟨ab, 1, none⟩ = some (.string C.val) := ha'.cellAt (.head _) rfl
      have k2 : wa.cell? ⟨ab, 2, none⟩ = some (.bool C.gone) := ha'.cellAt (.head _) rfl
      have EB := hide eb
      have EL := hide el
      have EW := hide ew
      have HA := hide ha'.below
      clear eb el ew ha ha' hcells t0 t1 t2 hget hck htk hC hbe hmk htl htl2 hbl2 hS hS1 hSR
      obtain ⟨key, val, gone⟩ := C
      unfold chV at EB
      simp only [errV] at q0 q1 q2 k0 k1 k2 EB
      go_wp2_with fail
      refine (unhide EB _).mono ?_
      rintro e w2 ⟨rfl, hb2⟩
      have hbel2 := (unhide HA).trans (hb2.mono (unhide HA).size)
      have HI2 := hide (builder_over (unhide HI) hbel2)
      have HB2 := hide ((unhide HB).trans (hbel2.mono (unhide HB).size))
      clear hb2 hbel2 EB k0 k1 k2 q0 q1 q2
      go_wp2_with fail
      refine (unhide EL _).mono ?_
      rintro e w3 ⟨rfl, hb3⟩
      have HI3 := hide (builder_over (unhide HI2) hb3)
      have HB3 := hide ((unhide HB2).trans (hb3.mono (unhide HB2).size))
      have hlb3 : bb ≤ w3.heap.size := by rw [← unhide Hbb]; exact (unhide HB3).size
      clear hb3 EL
      go_wp2_with fail
      refine (unhide EW _ (unhide HI3) hlb3).mono ?_
      rintro e w4 ⟨rfl, hI4, hb4⟩
      have HI4 := hide hI4
      have HB4 : Hid (Below w.heap.size w w4) := (unhide HB3).trans (by rw [unhide Hbb]; exact hb4)
      clear hI4 hb4 EW
      go_wp2_with fail
      go_roundg (n - i)
      case measure => omega
      case rel => exact ⟨i + 1, by omega, by omega, by simp, HI4, HB4⟩
    · have hiz : ¬ (i : Int) < (n : Int) := by omega
      have hI := unhide HI
      rw [List.take_of_length_le (by rw [unhide Hn]; omega), secV_byte] at hI
      have es := Try.Builder_String_any bb bb (textL L) wr hI hlb
      have es' : Calls Try.prog 90 #[.pointer (some ⟨bb, 0, none⟩)] wr fun e w' => e = .returned (.string (mkB (textL L))) ∧ Below bb wr w' := es
      have ES := hide es'
      clear es es' hI
      go_wp2_with fail
      refine (unhide ES).mono ?_
      rintro e w2 ⟨rfl, hb2⟩
      have HB2 : Hid (Below w.heap.size w w2) := (unhide HB).trans (by rw [unhide Hbb]; exact hb2)
      clear hb2 ES
      go_wp2_with fail
      go_ret2
      exact ⟨rfl, unhide HB2⟩
#print axioms textOf_calls
end Go.Proofs.Ytcjfhfalffngjaa
