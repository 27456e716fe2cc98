/-
  The contract of the store's rowsOf: what textOf has told is read. The contract of the store's readHead, of a head that was told and of a disk without one. The contracts of the document's SameChanges and of goodRows, over the seat's program.
-/
import Derived.Test.YtcjfhfalffngjaaCSText
import Derived.Test.YtcjfhfalffngjaaCRowB
import Derived.Deep.RegionHeldLaw
namespace Go.Proofs.Ytcjfhfalffngjaa
open Go.RowKit Go.Lib
set_option maxRecDepth 100000
set_option linter.unusedVariables false
set_option linter.unusedSimpArgs false

/-- Rows as they are kept: rising, each may be, none is gone. -/
structure Kpt (L : List ChD) : Prop where
  sorted : Sorted L
  ok : ∀ c ∈ L, checkP c = none
  there : ∀ c ∈ L, c.gone = false
theorem kLt_nil {b : ByteArray} (h : b.toList.isEmpty = false) : kLt ⟨#[]⟩ b := by
  have h1 := less_kLt ⟨#[]⟩ b
  have h2 : Op.bytesLess (⟨#[]⟩ : ByteArray).toList b.toList = true := by
    have e : (⟨#[]⟩ : ByteArray).toList = [] := by rw [Lib.toList_data]
    rw [e]
    cases hb : b.toList with
    | nil => rw [hb] at h; cases h
    | cons x r => rfl
  rw [h2] at h1
  exact of_decide_eq_true h1.symm
theorem textL_cons (c : ChD) (l : List ChD) : textL (c :: l) = UInt8.ofNat (bytesP c).length :: (bytesP c ++ textL l) := by
  have h : UInt8.ofNat ((bytesP c).length % 256) = UInt8.ofNat (bytesP c).length := by apply UInt8.toNat_inj.1; simp
  simp only [textL, List.map_cons, List.flatten_cons, rowY, leB, h]
  simp
theorem ext_one (a : UInt8) (l : List UInt8) : (mkB (a :: l)).extract 0 1 = mkB [a] := by rw [mkB_extract]; rfl
theorem ext_rest (a : UInt8) (l : List UInt8) : (mkB (a :: l)).extract 1 (mkB (a :: l)).size = mkB l := by
  rw [mkB_extract, mkB_size, List.take_of_length_le (Nat.le_refl _)]; rfl
theorem ext_left (a b : List UInt8) : (mkB (a ++ b)).extract 0 a.length = mkB a := by rw [mkB_extract, List.take_left]; rfl
theorem ext_right (a b : List UInt8) : (mkB (a ++ b)).extract a.length (mkB (a ++ b)).size = mkB b := by
  rw [mkB_extract, mkB_size, List.take_of_length_le (Nat.le_refl _), List.drop_left]

def RowsEnd (L : List ChD) (w : World) (e : Ending) (w' : World) : Prop := ∃ v, e = .returned (.tuple #[v, .nilIface]) ∧ Hold w w' [rowI v L]
set_option maxHeartbeats 2000000 in
theorem rowsOf_calls (L : List ChD) (w : World) (hn : L.length ≤ 100) (hk : Kpt L) :
    Calls Try.prog 89 #[.string (mkB (textL L))] w fun e w' => RowsEnd L w e w' := by
  obtain ⟨n, hnn⟩ : ∃ n, L.length = n := ⟨_, rfl⟩
  rw [hnn] at hn
  have Hn := hide hnn
  have HK := hide hk
  have H0 : Hid (Hold w w [rowI (.slice none 0 0) (L.take 0)]) := (Hold.init w).nilRow 54 3
  clear hnn hk
  go_enter Try.func89, Try.ntmps89
  go_wp2_with fail
  go_loopg [0, 4, 5] (n + 1) (fun g v0 v4 v5 wr => ∃ (i : Nat) (last : ByteArray), n - i < g ∧ i ≤ n ∧ v0 = .string (mkB (textL (L.drop i))) ∧ v5 = .string last ∧ Hid (Hold w wr [rowI v4 (L.take i)]) ∧ Hid (∀ c, L[i]? = some c → kLt last c.key))
  case atStart => exact ⟨0, ⟨#[]⟩, by omega, by omega, rfl, rfl, H0, fun c hc => kLt_nil (checkP_none ((unhide HK).ok c (List.mem_of_getElem? hc))).1⟩
  case round =>
    clear H0
    obtain ⟨i, last, hg, hi, rfl, rfl, HH, HL⟩ := hrel
    have hlen : (L.take i).length = i := by rw [List.length_take, unhide Hn]; omega
    obtain ⟨p4, c4, hv4, _⟩ := row_slice ((unhide HH).rowAt (.head _))
    rw [hlen] at hv4
    subst hv4
    by_cases hin : i < n
    · obtain ⟨C, hC⟩ : ∃ C, L[i]? = some C := ⟨_, List.getElem?_eq_getElem (by rw [unhide Hn]; exact hin)⟩
      have hmem := List.mem_of_getElem? hC
      have hck := (unhide HK).ok C hmem
      have hgo := (unhide HK).there C hmem
      have hlt := unhide HL C hC
      have hdrop : L.drop i = C :: L.drop (i + 1) := by
        have hil : i < L.length := by rw [unhide Hn]; exact hin
        rw [List.drop_eq_getElem_cons hil]
        rw [List.getElem?_eq_getElem hil] at hC
        rw [Option.some.inj hC]
      have htake : L.take (i + 1) = L.take i ++ [C] := by rw [List.take_add_one, hC]; rfl
      have hbl := bytesP_length hck
      have htl := textL_length (l := L.drop (i + 1)) fun x hx => (unhide HK).ok x (List.mem_of_mem_drop hx)
      have htl2 : (L.drop (i + 1)).length ≤ 100 := by rw [List.length_drop, unhide Hn]; omega
      have hpar := parse_bytes hck
      have htc := textL_cons C (L.drop (i + 1))
      rw [← hdrop] at htc
      obtain ⟨R, hR⟩ : ∃ R, textL (L.drop (i + 1)) = R := ⟨_, rfl⟩
      rw [hR] at htc htl
      obtain ⟨bl, hbl2⟩ : ∃ bl, (bytesP C).length = bl := ⟨_, rfl⟩
      have x1 := ext_one (UInt8.ofNat bl) (bytesP C ++ R)
      have x2 := ext_rest (UInt8.ofNat bl) (bytesP C ++ R)
      have x3 := ext_left (bytesP C) R
      have x4 := ext_right (bytesP C) R
      rw [hbl2] at htc x3 x4 hbl
      have hTs : (mkB (textL (L.drop i))).size = 1 + (bl + R.length) := by rw [htc, mkB_size, List.length_cons, List.length_append, hbl2]; omega
      have hrs : (mkB (bytesP C ++ R)).size = bl + R.length := by rw [mkB_size, List.length_append, hbl2]
      have et := take_calls (mkB (textL (L.drop i))) 1 (by decide) (by omega) (by omega) wr
      rw [htc, x1, x2, mkB_list] at et
      have hnb : numB [UInt8.ofNat bl] = bl := by simp [numB]; omega
      rw [hnb, ← htc] at et
      have e30 := fun wx => parse_calls (mkB (bytesP C)) (by rw [mkB_size]; omega) wx
      unfold ParseEnd parseE at e30
      rw [hpar] at e30
      have hnil : ((mkB (textL (L.drop i))).toList == []) = false := by
        rw [Lib.toList_data, mkB_list, htc]; rfl
      obtain ⟨T, hT⟩ : ∃ T, mkB (textL (L.drop i)) = T := ⟨_, rfl⟩
      rw [hT] at et hnil hTs ⊢
      obtain ⟨Rs, hRs⟩ : ∃ Rs, mkB (bytesP C ++ R) = Rs := ⟨_, rfl⟩
      rw [hRs] at et x3 x4 hrs
      obtain ⟨Bc, hBc⟩ : ∃ Bc, mkB (bytesP C) = Bc := ⟨_, rfl⟩
      rw [hBc] at e30 x3
      have HF : Hid (mkB R = mkB (textL (L.drop (i + 1)))) := by rw [hR]; exact rfl
      obtain ⟨T2, hT2⟩ : ∃ T2, mkB R = T2 := ⟨_, rfl⟩
      rw [hT2] at x4 HF
      have hgt : ¬ (Rs.size : Int) < (bl : Int) := by omega
      have hle : (bl : Int) ≤ (Rs.size : Int) := by omega
      obtain ⟨key, val, gone⟩ := C
      simp only at hgo
      subst hgo
      unfold chV at e30
      simp only [Option.getD_some, Option.isSome_some, if_true, errV] at e30
      have l1 : Op.bytesLess key.toList last.toList = false := by rw [less_kLt]; exact decide_eq_false (kLt_asymm hlt)
      have l2 : (key.toList == last.toList) = false := by rw [beq_eq_false_iff_ne, Ne, toList_same]; exact fun e => kLt_ne hlt e.symm
      have l3 : (last.toList == key.toList) = false := by rw [beq_eq_false_iff_ne, Ne, toList_same]; exact kLt_ne hlt
      have HL2 : Hid (∀ c, L[i + 1]? = some c → kLt key c.key) := fun c hc => by
        obtain ⟨h1, e1⟩ := List.getElem?_eq_some_iff.1 hC
        obtain ⟨h2, e2⟩ := List.getElem?_eq_some_iff.1 hc
        have := List.pairwise_iff_getElem.1 (unhide HK).sorted i (i + 1) h1 h2 (by omega)
        rw [e1, e2] at this
        exact this
      have ET := hide et
      have E30 := hide e30
      have Htake := hide htake
      clear et e30 hC hmem hck hlt hdrop htl htl2 hpar htc hR hbl2 x1 x2 hTs hnb hT hRs hBc hT2 htake HL hlen
      go_wp2_with fail
      refine (unhide ET).mono ?_
      rintro e w2 ⟨rfl, hb2⟩
      have HH2 := hide ((unhide HH).over hb2)
      clear hb2 ET
      go_wp2_with fail
      refine (unhide E30 _).mono ?_
      rintro e w3 ⟨rfl, hb3⟩
      have h3 := ((unhide HH2).over hb3)
      have a1 := h3.made 54 [.string key, .string val, .bool false]
      obtain ⟨v9, w9, hr9, h9⟩ := hold_add (a1.perm (List.Perm.swap _ _ _)) ⟨key, val, false⟩ (by rw [List.length_take]; omega)
      have k9 : w9.cell? ⟨w3.heap.size, 0, none⟩ = some (.string key) := h9.cellAt (.tail _ (.head _)) rfl
      rw [show (w3.alloc (.cells [.string key, .string val, .bool false].toArray 54)).heap.size = w3.heap.size + 1 by simp] at hr9
      have hr9' : (Builtin.append_ #[36, 36] 36 #[.slice p4 i c4, .slice (some ⟨w3.heap.size + 1, 0, none⟩) 1 1]).run Try.prog ((w3.alloc (.cells #[.string key, .string val, .bool false] 54)).alloc (.cells #[.string key, .string val, .bool false] 54)) = .ok v9 w9 := hr9
      have HH9 : Hid (Hold w w9 [rowI v9 (L.take (i + 1))]) := by rw [unhide Htake]; exact h9.forget [_]
      clear hb3 E30 h3 a1 h9 hr9
      go_wp2_with (at_builtin; refine wpList_appendI rfl _ _ 36 36 rfl (.slice p4 i c4) (.slice (some ⟨w3.heap.size + 1, 0, none⟩) 1 1) rfl rfl hr9' ?_)
      clear hr9'
      go_quiet (fail)
      go_wp2_with fail
      go_roundg (n - i)
      case measure => omega
      case rel => exact ⟨i + 1, key, by omega, by omega, by rw [← unhide HF, ← x4, hrs], rfl, (unhide HH9).drewN _, HL2⟩
    · have hie : i = n := by omega
      have h9 := unhide HH
      have hT : mkB (textL (L.drop i)) = ⟨#[]⟩ := by rw [List.drop_of_length_le (by rw [unhide Hn]; omega)]; rfl
      rw [List.take_of_length_le (by rw [unhide Hn]; omega)] at h9
      have H9 := hide h9
      rw [hT]
      clear h9 HH hT
      go_wp2_with fail
      go_ret2
      exact ⟨_, rfl, unhide H9⟩
#print axioms rowsOf_calls
end Go.Proofs.Ytcjfhfalffngjaa
namespace Go.Proofs.Ytcjfhfalffngjaa
open Go.RowKit Go.Lib
set_option maxRecDepth 100000
set_option linter.unusedVariables false
set_option linter.unusedSimpArgs false

theorem results_head {fn : Func} {p u : Tmp} (h : fn.results = #[.cell p 126, .tmp u]) (tmps : Array Value) (w : World) (g : Nat) (a b c : Value) {v : Value}
    (hp : tmps.getD p undef = .pointer (some ⟨g, 0, none⟩)) (hu2 : tmps.getD u undef = v) (hg : w.heap[g]? = some (.cells #[a, b, c] 126 (0, 0))) :
    (results fn tmps).run Try.prog w = .ok (.tuple #[.agg #[a, b, c], v]) w := by
  have hr := run_loadVar_row (P := Try.prog) w g 126 126 #[a, b, c] (0, 0) _ hg Try.underlying126 rfl (by kernel_rfl)
  rw [Array.getD_eq_getD_getElem?] at hp hu2
  simp only [results, h]
  simp [Sem.run_bind, Result.andThen, hp, hu2, asAddr, hr]

theorem head_prefix (half bytes f1 : Nat) : ∃ z, padL (headL half bytes f1) = markL ++ (leB half 1 ++ (leB bytes 2 ++ (leB f1 4 ++ z))) := ⟨List.replicate (140 - (headL half bytes f1).length) 0, by simp [padL, headL]⟩
theorem cut_mark (r : List UInt8) : Lib.hasPrefix (markL ++ r) markL = true ∧ Lib.trimPrefix (markL ++ r) markL = r := by
  constructor
  · simp [Lib.hasPrefix, markL]
  · simp [Lib.trimPrefix, Lib.hasPrefix, markL]

set_option maxHeartbeats 2000000 in
theorem readHead_calls {w0 w : World} {db : Nat} {d : DK} {l2 : List Res} (h : DiskIn w0 w db d l2) (hdn : d.down = false) (hl : 104 ≤ d.now.length) (half bytes f1 : Nat) (hh : half ≤ 1) (hb : bytes ≤ 6160) (hf : f1 ≤ 1000000) (h0 : d.now.getD 0 [] = padL (headL half bytes f1)) :
    Calls Try.prog 72 #[.pointer (some ⟨db, 0, none⟩)] w fun e w' => e = .returned (.tuple #[.agg #[.int .i64 half, .int .i64 bytes, .int .i64 ((f1 : Int) + 1)], .nilIface]) ∧ Below w.heap.size w w' := by
  obtain ⟨B, hB⟩ : ∃ B, w.heap.size = B := ⟨_, rfl⟩
  have hD1 : DiskIn w0 (w.alloc (.cells #[.int .i64 0, .int .i64 0, .int .i64 0] 126)) db d (.cell B 126 [.int .i64 0, .int .i64 0, .int .i64 0] :: l2) := by rw [← hB]; exact h.made 126 [.int .i64 0, .int .i64 0, .int .i64 0]
  have er := read_calls w0 _ db d _ hD1 0
  unfold ReadEnd at er
  have hhas : d.has 0 = true := by simp [DK.has]; omega
  have e1 : d.readE 0 = none := by unfold DK.readE; rw [hdn, hhas]; rfl
  obtain ⟨z, hz⟩ := head_prefix half bytes f1
  have hz2 : z.length ≤ 140 := by
    have := padL_length (s := headL half bytes f1) (by simp [headL, markL, leB_length])
    rw [hz] at this
    simp only [List.length_append, leB_length] at this
    omega
  have e2 : (⟨(d.readB 0).toArray⟩ : ByteArray) = mkB (markL ++ (leB half 1 ++ (leB bytes 2 ++ (leB f1 4 ++ z)))) := by
    unfold DK.readB
    rw [hdn, hhas]
    simp only [Bool.false_or, Bool.not_true, Bool.false_eq_true, if_false]
    rw [show (0 : Int).toNat = 0 from rfl, h0, hz]
    rfl
  rw [e1, e2] at er
  simp only [errV] at er
  have ec := fun wx => Try.strings_CutPrefix (mkB (markL ++ (leB half 1 ++ (leB bytes 2 ++ (leB f1 4 ++ z))))) ⟨#[106, 111, 98, 99, 97, 115, 101, 32, 115, 116, 111, 114, 101, 10]⟩ wx
  have hmk : (⟨#[106, 111, 98, 99, 97, 115, 101, 32, 115, 116, 111, 114, 101, 10]⟩ : ByteArray).data.toList = markL := rfl
  rw [mkB_list, hmk, (cut_mark _).1, (cut_mark _).2] at ec
  have es := fun wx hx => sectors_calls w0 wx db d (.cell B 126 [.int .i64 0, .int .i64 0, .int .i64 0] :: l2) hx
  obtain ⟨n, hn⟩ : ∃ n, d.now.length = n := ⟨_, rfl⟩
  rw [hn] at es hl
  have y1 := ext_left (leB half 1) (leB bytes 2 ++ (leB f1 4 ++ z))
  have y2 := ext_right (leB half 1) (leB bytes 2 ++ (leB f1 4 ++ z))
  have y3 := ext_left (leB bytes 2) (leB f1 4 ++ z)
  have y4 := ext_right (leB bytes 2) (leB f1 4 ++ z)
  have y5 := ext_left (leB f1 4) z
  have y6 := ext_right (leB f1 4) z
  rw [leB_length] at y1 y2 y3 y4 y5 y6
  have t1 := fun wx => take_calls (mkB (leB half 1 ++ (leB bytes 2 ++ (leB f1 4 ++ z)))) 1 (by decide) (by rw [mkB_size]; simp [leB_length]) (by rw [mkB_size]; simp [leB_length]; omega) wx
  have t2 := fun wx => take_calls (mkB (leB bytes 2 ++ (leB f1 4 ++ z))) 2 (by decide) (by rw [mkB_size]; simp [leB_length]) (by rw [mkB_size]; simp [leB_length]; omega) wx
  have t4 := fun wx => take_calls (mkB (leB f1 4 ++ z)) 4 (by decide) (by rw [mkB_size]; simp [leB_length]) (by rw [mkB_size]; simp [leB_length]; omega) wx
  rw [y1, y2, mkB_list, numB_leB 1 half (by omega)] at t1
  rw [y3, y4, mkB_list, numB_leB 2 bytes (by omega)] at t2
  rw [y5, y6, mkB_list, numB_leB 4 f1 (by omega)] at t4
  obtain ⟨S0, hS0⟩ : ∃ S, mkB (markL ++ (leB half 1 ++ (leB bytes 2 ++ (leB f1 4 ++ z)))) = S := ⟨_, rfl⟩
  have hS1' : (⟨(leB half 1 ++ (leB bytes 2 ++ (leB f1 4 ++ z))).toArray⟩ : ByteArray) = mkB (leB half 1 ++ (leB bytes 2 ++ (leB f1 4 ++ z))) := rfl
  rw [hS1'] at ec
  obtain ⟨S1, hS1⟩ : ∃ S, mkB (leB half 1 ++ (leB bytes 2 ++ (leB f1 4 ++ z))) = S := ⟨_, rfl⟩
  obtain ⟨S2, hS2⟩ : ∃ S, mkB (leB bytes 2 ++ (leB f1 4 ++ z)) = S := ⟨_, rfl⟩
  obtain ⟨S4, hS4⟩ : ∃ S, mkB (leB f1 4 ++ z) = S := ⟨_, rfl⟩
  obtain ⟨S5, hS5⟩ : ∃ S, mkB z = S := ⟨_, rfl⟩
  rw [hS0] at er
  rw [hS0, hS1] at ec
  rw [hS1, hS2] at t1
  rw [hS2, hS4] at t2
  rw [hS4, hS5] at t4
  have ER := hide er
  have EC := hide ec
  have ES := hide es
  have T1 := hide t1
  have T2 := hide t2
  have T4 := hide t4
  have HD1 := hide hD1
  have HB0 : Hid (Hold w (w.alloc (.cells #[.int .i64 0, .int .i64 0, .int .i64 0] 126)) [.cell B 126 [.int .i64 0, .int .i64 0, .int .i64 0]]) := by rw [← hB]; exact (Hold.init w).made 126 [.int .i64 0, .int .i64 0, .int .i64 0]
  have hnz : ¬ (n : Int) < 104 := by omega
  have hhz : ¬ (1 : Int) < (half : Int) := by omega
  have hbz : ¬ (6160 : Int) < (bytes : Int) := by omega
  obtain ⟨w1, hw1⟩ : ∃ w1, w.alloc (.cells #[.int .i64 0, .int .i64 0, .int .i64 0] 126) = w1 := ⟨_, rfl⟩
  rw [hw1] at HD1 HB0 ER
  clear er ec es t1 t2 t4 hD1 h hdn h0 e1 e2 hhas hz hz2 hmk y1 y2 y3 y4 y5 y6 hS0 hS1 hS2 hS4 hS5 hS1' hn
  go_enter Try.func72, Try.ntmps72
  go_wp2_with fail
  refine (unhide ER).mono ?_
  rintro e w2 ⟨rfl, rfl⟩
  clear ER
  go_wp2_with fail
  refine (unhide EC _).mono ?_
  rintro e w3 ⟨rfl, rfl⟩
  clear EC
  go_wp2_with fail
  refine (unhide ES _ (unhide HD1)).mono ?_
  rintro e w4 ⟨rfl, rfl⟩
  clear ES
  go_wp2_with fail
  refine (unhide T1 _).mono ?_
  rintro e w5 ⟨rfl, hb5⟩
  have HB5 := hide ((unhide HB0).over hb5)
  clear hb5 T1
  go_wp2_with fail
  refine (unhide T2 _).mono ?_
  rintro e w6 ⟨rfl, hb6⟩
  have HB6 := hide ((unhide HB5).over hb6)
  clear hb6 T2
  go_wp2_with fail
  refine (unhide T4 _).mono ?_
  rintro e w7 ⟨rfl, hb7⟩
  have hB7 := (unhide HB6).over hb7
  have k0 : w7.cell? ⟨B, 0, none⟩ = some (.int .i64 0) := hB7.cellAt (.head _) rfl
  have k1 : w7.cell? ⟨B, 1, none⟩ = some (.int .i64 0) := hB7.cellAt (.head _) rfl
  have k2 : w7.cell? ⟨B, 2, none⟩ = some (.int .i64 0) := hB7.cellAt (.head _) rfl
  have f0 : w7.frozen? ⟨B, 0, none⟩ = false := hB7.frozenAt (.head _) 0
  have f1' : w7.frozen? ⟨B, 1, none⟩ = false := hB7.frozenAt (.head _) 1
  have f2 : w7.frozen? ⟨B, 2, none⟩ = false := hB7.frozenAt (.head _) 2
  have h8 := ((hB7.store [] 0 (.int .i64 half) _ rfl).store [] 1 (.int .i64 bytes) _ rfl).store [] 2 (.int .i64 ((f1 : Int) + 1)) _ rfl
  have HB8 := hide h8
  clear hb7 T4 hB7 h8
  go_wp2_with fail
  exact bodyPost_ret (results_head (p := 2) (u := 3) rfl _ _ B _ _ _ rfl rfl ((unhide HB8).heapAt (.head _))) rfl ⟨rfl, by first | exact (unhide HB8).below | (rw [← hB]; exact (unhide HB8).below) | (rw [hB]; exact (unhide HB8).below)⟩
#print axioms readHead_calls
end Go.Proofs.Ytcjfhfalffngjaa
namespace Go.Proofs.Ytcjfhfalffngjaa
open Go.RowKit Go.Lib
set_option maxRecDepth 100000
set_option linter.unusedVariables false
set_option linter.unusedSimpArgs false

set_option maxHeartbeats 2000000 in
theorem sameCh_calls (w0 w : World) (v1 v2 : Value) (L : List ChD) (l2 : List Res) (H : Hold w0 w (rowI v1 L :: rowI v2 L :: l2)) (hl : L.length ≤ 1000) :
    Calls Try.prog 35 #[v1, v2] w fun e w' => e = .returned (.bool true) ∧ Hold w0 w' (rowI v1 L :: rowI v2 L :: l2) := by
  obtain ⟨p1, c1, hv1, _⟩ := row_slice (H.rowAt (.head _))
  obtain ⟨p2, c2, hv2, _⟩ := row_slice (H.rowAt (.tail _ (.head _)))
  subst hv1 hv2
  obtain ⟨n, hn⟩ : ∃ n, L.length = n := ⟨_, rfl⟩
  rw [hn] at H hl ⊢
  have HH := hide H
  have Hn := hide hn
  clear H hn
  go_enter Try.func35, Try.ntmps35
  go_wp2_with fail
  go_loopg [5] (n + 1) (fun g vi wr => ∃ (i : Nat), n - i < g ∧ i ≤ n ∧ vi = .int .i64 i ∧ Hid (Hold w0 wr (rowI (.slice p1 n c1) L :: rowI (.slice p2 n c2) L :: l2)))
  case atStart => exact ⟨0, by omega, by omega, rfl, HH⟩
  case round =>
    obtain ⟨i, hg, hi, rfl, HX⟩ := hrel
    by_cases hin : i < n
    · have hiz : (i : Int) < (n : Int) := by omega
      have hX := unhide HX
      unfold rowI at hX
      rw [unhide Hn] at hX
      obtain ⟨g1, cc1, h1, _⟩ := row_shape (hX.rowAt (.head _)) (by omega)
      injection h1 with h1 _ hc1
      subst h1 hc1
      obtain ⟨g2, cc2, h2, _⟩ := row_shape (hX.rowAt (.tail _ (.head _))) (by omega)
      injection h2 with h2 _ hc2
      subst h2 hc2
      have hkl : i < L.length := by rw [unhide Hn]; exact hin
      have hgt := flat_get L i hkl
      obtain ⟨⟨xk, xv, xg⟩, hx⟩ : ∃ x, L[i] = x := ⟨_, rfl⟩
      rw [hx] at hgt
      have a0 := hX.rowCell (.head _) hgt.1
      have a1 := hX.rowCell (.head _) hgt.2.1
      have a2 := hX.rowCell (.head _) hgt.2.2
      have b0 := hX.rowCell (.tail _ (.head _)) hgt.1
      have b1 := hX.rowCell (.tail _ (.head _)) hgt.2.1
      have b2 := hX.rowCell (.tail _ (.head _)) hgt.2.2
      simp only at a0 a1 a2 b0 b1 b2
      clear hX hgt hx hkl
      go_wp2_with fail
      go_quiet (fail)
      go_wp2_with fail
      go_roundg (n - i)
      case measure => omega
      case rel => exact ⟨i + 1, by omega, by omega, by simp, (unhide HX).drewN _⟩
    · have hiz : ¬ (i : Int) < (n : Int) := by omega
      go_wp2_with fail
      go_ret
      exact ⟨rfl, unhide HX⟩

#print axioms sameCh_calls
end Go.Proofs.Ytcjfhfalffngjaa
