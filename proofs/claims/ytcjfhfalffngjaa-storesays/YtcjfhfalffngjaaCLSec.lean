/-
  The contract of the log's sectors: the sectors of a deed, or the first fault.
-/
import Derived.Test.YtcjfhfalffngjaaCLPure
import Derived.Test.YtcjfhfalffngjaaCCApplyW
import Derived.Test.YtcjfhfalffngjaaCRPure
namespace Go.Proofs.Ytcjfhfalffngjaa
open Go.RowKit Go.Lib
set_option maxRecDepth 100000
set_option linter.unusedVariables false
set_option linter.unusedSimpArgs false

/-- Texts in memory. -/
def strV (l : List (List UInt8)) : List Value := l.map fun s => .string (mkB s)
theorem strV_length (l : List (List UInt8)) : (strV l).length = l.length := by simp [strV]
theorem strV_one (l : List (List UInt8)) : ∀ u ∈ strV l, u.oneCell' = true := by
  intro u hu
  obtain ⟨s, _, rfl⟩ := List.mem_map.1 hu
  rfl
theorem strV_get {l : List (List UInt8)} {j : Nat} {s : List UInt8} (h : l[j]? = some s) : (strV l)[j]? = some (.string (mkB s)) := by simp [strV, List.getElem?_map, h]
def strR (v : Value) (l : List (List UInt8)) : Res := .row v 9 1 l.length (strV l)
/-- A text behind texts. -/
theorem str_add {w0 wx : World} {v : Value} {L : List (List UInt8)} {l2 : List Res} (H : Hold w0 wx (strR v L :: l2)) (c : List UInt8) (hn : L.length ≤ 1000) :
    ∃ v' w', (Builtin.append_ #[47, 47] 47 #[v, .slice (some ⟨wx.heap.size, 0, none⟩) 1 1]).run Try.prog (wx.alloc (.cells #[.string (mkB c)] 9)) = .ok v' w' ∧ Hold w0 w' (strR v' (L ++ [c]) :: l2) := by
  have h1 := H.made 9 [.string (mkB c)]
  obtain ⟨v', w', h2, h3, _⟩ := h1.append [_] 47 47 Try.underlying47 infoS (by decide) (by decide) (some ⟨wx.heap.size, 0, none⟩) 1 1 [.string (mkB c)] rfl (fun _ => ⟨wx.heap.size, 0, rfl, fun j u hj => by rw [Nat.zero_add]; exact h1.cellAt (.head _) hj⟩) (fun h => by cases h) (fun u hu => by rw [List.mem_singleton.1 hu]; rfl) (by omega)
  refine ⟨v', w', h2, ?_⟩
  have h4 := h3.forget []
  unfold strR
  rw [List.length_append, show strV (L ++ [c]) = strV L ++ [.string (mkB c)] by simp [strV]]
  exact h4

/-- The first fault of changes. -/
def faultL : List ChD → Option Int
  | [] => none
  | c :: l => match checkP c with | some k => some k | none => faultL l
theorem faultL_take {l : List ChD} {i : Nat} {c : ChD} (h : l[i]? = some c) (hp : faultL (l.take i) = none) : faultL (l.take (i + 1)) = checkP c ∧ ((checkP c).isSome → faultL l = checkP c) := by
  induction l generalizing i with
  | nil => simp at h
  | cons x l ih =>
    cases i with
    | zero =>
      simp at h
      subst h
      refine ⟨by simp only [List.take_succ_cons, List.take_zero, faultL]; cases checkP x <;> rfl, fun hs => ?_⟩
      cases hx : checkP x with
      | none => rw [hx] at hs; cases hs
      | some k => simp only [faultL, hx]
    | succ i =>
      rw [List.getElem?_cons_succ] at h
      rw [List.take_succ_cons, faultL] at hp
      rw [List.take_succ_cons, faultL, faultL]
      cases hx : checkP x with
      | some k => rw [hx] at hp; cases hp
      | none =>
        rw [hx] at hp
        simp only at hp ⊢
        exact ih h hp
theorem faultL_all {l : List ChD} (h : faultL l = none) : ∀ c ∈ l, checkP c = none := by
  induction l with
  | nil => intro c hc; cases hc
  | cons x l ih =>
    rw [faultL] at h
    intro c hc
    cases hx : checkP x with
    | some k => rw [hx] at h; cases h
    | none =>
      rw [hx] at h
      rcases List.mem_cons.1 hc with rfl | hc
      · exact hx
      · exact ih h c hc

def SecEnd (w : World) (n0 : Nat) (l : List ChD) (e : Ending) (w' : World) : Prop :=
  (∃ k, faultL l = some k ∧ e = .returned (.tuple #[.slice none 0 0, errV (some k)]) ∧ Below w.heap.size w w') ∨ (faultL l = none ∧ ∃ v, e = .returned (.tuple #[v, .nilIface]) ∧ Hold w w' [strR v (deedS n0 l)])

set_option maxHeartbeats 4000000 in
theorem sectors_of_calls (lb : Nat) (first used : Nat) (vc : Value) (n : Nat) (f : Nat → ChD) (w : World) (hlb : lb < w.heap.size) (hf : first ≤ 1000000) (hu : used ≤ 1000) (hn : n ≤ 100) (hc : ChOk w vc n f)
    (q3 : w.cell? ⟨lb, 3, none⟩ = some (.int .i64 first)) (q4 : w.cell? ⟨lb, 4, none⟩ = some (.int .i64 used)) :
    Calls Try.prog 70 #[.pointer (some ⟨lb, 0, none⟩), vc] w fun e w' => SecEnd w (first + used) (listOf n f) e w' := by
  obtain ⟨pc, cc, hvc⟩ := hc.slice
  subst hvc
  have HC := hide hc
  have Hq : Hid (∀ wx, Below w.heap.size w wx → wx.cell? ⟨lb, 3, none⟩ = some (.int .i64 first) ∧ wx.cell? ⟨lb, 4, none⟩ = some (.int .i64 used)) := fun wx hx => ⟨(cell_below hx (p := ⟨lb, 3, none⟩) hlb).trans q3, (cell_below hx (p := ⟨lb, 4, none⟩) hlb).trans q4⟩
  have H0 : Hid (Hold w w [strR (.slice none 0 0) (secsOf (first + used) ((listOf n f).take 0))]) := (Hold.init w).nilRow 9 1
  clear hc q3 q4
  go_enter Try.func70, Try.ntmps70
  go_wp2_with fail
  go_loopg [6, 13] (n + 1) (fun g v6 vi wr => ∃ (i : Nat), n - i < g ∧ i ≤ n ∧ vi = .int .i64 i ∧ Hid (Hold w wr [strR v6 (secsOf (first + used) ((listOf n f).take i))]) ∧ Hid (faultL ((listOf n f).take i) = none))
  case atStart => exact ⟨0, by omega, by omega, rfl, H0, rfl⟩
  case round =>
    obtain ⟨i, hg, hi, rfl, HH, HF⟩ := hrel
    have hlen : (secsOf (first + used) ((listOf n f).take i)).length = i := by rw [secsOf_length, List.length_take, listOf_length]; omega
    obtain ⟨p6, c6, hv6, _⟩ := row_slice ((unhide HH).rowAt (.head _))
    rw [hlen] at hv6
    subst hv6
    by_cases hin : i < n
    · have hiz : (i : Int) < (n : Int) := by omega
      rcases unhide HC with ⟨_, h0⟩ | ⟨b, off, c, hv, hn63, hbb, hcells⟩
      · omega
      injection hv with hp _ hcc
      subst hp hcc
      obtain ⟨p0, p1, p2⟩ := hcells i hin
      have below := (unhide HH).below
      have q0 := (cell_below below (p := ⟨b, off + i * 3, none⟩) hbb).trans p0
      have q1 := (cell_below below (p := ⟨b, off + i * 3 + 1, none⟩) hbb).trans p1
      have q2 := (cell_below below (p := ⟨b, off + i * 3 + 2, none⟩) hbb).trans p2
      have hget := listOf_get (f := f) hin
      obtain ⟨hft1, hft2⟩ := faultL_take hget (unhide HF)
      have hnext := listOf_take (f := f) hin
      have hsn : secsOf (first + used) ((listOf n f).take (i + 1)) = secsOf (first + used) ((listOf n f).take i) ++ [chS (first + used + i) (f i)] := by
        rw [hnext, secsOf_snoc, List.length_take, listOf_length, Nat.min_eq_left (by omega)]
      obtain ⟨C, hC⟩ : ∃ c, f i = c := ⟨_, rfl⟩
      rw [hC] at q0 q1 q2 hft1 hft2 hsn
      obtain ⟨L, hL⟩ : ∃ L, secsOf (first + used) ((listOf n f).take i) = L := ⟨_, rfl⟩
      rw [hL] at HH hlen hsn
      have eb := fun wx => bytes_calls C wx
      obtain ⟨cb, hcb⟩ : ∃ cb, wr.heap.size = cb := ⟨_, rfl⟩
      have h2 : Hold w (wr.alloc (.cells #[.string C.key, .string C.val, .bool C.gone] 54)) [.cell cb 54 [.string C.key, .string C.val, .bool C.gone], strR (.slice p6 i c6) L] := by rw [← hcb]; exact (unhide HH).made 54 [.string C.key, .string C.val, .bool C.gone]
      obtain ⟨wa, hwa⟩ : ∃ wa, wr.alloc (.cells #[.string C.key, .string C.val, .bool C.gone] 54) = wa := ⟨_, rfl⟩
      rw [hwa] at h2
      have k0 : wa.cell? ⟨cb, 0, none⟩ = some (.string C.key) := h2.cellAt (.head _) rfl
      have k1 : wa.cell? ⟨cb, 1, none⟩ = some (.string C.val) := h2.cellAt (.head _) rfl
      have k2 : wa.cell? ⟨cb, 2, none⟩ = some (.bool C.gone) := h2.cellAt (.head _) rfl
      have H2 := hide h2
      have Hsn := hide hsn
      have Hft1 := hide hft1
      have Hft2 := hide hft2
      have Hlen := hide hlen
      have hzi : IntKind.i64.wrap ((used : Int) + (i : Int)) = ((used + i : Nat) : Int) := by rw [IntKind.wrap_i64]; omega
      unfold BytesEnd at eb
      cases hk : checkP C with
      | some k =>
        have hbe : bytesE C = [] := by unfold bytesE; rw [hk]; rfl
        rw [hbe, hk] at eb
        have Hk := hide hk
        obtain ⟨key, val, gone⟩ := C
        unfold chV at eb
        simp only at eb q0 q1 q2 k0 k1 k2
        have EB := hide eb
        clear eb hk h2 hsn hft1 hft2 hlen below p0 p1 p2 hcells hget hnext hL hC HH hbe
        go_wp2_with fail
        refine (unhide EB _).mono ?_
        rintro e w2 ⟨rfl, hb2⟩
        have H3 := hide ((unhide H2).over hb2)
        clear hb2 EB
        simp only [errV]
        go_wp2_with fail
        go_ret2
        refine .inl ⟨k, ?_, rfl, (unhide H3).below⟩
        rw [unhide Hft2 (by rw [unhide Hk]; rfl), unhide Hk]
      | none =>
        have hbe : bytesE C = bytesP C := by unfold bytesE; rw [hk]; rfl
        have hbl := bytesP_length hk
        rw [hbe, hk] at eb
        have et := fun wx => tell_calls (mkB [111]) (by rw [mkB_size]; simp) (first + (used + i)) (by omega) (mkB (bytesP C)) (by rw [mkB_size]; omega) wx
        have e3 : tellP (mkB [111]) (first + (used + i)) (mkB (bytesP C)) = mkB (chS (first + used + i) C) := by rw [tellP_list, Nat.add_assoc]; rfl
        simp only [e3] at et
        have en := fun wx hq => number_calls lb first (used + i) wx hf (by omega) hq
        have Hk := hide hk
        obtain ⟨S, hS⟩ : ∃ S, chS (first + used + i) C = S := ⟨_, rfl⟩
        rw [hS] at et
        rw [hS] at Hsn
        obtain ⟨Bb, hBb⟩ : ∃ B : ByteArray, mkB (bytesP C) = B := ⟨_, rfl⟩
        have hBb' : (⟨(bytesP C).toArray⟩ : ByteArray) = Bb := hBb
        rw [hBb] at et
        rw [hBb'] at eb
        obtain ⟨key, val, gone⟩ := C
        unfold chV at eb
        simp only at eb q0 q1 q2 k0 k1 k2
        have EB := hide eb
        have ET := hide et
        have EN := hide en
        clear eb et en e3 hk h2 hsn hft1 hft2 hlen below p0 p1 p2 hcells hget hnext hL hC HH hbe hbl hS hBb hBb'
        go_wp2_with fail
        refine (unhide EB _).mono ?_
        rintro e w2 ⟨rfl, hb2⟩
        have h3 := (unhide H2).over hb2
        have H3 := hide (h3.forget [])
        obtain ⟨q3, q4⟩ := unhide Hq _ h3.below
        have EN2 := hide (unhide EN w2 q3)
        clear hb2 EB EN h3 k0 k1 k2 q0 q1 q2
        simp only [errV]
        go_wp2_with fail
        refine (unhide EN2).mono ?_
        rintro e w3 ⟨rfl, rfl⟩
        clear EN2 q3 q4
        go_wp2_with fail
        refine (unhide ET _).mono ?_
        rintro e w4 ⟨rfl, hb4⟩
        have h4 := (unhide H3).over hb4
        obtain ⟨v5, w5, hr5, h5⟩ := str_add h4 S (by have := unhide Hlen; omega)
        have H5 := hide h5
        clear hb4 ET H3 h4 h5
        go_wp2_with (at_builtin; refine wpList_appendI rfl _ _ 47 47 rfl (.slice p6 i c6) (.slice (some ⟨w4.heap.size, 0, none⟩) 1 1) rfl rfl hr5 ?_)
        clear hr5
        go_roundg (n - i)
        case measure => omega
        case rel => exact ⟨i + 1, by omega, by omega, by simp, by rw [unhide Hsn]; exact H5, by rw [unhide Hft1]; exact Hk⟩
    · have hiz : ¬ (i : Int) < (n : Int) := by omega
      have hie : i = n := by omega
      subst hie
      have h9 := unhide HH
      have hF := unhide HF
      rw [List.take_of_length_le (by rw [listOf_length]; exact Nat.le_refl _)] at h9 hF hlen
      obtain ⟨q3, q4⟩ := unhide Hq _ h9.below
      have en := number_calls lb first (used + i) wr hf (by omega) q3
      have ec := fun wx => count_calls i (by omega) wx
      have et := fun wx => tell_calls (mkB [99]) (by rw [mkB_size]; simp) (first + (used + i)) (by omega) (mkB (leB i 4)) (by rw [mkB_size, leB_length]; omega) wx
      have e3 : tellP (mkB [99]) (first + (used + i)) (mkB (leB i 4)) = mkB (endS (first + used + i) i) := by rw [tellP_list, Nat.add_assoc]; rfl
      simp only [e3] at et
      have hdeed : deedS (first + used) (listOf i f) = secsOf (first + used) (listOf i f) ++ [endS (first + used + i) i] := by unfold deedS; rw [listOf_length]
      obtain ⟨S, hS⟩ : ∃ S, endS (first + used + i) i = S := ⟨_, rfl⟩
      rw [hS] at et hdeed
      obtain ⟨Bb, hBb⟩ : ∃ B : ByteArray, mkB (leB i 4) = B := ⟨_, rfl⟩
      have hBb' : (⟨(leB i 4).toArray⟩ : ByteArray) = Bb := hBb
      rw [hBb] at et
      rw [hBb'] at ec
      have EN := hide en
      have EC := hide ec
      have ET := hide et
      have H9 := hide h9
      have Hd := hide hdeed
      have HFl := hide hF
      have Hlen := hide hlen
      have hzi : IntKind.i64.wrap ((used : Int) + (i : Int)) = ((used + i : Nat) : Int) := by rw [IntKind.wrap_i64]; omega
      clear en ec et e3 h9 hdeed hS hBb hBb' HH HF hF hlen
      go_wp2_with fail
      refine (unhide EN).mono ?_
      rintro e w3 ⟨rfl, rfl⟩
      clear EN q3 q4
      go_wp2_with fail
      refine (unhide EC _).mono ?_
      rintro e w4 ⟨rfl, hb4⟩
      have H10 := hide ((unhide H9).over hb4)
      clear EC hb4 H9
      go_wp2_with fail
      refine (unhide ET _).mono ?_
      rintro e w5 ⟨rfl, hb5⟩
      have h5 := (unhide H10).over hb5
      obtain ⟨v6, w6, hr6, h6⟩ := str_add h5 S (by have := unhide Hlen; omega)
      have H6 := hide h6
      clear hb5 ET H10 h5 h6
      go_wp2_with (at_builtin; refine wpList_appendI rfl _ _ 47 47 rfl (.slice p6 i c6) (.slice (some ⟨w5.heap.size, 0, none⟩) 1 1) rfl rfl hr6 ?_)
      clear hr6
      go_ret2
      exact .inr ⟨unhide HFl, _, rfl, by rw [unhide Hd]; exact unhide H6⟩
#print axioms sectors_of_calls
end Go.Proofs.Ytcjfhfalffngjaa
