/-
  The walk of RowSays: it answers true for all rows, changes, a change and bytes. The contract of the store's readRows, where a half holds the text of rows.
-/
import Derived.Test.YtcjfhfalffngjaaCCGood
import Derived.Test.YtcjfhfalffngjaaCCSame
import Derived.Test.YtcjfhfalffngjaaCCRefW
import Derived.Test.YtcjfhfalffngjaaCRowQ
import Derived.Test.YtcjfhfalffngjaaCRowP
import Derived.Test.YtcjfhfalffngjaaCRPure
import Derived.Deep.Onto
namespace Go.Proofs.Ytcjfhfalffngjaa
open Go.RowKit Go.Lib
set_option maxRecDepth 100000
set_option linter.unusedVariables false
set_option linter.unusedSimpArgs false

theorem hold_two {w0 w1 w2 : World} {v1 v2 : Value} {L M : List ChD} (h1 : Hold w0 w1 [rowI v1 L]) (h2 : Hold w1 w2 [rowI v2 M]) : Hold w0 w2 [rowI v1 L, rowI v2 M] :=
  (h1.new (r := rowI v2 M) (Kept.of_below h2.below) (World.ownsRow.mono (h2.rowAt (.head _)) h1.size) (fun x hx => h2.beneath (.head _) hx)).perm (List.Perm.swap _ _ _)
theorem applyP_len : ∀ (l L : List ChD), (applyP L l).length ≤ L.length + l.length
  | [], L => by simp [applyP]
  | c :: l, L => by
    have h1 := applyP_len l (applyOne L c)
    have h2 := applyOne_len L c
    simp only [applyP, List.foldl_cons, List.length_cons] at *
    omega
theorem Calls.later_same {P : Program} {f : FuncId} {args : Array Value} {w : World} {u : Later w} {v : Value}
    (h : Calls P f args u.wld fun e w' => e = .returned v ∧ w' = u.wld) : Calls P f args u.wld fun e w'' => e = .returned v ∧ ∃ u' : Later w, w'' = u'.wld :=
  h.mono fun _ w' ⟨he, hb⟩ => ⟨he, u, hb⟩
theorem same_noE (o : Option Int) (h : ∀ k, o = some k → 0 < k) : sameP o (noE o) = true := by
  cases o with
  | none => rfl
  | some k => have := h k rfl; simp [sameP, noE, this]

theorem rows_calls (w : World) : Calls Try.prog 26 #[] w fun e w' => e = .returned (.bool true) ∧ Below w.heap.size w w' := by
  have hb := bytes_calls ⟨⟨#[107]⟩, ⟨#[120]⟩, false⟩ w
  have e1 : bytesE ⟨⟨#[107]⟩, ⟨#[120]⟩, false⟩ = [0, 1, 107, 120] := by kernel_rfl
  have e2 : checkP ⟨⟨#[107]⟩, ⟨#[120]⟩, false⟩ = none := by kernel_rfl
  unfold BytesEnd at hb
  rw [e1, e2] at hb
  unfold chV at hb
  simp only at hb
  have HB := hide hb
  clear hb e1 e2
  go_enter Try.func26, Try.ntmps26
  go_wp2_with fail
  refine (unhide HB).mono ?_
  rintro e w1 ⟨rfl, hb1⟩
  have HB1 := hide hb1
  have es := same_calls w1 none 0
  unfold sameP at es
  have ES := hide es
  clear hb1 es
  go_wp2_with fail
  refine (unhide ES).mono ?_
  rintro e w2 ⟨rfl, rfl⟩
  simp only [beq_self_eq_true]
  go_wp2_with fail
  go_ret
  exact ⟨rfl, unhide HB1⟩
#print axioms rows_calls
end Go.Proofs.Ytcjfhfalffngjaa
namespace Go.Proofs.Ytcjfhfalffngjaa
open Go.RowKit Go.Lib
set_option maxRecDepth 100000
set_option linter.unusedVariables false
set_option linter.unusedSimpArgs false

/-- A half holds a text, piece by piece. -/
def TextAt (now : List (List UInt8)) (half : Nat) (T : List UInt8) : Prop := ∀ i, i * 140 < T.length → now.getD (1 + half * 44 + i) [] = padL ((T.drop (i * 140)).take 140)
theorem piece (T : List UInt8) (i : Nat) (h : i * 140 < T.length) (k : Nat) (hk : k = min 140 (T.length - i * 140)) : (mkB (padL ((T.drop (i * 140)).take 140))).extract 0 k = mkB ((T.drop (i * 140)).take 140) ∧ T.take (i * 140) ++ (T.drop (i * 140)).take 140 = T.take ((i + 1) * 140) := by
  have hl : ((T.drop (i * 140)).take 140).length = k := by rw [List.length_take, List.length_drop, hk]
  refine ⟨?_, ?_⟩
  · rw [mkB_extract]
    unfold padL
    rw [← hl, List.take_left]
    rfl
  · rw [show (i + 1) * 140 = i * 140 + 140 by omega, List.take_add]

theorem hold_cell_below {w w1 w2 : World} {b : Nat} {t : TypeId} {vs : List Value} (h : Hold w w1 [.cell b t vs]) (hb : w.heap.size = b) (hw : Below (b + 1) w1 w2) : Hold w w2 [.cell b t vs] := by
  refine ⟨fun r hr => ?_, h.uniq, h.below.trans (hw.mono (by omega))⟩
  rw [List.mem_singleton.1 hr]
  have hs := h.sat _ (.head _)
  exact ⟨hs.1, (hw.block b (by omega)).trans hs.2⟩

set_option maxHeartbeats 2000000 in
theorem readRows_calls {w0 w : World} {db : Nat} {d : DK} {l2 : List Res} (h : DiskIn w0 w db d l2) (hdn : d.down = false) (hl : 104 ≤ d.now.length) (half : Nat) (hh : half ≤ 1) (f : Int) (L : List ChD) (hn : L.length ≤ 64) (hk : Kpt L) (ht : TextAt d.now half (textL L)) :
    Calls Try.prog 73 #[.pointer (some ⟨db, 0, none⟩), .agg #[.int .i64 half, .int .i64 (textL L).length, .int .i64 f]] w fun e w' => RowsEnd L w e w' := by
  have htl : (textL L).length ≤ 6080 := by have := textL_length hk.ok; omega
  have hsec := h.ok.now
  have erows := fun wx => rowsOf_calls L wx (by omega) hk
  obtain ⟨T, hT⟩ : ∃ T, textL L = T := ⟨_, rfl⟩
  simp only [hT] at ht htl erows ⊢
  obtain ⟨n, hnn⟩ : ∃ n, T.length = n := ⟨_, rfl⟩
  rw [hnn] at htl ⊢
  obtain ⟨hb, hhb⟩ : ∃ hb, w.heap.size = hb := ⟨_, rfl⟩
  have hh1 := (Hold.init w).made 126 [.int .i64 half, .int .i64 n, .int .i64 f]
  rw [hhb] at hh1
  have hbi := Lib.fresh_isBuilder 147 5 (w.alloc (.cells #[.int .i64 half, .int .i64 n, .int .i64 f] 126))
  rw [show (w.alloc (.cells #[.int .i64 half, .int .i64 n, .int .i64 f] 126)).heap.size = hb + 1 by simp [hhb]] at hbi
  have HB0 : Hid (Lib.IsBuilder 147 5 (hb + 1) (hb + 1) (secV (T.take (0 * 140))) ((w.alloc (.cells #[.int .i64 half, .int .i64 n, .int .i64 f] 126)).alloc (.cells #[.pointer none, .slice none 0 0] 147))) := hbi
  have HH0 : Hid (Hold w ((w.alloc (.cells #[.int .i64 half, .int .i64 n, .int .i64 f] 126)).alloc (.cells #[.pointer none, .slice none 0 0] 147)) [.cell hb 126 [.int .i64 half, .int .i64 n, .int .i64 f]]) := hh1.alloc _
  have HD := hide h
  have Hdn := hide hdn
  have Hl := hide hl
  have Ht := hide ht
  have Hsec := hide hsec
  have ERows := hide erows
  have Hn := hide hnn
  have Hhb := hide hhb
  clear h hdn hl hk hh1 hbi ht hT hsec erows hnn
  go_enter Try.func73, Try.ntmps73
  go_wp2_with fail
  go_loopg [7] (n + 2) (fun g vi wr => ∃ (i : Nat), n + 1 - i < g ∧ i ≤ n + 1 ∧ (0 < i → (i - 1) * 140 < n) ∧ vi = .int .i64 i ∧ Hid (Lib.IsBuilder 147 5 (hb + 1) (hb + 1) (secV (T.take (i * 140))) wr) ∧ Hid (Hold w wr [.cell hb 126 [.int .i64 half, .int .i64 n, .int .i64 f]]))
  case atStart => exact ⟨0, by omega, by omega, by omega, rfl, HB0, HH0⟩
  case round =>
    clear HB0 HH0
    obtain ⟨i, hg, hi, hi2, rfl, HB, HH⟩ := hrel
    have c0 : wr.cell? ⟨hb, 0, none⟩ = some (.int .i64 half) := (unhide HH).cellAt (.head _) rfl
    have c1 : wr.cell? ⟨hb, 1, none⟩ = some (.int .i64 n) := (unhide HH).cellAt (.head _) rfl
    have hlenT : (secV (T.take (i * 140))).length = min (i * 140) n := by rw [secV_length, List.length_take, unhide Hn]
    have elen := fun q => Try.Builder_Len (hb + 1) (hb + 1) (secV (T.take (i * 140))) (wr.drewN q) (builder_over (unhide HB) ((Hold.init wr).drewN q).below)
    rw [hlenT] at elen
    have ELen := hide elen
    by_cases hin : i * 140 < n
    · have hmin : min (i * 140) n = i * 140 := by omega
      rw [hmin] at ELen
      have hiz : ((i * 140 : Nat) : Int) < (n : Int) := by omega
      clear elen hlenT
      go_wp2_with fail
      go_quiet ((go_at_call 86; exact Calls.quiet_of_same (unhide ELen _)))
      obtain ⟨w1, hw1⟩ : ∃ w1, wr.drewN nq = w1 := ⟨_, rfl⟩
      have HB1 : Hid (Lib.IsBuilder 147 5 (hb + 1) (hb + 1) (secV (T.take (i * 140))) w1) := by rw [← hw1]; exact builder_over (unhide HB) ((Hold.init wr).drewN nq).below
      have HH1 : Hid (Hold w w1 [.cell hb 126 [.int .i64 half, .int .i64 n, .int .i64 f]]) := by rw [← hw1]; exact (unhide HH).drewN nq
      rw [hw1]
      have c0 : w1.cell? ⟨hb, 0, none⟩ = some (.int .i64 half) := (unhide HH1).cellAt (.head _) rfl
      have c1 : w1.cell? ⟨hb, 1, none⟩ = some (.int .i64 n) := (unhide HH1).cellAt (.head _) rfl
      have e87 := start_calls half hh w1
      have hi44 : i < 44 := by omega
      have hD1 := (unhide HD).over (unhide HH1).below
      have er := read_calls w0 w1 db d l2 hD1 (((1 + half * 44 : Nat) : Int) + (i : Int))
      unfold ReadEnd at er
      have hce : (((1 + half * 44 : Nat) : Int) + (i : Int)) = ((1 + half * 44 + i : Nat) : Int) := by omega
      have hhas : d.has (((1 + half * 44 : Nat) : Int) + (i : Int)) = true := by rw [hce]; have := unhide Hl; simp only [DK.has, Bool.and_eq_true, decide_eq_true_eq]; omega
      have e1 : d.readE (((1 + half * 44 : Nat) : Int) + (i : Int)) = none := by unfold DK.readE; rw [unhide Hdn, hhas]; rfl
      have hta := unhide Ht i (by rw [unhide Hn]; exact hin)
      have e2 : (⟨(d.readB (((1 + half * 44 : Nat) : Int) + (i : Int))).toArray⟩ : ByteArray) = mkB (padL ((T.drop (i * 140)).take 140)) := by
        unfold DK.readB
        rw [unhide Hdn, hhas, hce]
        simp only [Bool.false_or, Bool.not_true, Bool.false_eq_true, if_false, Int.toNat_natCast]
        rw [hta]
        rfl
      rw [e1, e2] at er
      simp only [errV] at er
      obtain ⟨kk, hkk⟩ : ∃ kk, kk = min 140 (n - i * 140) := ⟨_, rfl⟩
      obtain ⟨pc1, pc2⟩ := piece T i (by rw [unhide Hn]; exact hin) kk (by rw [unhide Hn]; exact hkk)
      have hsz : (mkB (padL ((T.drop (i * 140)).take 140))).size = 140 := by rw [mkB_size, padL_length (by rw [List.length_take]; omega)]
      have ew := fun wx (hx : Lib.IsBuilder 147 5 (hb + 1) (hb + 1) (secV (T.take (i * 140))) wx) (hq : hb + 1 ≤ wx.heap.size) => writeString_calls (hb + 1) (hb + 1) (T.take (i * 140)) (mkB ((T.drop (i * 140)).take 140)) wx hx (by rw [mkB_size, List.length_take, List.length_take]; omega) hq
      unfold WriteEnd2 at ew
      rw [mkB_list, pc2] at ew
      obtain ⟨S, hS⟩ : ∃ S, mkB (padL ((T.drop (i * 140)).take 140)) = S := ⟨_, rfl⟩
      rw [hS] at er pc1 hsz
      obtain ⟨Pc, hPc⟩ : ∃ S, mkB ((T.drop (i * 140)).take 140) = S := ⟨_, rfl⟩
      rw [hPc] at ew pc1
      have E87 := hide e87
      have ER := hide er
      have EW := hide ew
      have Hkk := hide hkk
      have HS0 : Hid (w1.drew.cell? ⟨hb, 1, none⟩ = some (.int .i64 n)) := c1
      have elen2 := Try.Builder_Len (hb + 1) (hb + 1) (secV (T.take (i * 140))) w1.drew (builder_over (unhide HB1) (Hold.init w1).drew.below)
      rw [secV_length, List.length_take, unhide Hn, hmin, show ((i * 140 : Nat) : Int) = (i : Int) * 140 by omega] at elen2
      have ELen2 := hide elen2
      have hk1 : (kk : Int) ≤ 140 := by omega
      have hk0 : (0 : Int) ≤ (kk : Int) := by omega
      have hmn : min (140 : Int) (IntKind.i64.wrap ((n : Int) - (i : Int) * 140)) = (kk : Int) := by rw [wrap_in _ (by omega)]; omega
      have HBd : Hid (Lib.IsBuilder 147 5 (hb + 1) (hb + 1) (secV (T.take (i * 140))) w1.drew) := builder_over (unhide HB1) (Hold.init w1).drew.below
      have Hszd : Hid (hb + 1 ≤ w1.drew.heap.size) := by have := (unhide HH1).ltAt (.head _); show hb + 1 ≤ w1.heap.size; omega
      have HHd : Hid (Hold w w1.drew [.cell hb 126 [.int .i64 half, .int .i64 n, .int .i64 f]]) := (unhide HH1).drew
      clear e87 er ew hD1 hce hhas e1 e2 hta hkk hS hPc pc2 elen2 ELen HB HH hw1 hmin
      go_wp2_with fail
      refine (unhide E87).mono ?_
      rintro e w2 ⟨rfl, rfl⟩
      clear E87
      go_wp2_with fail
      refine (unhide ER).mono ?_
      rintro e w2 ⟨rfl, rfl⟩
      clear ER
      go_wp2_with fail
      go_region_held (fun w' => w'.cell? ⟨hb, 1, none⟩ = some (.int .i64 n)) (first | exact unhide HS0 | exact unhide HS7) (first
        | (go_at_call 86; refine (unhide ELen2).mono ?_; rintro e w6 ⟨rfl, hw6⟩; subst hw6)
        | (go_at_call 88; refine (unhide EW _ ?_ ?_).mono ?_; exact unhide HBd; exact unhide Hszd; rintro e w7 ⟨rfl, hI7, hb7⟩; have hH7 := hold_cell_below (unhide HHd) (unhide Hhb) hb7; have HS7 : Hid (w7.cell? ⟨hb, 1, none⟩ = some (.int .i64 n)) := hH7.cellAt (.head _) rfl; have HI7 := hide hI7; have HH7 := hide hH7; clear hI7 hb7 hH7))
      all_goals
        go_wp2_with fail
        go_roundg (n + 1 - i)
        case measure => omega
        case rel => exact ⟨i + 1, by omega, by omega, fun _ => by simpa using hin, by simp, HI7, HH7⟩
    · have hmin : min (i * 140) n = n := by omega
      rw [hmin] at ELen
      have hnn : ¬ (n : Int) < (n : Int) := by omega
      have htk : T.take (i * 140) = T := List.take_of_length_le (by rw [unhide Hn]; omega)
      have HBt : Hid (∀ q, Lib.IsBuilder 147 5 (hb + 1) (hb + 1) (Lib.byteCells T) (wr.drewN q)) := fun q => by
        have := builder_over (unhide HB) ((Hold.init wr).drewN q).below
        rw [htk, secV_byte] at this
        exact this
      clear elen hlenT hmin htk HB
      go_wp2_with fail
      go_quiet ((go_at_call 86; exact Calls.quiet_of_same (unhide ELen _)))
      have HH1 := hide ((unhide HH).drewN nq)
      have hsz1 : hb + 1 ≤ (wr.drewN nq).heap.size := by have := (unhide HH1).ltAt (.head _); omega
      have es := Try.Builder_String_any (hb + 1) (hb + 1) T (wr.drewN nq) (unhide HBt nq) hsz1
      have es' : Calls Try.prog 90 #[.pointer (some ⟨hb + 1, 0, none⟩)] (wr.drewN nq) fun e w' => e = .returned (.string (mkB T)) ∧ Below (hb + 1) (wr.drewN nq) w' := es
      have ES := hide es'
      clear es es' ELen c0 c1
      go_wp2_with fail
      refine (unhide ES).mono ?_
      rintro e w2 ⟨rfl, hb2⟩
      have HH2 := hide (hold_cell_below (unhide HH1) (unhide Hhb) hb2)
      clear hb2 ES
      have e9 := unhide ERows w2
      unfold RowsEnd at e9
      have E9 := hide e9
      clear e9
      go_wp2_with fail
      refine (unhide E9).mono ?_
      rintro e w3 ⟨v, rfl, h3⟩
      have H3 := hide (((unhide HH2).forget []).join h3)
      obtain ⟨pv, cv, hv, _⟩ := row_slice (h3.rowAt (.head _))
      subst hv
      clear h3 E9
      go_wp2_with fail
      go_ret2
      exact ⟨_, rfl, by simpa using unhide H3⟩
#print axioms readRows_calls
end Go.Proofs.Ytcjfhfalffngjaa
