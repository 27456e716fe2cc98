/-
  The contract of the store's lay: rows are laid in a half, and last the head.
-/
import Derived.Test.YtcjfhfalffngjaaCSRange
import Derived.Test.YtcjfhfalffngjaaCSOpen
import Derived.Test.YtcjfhfalffngjaaCSLayP
namespace Go.Proofs.Ytcjfhfalffngjaa
open Go.RowKit Go.Lib
set_option maxRecDepth 100000
set_option linter.unusedVariables false
set_option linter.unusedSimpArgs false
attribute [local go_sem] Oper.semAt_some

theorem cutL_drop {T : List UInt8} {k : Nat} (h : k * 140 < T.length) : (cutL T).drop k = ((T.drop (k * 140)).take 140) :: (cutL T).drop (k + 1) := by
  have hl : k < (cutL T).length := by rw [cutL_length]; omega
  rw [List.drop_eq_getElem_cons hl]
  have hg := cutL_get h
  rw [List.getElem?_eq_getElem hl] at hg
  rw [Option.some.inj hg]
theorem cutL_done {T : List UInt8} {k : Nat} (h : T.length ≤ k * 140) : (cutL T).drop k = [] := List.drop_of_length_le (by rw [cutL_length]; omega)

theorem cut_next (T : List UInt8) (k : Nat) : (mkB (T.drop (k * 140))).extract (min (mkB (T.drop (k * 140))).size 140) (mkB (T.drop (k * 140))).size = mkB (T.drop ((k + 1) * 140)) := by
  rw [mkB_extract, mkB_size, List.take_of_length_le (Nat.le_refl _), List.drop_drop, List.length_drop]
  congr 1
  by_cases h : 140 ≤ T.length - k * 140
  · rw [Nat.min_eq_right h]; congr 1; omega
  · rw [Nat.min_eq_left (by omega), List.drop_of_length_le (by omega), List.drop_of_length_le (by omega)]
theorem cut_here (T : List UInt8) (k : Nat) : (mkB (T.drop (k * 140))).extract 0 (min (mkB (T.drop (k * 140))).size 140) = mkB ((T.drop (k * 140)).take 140) := by
  rw [mkB_extract, mkB_size, List.drop_zero]
  congr 1
  by_cases h : 140 ≤ (T.drop (k * 140)).length
  · rw [Nat.min_eq_right h]
  · rw [Nat.min_eq_left (by omega), List.take_of_length_le (Nat.le_refl _), List.take_of_length_le (by omega)]
/-- What lies beside the disk while lay goes on. -/
def layBase (B lb db half m g : Nat) (x : Value) (l2 : List Res) : List Res := logR lb db 90 m g 0 :: .cell (B + 1 + 1 + 1) 27 [x] :: .cell (B + 1 + 1) 77 [.pointer none] :: .cell (B + 1) 3 [.int .i64 half] :: .cell B 25 [.pointer (some ⟨db, 0, none⟩)] :: l2
def layLoop (Bx D : Nat) (s : Value) (r : Loop) (base : List Res) : List Res := .obj (D + 1) (.loop r) :: .obj D (.deferred (some [])) :: .cell Bx 9 [s] :: base
/-- k rounds have begun, j of them are done. -/
def LJ (w0 : World) (db : Nat) (d : DK) (T : List UInt8) (a0 Bx D : Nat) (r : Loop) (base : List Res) (k j : Nat) (s : ByteArray) (W : World) : Prop :=
  ∃ dk, DiskIn w0 W db dk (layLoop Bx D (.string s) r base) ∧ layP (cutL T) d a0 = layP ((cutL T).drop j) dk (a0 + j) ∧ dk.wr.length ≤ d.wr.length + j ∧ s = mkB (T.drop (k * 140))
def LX (w0 : World) (db : Nat) (d : DK) (T : List UInt8) (a0 Bx D : Nat) (r : Loop) (base : Value → List Res) (W : World) : Prop :=
  ∃ kk dk s, layP (cutL T) d a0 = (some kk, dk) ∧ DiskIn w0 W db dk (layLoop Bx D s { r with state := .done, pending := some .ret } (base (.iface 93 (.int .i64 kk))))

def LaidEnd (w0 : World) (db : Nat) (d : DK) (l2 : List Res) (v : Value) (L : List ChD) (half first : Nat) (e : Ending) (w' : World) : Prop :=
  match layD d half (textL L) (emptyF d first - 1) with
  | (none, d') => ∃ sb lb, e = .returned (.tuple #[.pointer (some ⟨sb, 0, none⟩), .nilIface]) ∧ DiskIn w0 w' db d' (storeR sb db half v lb :: logR lb db 90 (d.now.length - 90) (emptyF d first) 0 :: l2)
  | (some k, d') => e = .returned (.tuple #[.pointer none, .iface 93 (.int .i64 k)]) ∧ DiskIn w0 w' db d' l2

theorem lay_leave {n : Nat} {R : Ending → World → Prop} {tmps : Array Value} {W : World} {D B8 B9 : Nat} {x y : Value} {e : Exit} (he : e = .ret ∨ e = .normal) (hK : W.heap[D]? = some (.deferred (some [])))
    (ht8 : tmps[8]?.getD undef = .pointer (some ⟨B8, 0, none⟩)) (ht9 : tmps[9]?.getD undef = .pointer (some ⟨B9, 0, none⟩))
    (h8 : (W.putObj D (.deferred none)).cell? ⟨B8, 0, none⟩ = some x) (h9 : (W.putObj D (.deferred none)).cell? ⟨B9, 0, none⟩ = some y)
    (hR : R (.returned (.tuple #[x, y])) (W.putObj D (.deferred none))) : bodyPostM Fence.wide n Try.prog Try.f75 R e { tmps := tmps, defers := [{ target := .collected D, args := #[] }] } W := by
  have key : LeavesInM Fence.wide n Try.prog Try.f75 tmps R [{ target := .collected D, args := #[] }] .returning W := by
    refine ⟨by simp, .inl ⟨_, _, rfl, run_takeDeferred hK, ?_⟩⟩
    refine ⟨_, ?_, hR⟩
    have hres : Try.f75.results = #[.cell 8 77, .cell 9 27] := by kernel_rfl
    simp only [results, hres]
    simp [go_sem, ht8, ht9, h8, h9]

  rcases he with rfl | rfl <;> exact key
theorem wp_calm {P : Program} {c : Code} {Q : Exit → Go.Act → World → Prop} {a : Go.Act} {w : World} (h : c.wp P (fun e a' w' => match e with
    | .normal => Q .normal a' w'
    | _ => False) a w) : c.wp P Q a w :=
  wp_mono h fun e a' w' hx => by cases e <;> first | exact hx | exact hx.elim
theorem layD_some {d d1 : DK} {half f1 : Nat} {T : List UInt8} {e : Int} (h : layP (cutL T) d (1 + half * 44) = (some e, d1)) : layD d half T f1 = (some e, d1) := by unfold layD; rw [h]
theorem layD_none {d d1 : DK} {half f1 : Nat} {T : List UInt8} (h : layP (cutL T) d (1 + half * 44) = (none, d1)) : layD d half T f1 = layP [headL half T.length f1] d1 0 := by unfold layD; rw [h]
theorem Hold.sub {w0 w : World} {l2 l3 : List Res} (h : Hold w0 w l2) (hs : l3.Sublist l2) : Hold w0 w l3 := by
  refine h.conv (fun x => ?_) fun r hr => h.sat r (hs.subset hr)
  clear h
  induction hs with
  | slnil => exact Nat.le_refl _
  | cons a _ ih => rw [total_cons]; omega
  | cons_cons a _ ih => rw [total_cons, total_cons]; omega
theorem DiskIn.sub {w0 w : World} {db : Nat} {d : DK} {l2 l3 : List Res} (h : DiskIn w0 w db d l2) (hs : l3.Sublist l2) : DiskIn w0 w db d l3 := by
  obtain ⟨dp, h1, h2⟩ := h.back
  exact h2 w l3 (h1.sub (hs.append_right dp))
set_option maxHeartbeats 4000000 in
theorem lay75_calls {w0 w : World} {db : Nat} {d : DK} {l2 : List Res} (h : DiskIn w0 w db d l2) (hdn : d.down = false) (hlen : 104 ≤ d.now.length) (hwr : d.wr.length ≤ 1000) (v : Value) (L : List ChD) (hv : ∀ w', Hold w0 w' l2 → ChL w' v L) (hn : L.length ≤ 64) (hc : ∀ c ∈ L, checkP c = none) (half : Nat) (hh : half ≤ 1) (first : Nat) (hf0 : 1 ≤ first) (hf : first ≤ 900000) :
    Calls Try.prog 75 #[.pointer (some ⟨db, 0, none⟩), v, .int .i64 half, .int .i64 first] w fun e w' => LaidEnd w0 db d l2 v L half first e w' := by
  obtain ⟨pv, cv, hvv⟩ := ChOk.slice (hv w h.hold)
  subst hvv
  have hB : ∃ B, w.heap.size = B := ⟨_, rfl⟩
  obtain ⟨B, hB⟩ := hB
  have h1 := (((h.made 25 [.pointer (some ⟨db, 0, none⟩)]).made 3 [.int .i64 half]).made 77 [.pointer none]).made 27 [.nilIface]
  simp only [World.size_alloc, hB] at h1
  obtain ⟨wa, hwa⟩ : ∃ wa, (((w.alloc (.cells [.pointer (some ⟨db, 0, none⟩)].toArray 25)).alloc (.cells [.int .i64 half].toArray 3)).alloc (.cells [.pointer none].toArray 77)).alloc (.cells [.nilIface].toArray 27) = wa := ⟨_, rfl⟩
  rw [hwa] at h1
  have e1 := emptyLog_calls h1 hdn first hf0 hf (by omega)
  unfold EmptyEnd at e1
  have k4 : wa.cell? ⟨B, 0, none⟩ = some (.pointer (some ⟨db, 0, none⟩)) := h1.cellAt (.tail _ (.tail _ (.tail _ (.head _)))) rfl
  have E1 := hide e1
  have H := hide h
  have HV := hide hv
  have HC := hide hc
  clear e1 h1 h hv hc
  refine (callsIn_wide (n := 3)).1 ?_
  refine callsIn_of_wp_marks Try.func75 rfl trivial ?_ rfl
  refine wpIn_wide.2 ?_
  simp only [Try.ntmps75, List.size_toArray, List.length_cons, List.length_nil, Nat.reduceAdd, Nat.reduceSub, Array.replicate_succ, Array.replicate_zero, List.push_toArray, List.append_toArray, List.nil_append, List.cons_append]
  go_wp2_with fail
  refine (unhide E1).mono ?_
  rintro e w1 ⟨lb, rfl, hD1⟩
  clear E1 hwa k4
  obtain ⟨g, hg⟩ : ∃ g, emptyF d first = g := ⟨_, rfl⟩
  rw [hg] at hD1
  have hlL : L.length = (L.length) := rfl
  have et := textOf_calls _ L w1 (unhide HV w1 (DiskIn.lose [_, _, _, _, _] hD1).hold) (by omega) (unhide HC)
  have ET := hide et
  have HD1 : Hid (DiskIn w0 w1 db d (layBase B lb db half (d.now.length - 90) g .nilIface l2)) := hD1
  clear et hD1
  go_wp2_with fail
  refine (unhide ET).mono ?_
  rintro e w2 ⟨rfl, hB2⟩
  have HD2 := hide ((unhide HD1).over hB2)
  obtain ⟨T, hT⟩ : ∃ T, textL L = T := ⟨_, rfl⟩
  have ec := cut_calls (mkB (textL L)) w2
  rw [hT] at ec
  simp only [hT]
  have EC := hide ec
  clear ec ET HD1 hB2
  go_wp2_with fail
  refine (unhide EC).mono ?_
  rintro e w3 ⟨rfl, hw3⟩
  have HD3 : Hid (DiskIn w0 w3 db d (.cell w2.heap.size 9 [.string (mkB T)] :: layBase B lb db half (d.now.length - 90) g .nilIface l2)) := by
    rw [hw3]; exact (unhide HD2).made 9 [.string (mkB T)]
  obtain ⟨Bx, hBx⟩ : ∃ Bx, w2.heap.size = Bx := ⟨_, rfl⟩
  rw [hBx] at HD3 ⊢
  clear EC HD2 hw3 hBx
  go_wp2_with fail
  refine range_at (n := 3) (gf := 100) (lb := #[.pointer (some ⟨Bx, 0, none⟩)]) rfl (enters_of Try.func100 (by kernel_rfl) rfl) ?_
  intro fn r hr
  have hmx : Try.prog.follows .mixedOrders = true := by kernel_rfl
  have HD4 : Hid (DiskIn w0 ((w3.alloc (.deferred (some []))).alloc (.loop r)) db d (layLoop Bx w3.heap.size (.string (mkB T)) r (layBase B lb db half (d.now.length - 90) g .nilIface l2))) := by
    have h5 := ((unhide HD3).newObj (.deferred (some []))).newObj (.loop r)
    rw [World.size_alloc] at h5
    exact h5
  obtain ⟨w4, hw4⟩ : ∃ w4, (w3.alloc (.deferred (some []))).alloc (.loop r) = w4 := ⟨_, rfl⟩
  rw [hw4] at HD4 ⊢
  obtain ⟨D, hD⟩ : ∃ D, w3.heap.size = D := ⟨_, rfl⟩
  rw [hD] at HD4 hr ⊢
  clear hw4 hD HD3
  have hTl : T.length ≤ 6080 := by have := textL_length (unhide HC); rw [hT] at this; omega
  refine (cut1_in (3 - 1) (D + 1) Bx (by omega) (fun k s W => LJ w0 db d T (1 + half * 44) Bx D r (layBase B lb db half (d.now.length - 90) g .nilIface l2) k k s W)
    (fun k s W => LJ w0 db d T (1 + half * 44) Bx D r (layBase B lb db half (d.now.length - 90) g .nilIface l2) k (k + 1) s W)
    (fun W => LX w0 db d T (1 + half * 44) Bx D r (fun x => layBase B lb db half (d.now.length - 90) g x l2) W) ?_ ?_ ?_ (mkB T) (by rw [mkB_size]; omega) w4 ?_).mono ?_
  · rintro k s W ⟨dk, hk, -⟩
    exact ⟨hk.cellAt (.tail _ (.tail _ (.head _))) rfl, hk.hold.frozenAt (.tail _ (.tail _ (.head _))) 0⟩
  · rintro k s W ⟨dk, hk, hl, hw, hs⟩
    refine ⟨hk.cellAt (.tail _ (.tail _ (.head _))) rfl, hk.hold.frozenAt (.tail _ (.tail _ (.head _))) 0, dk, DiskIn.store [_, _] hk 0 _ _ rfl, hl, hw, ?_⟩
    rw [hs]
    exact cut_next T k
  · rintro k s W ⟨dk, hk, hl, hw, hs⟩ hpos
    have hkT : k * 140 < T.length := by
      rw [hs, mkB_size, List.length_drop] at hpos
      omega
    have hS : s.extract 0 (min s.size 140) = mkB ((T.drop (k * 140)).take 140) := by
      rw [hs]
      exact cut_here T k
    rw [hS]
    obtain ⟨R, hR⟩ : ∃ R : Ending → World → Prop, R = fun e W' => (e = .returned (.bool true) ∧ LJ w0 db d T (1 + half * 44) Bx D r (layBase B lb db half (d.now.length - 90) g .nilIface l2) k (k + 1) s W') ∨ (e = .returned (.bool false) ∧ LX w0 db d T (1 + half * 44) Bx D r (fun x => layBase B lb db half (d.now.length - 90) g x l2) W') := ⟨_, rfl⟩
    refine YieldAt.mono (R := R) ?_ (by rw [hR]; exact fun e w h => h)
    have hobj : W.heap[D + 1]? = some (.loop r) := hk.hold.objAt (.head _)
    have hE := hl
    rw [cutL_drop hkT, layP] at hE
    obtain ⟨pc, hpc⟩ : ∃ pc, (T.drop (k * 140)).take 140 = pc := ⟨_, rfl⟩
    rw [hpc] at hE ⊢
    refine round_at2 (a₁ := ?a1) hobj (by rw [hr]) (by rw [hr]; rfl) ?asg ?bdy
    case asg =>
      intro K hK
      rw [hr]
      dsimp only
      gi_wp2
      exact hK
    case bdy =>
      have HDb : Hid (DiskIn w0 (W.putObj (D + 1) (.loop { r with state := .busy })) db dk (layLoop Bx D (.string s) { r with state := .busy } (layBase B lb db half (d.now.length - 90) g .nilIface l2))) := DiskIn.putObj [] hk _
      obtain ⟨W1, hW1⟩ : ∃ W1, W.putObj (D + 1) (.loop { r with state := .busy }) = W1 := ⟨_, rfl⟩
      rw [hW1] at HDb ⊢
      have k4 : W1.cell? ⟨B, 0, none⟩ = some (.pointer (some ⟨db, 0, none⟩)) := (unhide HDb).cellAt (.tail _ (.tail _ (.tail _ (.tail _ (.tail _ (.tail _ (.tail _ (.head _)))))))) rfl
      have k6 : W1.cell? ⟨B + 1, 0, none⟩ = some (.int .i64 half) := (unhide HDb).cellAt (.tail _ (.tail _ (.tail _ (.tail _ (.tail _ (.tail _ (.head _))))))) rfl
      have Hs := hide hs
      clear hW1 hk hobj hS hl hpos hs HD4
      have HR := hide hR
      have HE := hide hE
      clear hR hE hpc
      rw [hr]
      dsimp only
      have hes := fun wx => start_calls half hh wx
      have hkk : k ≤ 6080 := by omega
      have hdw : dk.wr.length ≤ 10000 := by omega
      have HES := hide hes
      clear hes
      have ew := write_calls w0 W1.drew db dk _ (unhide HDb).drew (by omega) ((1 + half * 44 + k : Nat) : Int) (mkB pc)
      unfold WriteEnd at ew
      rw [mkB_list] at ew
      have hic : ((1 + half * 44 + k : Nat) : Int) = 1 + (half : Int) * 44 + (k : Int) := by omega
      have hwz : IntKind.i64.wrap (((1 + half * 44 : Nat) : Int) + (k : Int)) = ((1 + half * 44 + k : Nat) : Int) := by rw [wrap_in _ (by omega)]; omega
      rw [← hwz] at ew
      have EW := hide ew
      have hwq := written_wr dk ((1 + half * 44 + k : Nat) : Int) pc
      have HWQ := hide hwq
      have HWZ := hide hwz
      obtain ⟨st, hst⟩ : ∃ st, 1 + half * 44 = st := ⟨_, rfl⟩
      rw [hst] at HES EW HE HWZ HWQ HR
      clear ew hic hwz hwq hst
      gi_wp2
      refine wpIn_cut { tmps := #[.pointer (some ⟨db, 0, none⟩), .slice pv L.length cv, .int .i64 half, .int .i64 g, .pointer (some ⟨B, 0, none⟩), undef, .pointer (some ⟨B + 1, 0, none⟩), undef, .pointer (some ⟨B + 1 + 1, 0, none⟩), .pointer (some ⟨B + 1 + 1 + 1, 0, none⟩), .pointer (some ⟨lb, 0, none⟩), .nilIface, .string (mkB T), .int .i64 k, .string (mkB pc), errV (dk.writeE (IntKind.i64.wrap ((st : Int) + (k : Int))) pc), undef, undef, undef, .tuple #[.pointer (some ⟨lb, 0, none⟩), .int .i64 g, .nilIface], .pointer (some ⟨db, 0, none⟩), .int .i64 first, .tuple #[.pointer (some ⟨lb, 0, none⟩), .int .i64 g, .nilIface], .pointer (some ⟨lb, 0, none⟩), .int .i64 g, .nilIface, .nilIface, .bool false, undef, .tuple #[.string (mkB T), .nilIface], .slice pv L.length cv, .tuple #[.string (mkB T), .nilIface], .string (mkB T), .nilIface, .nilIface, .bool false, undef, .string (mkB T), .func (.func 100) #[] #[.pointer (some ⟨Bx, 0, none⟩)], .int .i64 k, .string (mkB pc), .pointer (some ⟨db, 0, none⟩), .int .i64 half, .int .i64 st, .int .i64 k, .int .i64 (IntKind.i64.wrap ((st : Int) + (k : Int))), .string (mkB pc), errV (dk.writeE (IntKind.i64.wrap ((st : Int) + (k : Int))) pc), undef, undef, undef, undef, undef, undef, undef, undef, undef, undef, undef, undef, undef, undef, undef, undef, undef, undef, undef, undef, undef, undef, undef, undef, undef, undef, undef, undef, undef, undef], defers := [] } (fun w' => DiskIn w0 w' db (dk.written (IntKind.i64.wrap ((st : Int) + (k : Int))) pc) (layLoop Bx D (.string s) { r with state := .busy } (layBase B lb db half (d.now.length - 90) g .nilIface l2))) ?reg ?rest
      case reg =>

        gi_region_with_o (first | (refine ⟨trivial, ?_⟩; gi_at_call 87; refine (CallsIn.inRound (D + 1) (callsIn_wide.2 (unhide HES _))).mono ?_; rintro e w' ⟨rfl, rfl⟩) | (refine ⟨trivial, ?_⟩; gi_at_call 16; refine (CallsIn.inRound (D + 1) (callsIn_wide.2 (unhide EW))).mono ?_; rintro e w6 ⟨rfl, hD6⟩))
        all_goals exact ⟨rfl, rfl, hD6⟩
      case rest =>
        intro w6 hD6
        rw [unhide HWZ] at hD6 ⊢
        have hE := unhide HE
        have HDl : Hid (DiskIn w0 w6 db _ _) := hD6
        have k8 : w6.cell? ⟨B + 1 + 1, 0, none⟩ = some (.pointer none) := hD6.cellAt (.tail _ (.tail _ (.tail _ (.tail _ (.tail _ (.head _)))))) rfl
        have f8 := hD6.hold.frozenAt (.tail _ (.tail _ (.tail _ (.tail _ (.tail _ (.head _)))))) 0
        have k9 : w6.cell? ⟨B + 1 + 1 + 1, 0, none⟩ = some (.nilIface) := hD6.cellAt (.tail _ (.tail _ (.tail _ (.tail _ (.head _))))) rfl
        have f9 := hD6.hold.frozenAt (.tail _ (.tail _ (.tail _ (.tail _ (.head _))))) 0
        clear hD6 k4 k6
        cases ho : dk.writeE ((st + k : Nat) : Int) pc with
        | none =>
          rw [ho] at hE
          simp only [errV] at hE ⊢
          have HE2 := hide hE
          clear hE HE ho EW HES
          gi_wp2
          have hrun : (Instr.endRound (D + 1) none).run Try.prog w6 = .ok (.bool true) (w6.putObj (D + 1) (.loop r)) := by
            refine (run_endRound (P := Try.prog) none ((unhide HDl).hold.objAt (.head _))).trans ?_
            rw [hr]
            rfl
          refine ⟨_, _, hrun, ?_⟩
          rw [unhide HR]
          refine .inl ⟨rfl, _, DiskIn.putObj [] (unhide HDl) _, unhide HE2, ?_, unhide Hs⟩
          have := unhide HWQ
          omega
        | some kk =>
          rw [ho] at hE
          simp only [errV] at hE ⊢
          have HE2 := hide hE
          clear hE HE ho EW HES
          gi_wp2
          have h8 := DiskIn.store [_, _, _, _, _] (unhide HDl) 0 (.pointer none) _ rfl
          have h9 := DiskIn.store [_, _, _, _] h8 0 (.iface 93 (.int .i64 kk)) _ rfl
          refine ⟨_, _, run_endRound (some .ret) (h9.hold.objAt (.head _)), ?_⟩
          rw [unhide HR]
          exact .inr ⟨rfl, kk, _, _, unhide HE2, DiskIn.putObj [] h9 _⟩
  · exact ⟨d, unhide HD4, rfl, Nat.le_refl _, by simp⟩
  · rintro e W ⟨⟨v, rfl⟩, (⟨m, s, hs, dk, hk, hl, hw, hs2⟩ | ⟨kk, dk, s, hl, hk⟩)⟩
    · have hTd : T.length ≤ m * 140 := by
        rw [hs2, mkB_size, List.length_drop] at hs
        omega
      rw [cutL_done hTd, layP] at hl
      have hend : (Instr.endLoop (D + 1)).run Try.prog W = .ok none (W.putObj (D + 1) (.loop { r with state := .exhausted })) := by
        refine (run_endLoop (P := Try.prog) (hk.hold.objAt (.head _)) (by rw [hr]; simp)).trans ?_
        rw [hr]
      refine ⟨none, _, hend, ?_⟩
      have HD5 : Hid (DiskIn w0 (W.putObj (D + 1) (.loop { r with state := .exhausted })) db dk (layLoop Bx D (.string s) { r with state := .exhausted } (layBase B lb db half (d.now.length - 90) g .nilIface l2))) := DiskIn.putObj [] hk _
      obtain ⟨W5, hW5⟩ : ∃ W5, W.putObj (D + 1) (.loop { r with state := .exhausted }) = W5 := ⟨_, rfl⟩
      rw [hW5] at HD5 ⊢
      obtain ⟨r5, hr5⟩ : ∃ r5 : Loop, { r with state := .exhausted } = r5 := ⟨_, rfl⟩
      rw [hr5] at HD5
      have k4 : W5.cell? ⟨B, 0, none⟩ = some (.pointer (some ⟨db, 0, none⟩)) := (unhide HD5).cellAt (.tail _ (.tail _ (.tail _ (.tail _ (.tail _ (.tail _ (.tail _ (.head _)))))))) rfl
      have ef := flush_calls w0 W5 db dk _ (unhide HD5)
      unfold FlushEnd at ef
      have EF := hide ef
      have HL := hide hl
      clear ef hl hW5 hr5 hend hk hw hs hs2 hTd hr HD4
      simp only [List.cons_append, List.nil_append]
      obtain ⟨q1, q2, q3, q4⟩ := emptyF_read d first
      rw [hg] at q3 q4
      have Hg := hide hg
      have hg1 : ((g - 1 : Nat) : Int) + 1 = (g : Int) := by omega
      have e94 := fun wx : World => tell94_calls half T.length (g - 1) hh (by omega) (by omega) wx
      rw [hg1] at e94
      have hsz : (mkB T).size = T.length := mkB_size T
      rw [← hsz] at e94
      have E94 := hide e94
      have HT := hide hT
      clear e94 q1 q2 hT hg
      go_wp2_with fail
      refine (unhide EF).mono ?_
      rintro e w6 ⟨rfl, hD6⟩
      have HD6 := hide hD6
      have k4 : w6.cell? ⟨B, 0, none⟩ = some (.pointer (some ⟨db, 0, none⟩)) := hD6.cellAt (.tail _ (.tail _ (.tail _ (.tail _ (.tail _ (.tail _ (.tail _ (.head _)))))))) rfl
      have k6 : w6.cell? ⟨B + 1, 0, none⟩ = some (.int .i64 half) := hD6.cellAt (.tail _ (.tail _ (.tail _ (.tail _ (.tail _ (.tail _ (.head _))))))) rfl
      have k8 : w6.cell? ⟨B + 1 + 1, 0, none⟩ = some (.pointer none) := hD6.cellAt (.tail _ (.tail _ (.tail _ (.tail _ (.tail _ (.head _)))))) rfl
      have f8 := hD6.hold.frozenAt (.tail _ (.tail _ (.tail _ (.tail _ (.tail _ (.head _)))))) 0
      have k9 : w6.cell? ⟨B + 1 + 1 + 1, 0, none⟩ = some (.nilIface) := hD6.cellAt (.tail _ (.tail _ (.tail _ (.tail _ (.head _))))) rfl
      have f9 := hD6.hold.frozenAt (.tail _ (.tail _ (.tail _ (.tail _ (.head _))))) 0
      clear hD6 EF HD5
      cases hfe : dk.flushE with
      | some kk =>
        have hLd : layD d half (textL L) (emptyF d first - 1) = (some kk, dk.flushed) := layD_some (by rw [unhide HT, unhide HL, hfe])
        have HLd := hide hLd
        simp only [errV]
        clear E94 hfe hLd HL
        go_wp2_with fail
        have h8 := DiskIn.store [_, _, _, _, _] (unhide HD6) 0 (.pointer none) _ rfl
        have h9 := DiskIn.store [_, _, _, _] h8 0 (.iface 93 (.int .i64 kk)) _ rfl
        have h10 := DiskIn.putObj [_] h9 (.deferred none)
        refine lay_leave (.inl rfl) (h9.hold.objAt (.tail _ (.head _))) rfl rfl (h10.cellAt (.tail _ (.tail _ (.tail _ (.tail _ (.tail _ (.head _)))))) rfl) (h10.cellAt (.tail _ (.tail _ (.tail _ (.tail _ (.head _))))) rfl) ?_
        unfold LaidEnd
        rw [unhide HLd]
        exact ⟨rfl, DiskIn.lose [_, _, _, _, _, _, _, _] h10⟩
      | none =>
        obtain ⟨d1, hd1⟩ : ∃ d1, dk.flushed = d1 := ⟨_, rfl⟩
        rw [hd1] at HD6
        have hLd : layD d half (textL L) (emptyF d first - 1) = layP [headL half (mkB T).size (g - 1)] d1 0 := by
          rw [unhide Hg, hsz, unhide HT]; exact layD_none (by rw [unhide HL, hfe, hd1])
        have hwf : d1.wr.length ≤ 10000 := by rw [← hd1, flushed_wr dk hfe]; exact Nat.zero_le _
        have HLd := hide hLd
        simp only [errV]
        obtain ⟨hb, hhb⟩ : ∃ hb, headL half (mkB T).size (g - 1) = hb := ⟨_, rfl⟩
        rw [hhb] at HLd
        have e94' := unhide E94
        rw [hhb] at e94'
        have E94' := hide e94'
        have ew := fun (wx : World) (hx : DiskIn w0 wx db d1 _) => write_calls w0 wx db d1 (layLoop Bx D (.string s) r5 (layBase B lb db half (d.now.length - 90) g .nilIface l2)) hx (by omega) 0 (mkB hb)
        unfold WriteEnd at ew
        simp only [mkB_list] at ew
        have EW := hide ew
        have HSx : Hid (∀ wx dx, DiskIn w0 wx db dx (layLoop Bx D (.string s) r5 (layBase B lb db half (d.now.length - 90) g .nilIface l2)) → wx.cell? ⟨B, 0, none⟩ = some (.pointer (some ⟨db, 0, none⟩)) ∧ wx.cell? ⟨B + 1, 0, none⟩ = some (.int .i64 half)) :=
          fun wx dx hx => ⟨hx.cellAt (.tail _ (.tail _ (.tail _ (.tail _ (.tail _ (.tail _ (.tail _ (.head _)))))))) rfl, hx.cellAt (.tail _ (.tail _ (.tail _ (.tail _ (.tail _ (.tail _ (.head _))))))) rfl⟩
        have HS0 : Hid (w6.drew.cell? ⟨B, 0, none⟩ = some (.pointer (some ⟨db, 0, none⟩)) ∧ w6.drew.cell? ⟨B + 1, 0, none⟩ = some (.int .i64 half)) := ⟨k4, k6⟩
        have HDr := hide (unhide HD6).drew
        clear ew e94' E94 hhb hLd hd1 hfe HL hwf k8 f8 k9 f9
        go_wp2_with fail
        refine wp_calm ?_
        go_region_held (fun w' => w'.cell? ⟨B, 0, none⟩ = some (.pointer (some ⟨db, 0, none⟩)) ∧ w'.cell? ⟨B + 1, 0, none⟩ = some (.int .i64 half)) (first | exact unhide HS8 | exact unhide HS7 | exact unhide HS0) ((first | (go_at_call 94; refine (unhide E94' _).mono ?_; rintro e w7 ⟨rfl, hB7⟩; have HD7 := hide ((unhide HDr).over hB7); have HS7 := hide (unhide HSx _ _ (unhide HD7)); clear hB7) | (go_at_call 16; refine (unhide EW _ ?_).mono ?_; exact unhide HD7; rintro e w8 ⟨rfl, hD8⟩; have HS8 := hide (unhide HSx _ _ hD8); have HD8 := hide hD8; clear hD8)))
        dsimp only
        have k4 : w8.cell? ⟨B, 0, none⟩ = some (.pointer (some ⟨db, 0, none⟩)) := (unhide HD8).cellAt (.tail _ (.tail _ (.tail _ (.tail _ (.tail _ (.tail _ (.tail _ (.head _)))))))) rfl
        have k8 : w8.cell? ⟨B + 1 + 1, 0, none⟩ = some (.pointer none) := (unhide HD8).cellAt (.tail _ (.tail _ (.tail _ (.tail _ (.tail _ (.head _)))))) rfl
        have f8 := (unhide HD8).hold.frozenAt (.tail _ (.tail _ (.tail _ (.tail _ (.tail _ (.head _)))))) 0
        have k9 : w8.cell? ⟨B + 1 + 1 + 1, 0, none⟩ = some (.nilIface) := (unhide HD8).cellAt (.tail _ (.tail _ (.tail _ (.tail _ (.head _))))) rfl
        have f9 := (unhide HD8).hold.frozenAt (.tail _ (.tail _ (.tail _ (.tail _ (.head _))))) 0
        cases hwe : d1.writeE 0 hb with
        | some kk =>
          have hLd : layD d half (textL L) (emptyF d first - 1) = (some kk, d1.written 0 hb) := by
            rw [unhide HLd, layP]; simp only [Int.natCast_zero]; rw [hwe]
          have HLe := hide hLd
          simp only [errV]
          clear hLd hwe EW E94' HLd HD7 HS7 HS8 HDr HS0 HSx HD6
          go_wp2_with fail
          have h8 := DiskIn.store [_, _, _, _, _] (unhide HD8) 0 (.pointer none) _ rfl
          have h9 := DiskIn.store [_, _, _, _] h8 0 (.iface 93 (.int .i64 kk)) _ rfl
          have h10 := DiskIn.putObj [_] h9 (.deferred none)
          refine lay_leave (.inl rfl) (h9.hold.objAt (.tail _ (.head _))) rfl rfl (h10.cellAt (.tail _ (.tail _ (.tail _ (.tail _ (.tail _ (.head _)))))) rfl) (h10.cellAt (.tail _ (.tail _ (.tail _ (.tail _ (.head _))))) rfl) ?_
          unfold LaidEnd
          rw [unhide HLe]
          exact ⟨rfl, DiskIn.lose [_, _, _, _, _, _, _, _] h10⟩
        | none =>
          obtain ⟨d2, hd2⟩ : ∃ d2, d1.written 0 hb = d2 := ⟨_, rfl⟩
          have hLd : layD d half (textL L) (emptyF d first - 1) = (d2.flushE, d2.flushed) := by
            rw [unhide HLd, layP]; simp only [Int.natCast_zero]; rw [hwe]; simp only; rw [hd2, layP]
          have HLe := hide hLd
          rw [hd2] at HD8
          have ef := flush_calls w0 w8 db d2 _ (unhide HD8)
          unfold FlushEnd at ef
          have EF := hide ef
          simp only [errV]
          clear hLd hwe EW E94' HLd HD7 HS7 HS8 HDr HS0 HSx HD6 hd2 ef k8 f8 k9 f9
          go_wp2_with fail
          refine (unhide EF).mono ?_
          rintro e w9 ⟨rfl, hD9⟩
          have HD9 := hide hD9
          have k4 : w9.cell? ⟨B, 0, none⟩ = some (.pointer (some ⟨db, 0, none⟩)) := hD9.cellAt (.tail _ (.tail _ (.tail _ (.tail _ (.tail _ (.tail _ (.tail _ (.head _)))))))) rfl
          have k6 : w9.cell? ⟨B + 1, 0, none⟩ = some (.int .i64 half) := hD9.cellAt (.tail _ (.tail _ (.tail _ (.tail _ (.tail _ (.tail _ (.head _))))))) rfl
          have k8 : w9.cell? ⟨B + 1 + 1, 0, none⟩ = some (.pointer none) := hD9.cellAt (.tail _ (.tail _ (.tail _ (.tail _ (.tail _ (.head _)))))) rfl
          have f8 := hD9.hold.frozenAt (.tail _ (.tail _ (.tail _ (.tail _ (.tail _ (.head _)))))) 0
          have k9 : w9.cell? ⟨B + 1 + 1 + 1, 0, none⟩ = some (.nilIface) := hD9.cellAt (.tail _ (.tail _ (.tail _ (.tail _ (.head _))))) rfl
          have f9 := hD9.hold.frozenAt (.tail _ (.tail _ (.tail _ (.tail _ (.head _))))) 0
          clear hD9 EF
          cases hfe : d2.flushE with
          | some kk =>
            rw [hfe] at HLe
            simp only [errV]
            clear hfe
            go_wp2_with fail
            have h8 := DiskIn.store [_, _, _, _, _] (unhide HD9) 0 (.pointer none) _ rfl
            have h9 := DiskIn.store [_, _, _, _] h8 0 (.iface 93 (.int .i64 kk)) _ rfl
            have h10 := DiskIn.putObj [_] h9 (.deferred none)
            refine lay_leave (.inl rfl) (h9.hold.objAt (.tail _ (.head _))) rfl rfl (h10.cellAt (.tail _ (.tail _ (.tail _ (.tail _ (.tail _ (.head _)))))) rfl) (h10.cellAt (.tail _ (.tail _ (.tail _ (.tail _ (.head _))))) rfl) ?_
            unfold LaidEnd
            rw [unhide HLe]
            exact ⟨rfl, DiskIn.lose [_, _, _, _, _, _, _, _] h10⟩
          | none =>
            rw [hfe] at HLe
            simp only [errV]
            clear hfe
            have h1 := (unhide HD9).made 133 [.pointer (some ⟨db, 0, none⟩), .int .i64 half, .slice pv L.length cv, .pointer (some ⟨lb, 0, none⟩)]
            obtain ⟨sb, hsb⟩ : ∃ sb, w9.heap.size = sb := ⟨_, rfl⟩
            rw [hsb] at h1
            obtain ⟨wb, hwb⟩ : ∃ wb, w9.alloc (.cells [.pointer (some ⟨db, 0, none⟩), .int .i64 half, .slice pv L.length cv, .pointer (some ⟨lb, 0, none⟩)].toArray 133) = wb := ⟨_, rfl⟩
            rw [hwb] at h1
            have HDb := hide h1
            have c8 : wb.cell? ⟨B + 1 + 1, 0, none⟩ = some (.pointer none) := h1.cellAt (.tail _ (.tail _ (.tail _ (.tail _ (.tail _ (.tail _ (.head _))))))) rfl
            have g8 := h1.hold.frozenAt (.tail _ (.tail _ (.tail _ (.tail _ (.tail _ (.tail _ (.head _))))))) 0
            have c9 : wb.cell? ⟨B + 1 + 1 + 1, 0, none⟩ = some (.nilIface) := h1.cellAt (.tail _ (.tail _ (.tail _ (.tail _ (.tail _ (.head _)))))) rfl
            have g9 := h1.hold.frozenAt (.tail _ (.tail _ (.tail _ (.tail _ (.tail _ (.head _)))))) 0
            clear h1
            go_wp2_with fail
            have h8 := DiskIn.store [_, _, _, _, _, _] (unhide HDb) 0 (.pointer (some ⟨sb, 0, none⟩)) _ rfl
            have h9 := DiskIn.store [_, _, _, _, _] h8 0 .nilIface _ rfl
            have h10 := DiskIn.putObj [_, _] h9 (.deferred none)
            refine lay_leave (.inl rfl) (h9.hold.objAt (.tail _ (.tail _ (.head _)))) rfl rfl (h10.cellAt (.tail _ (.tail _ (.tail _ (.tail _ (.tail _ (.tail _ (.head _))))))) rfl) (h10.cellAt (.tail _ (.tail _ (.tail _ (.tail _ (.tail _ (.head _)))))) rfl) ?_
            unfold LaidEnd
            rw [unhide HLe, unhide Hg]
            exact ⟨sb, lb, rfl, h10.sub (.cons_cons _ (.cons _ (.cons _ (.cons _ (.cons_cons _ (.cons _ (.cons _ (.cons _ (.cons _ (.refl _))))))))))⟩
    · have hLd : layD d half (textL L) (emptyF d first - 1) = (some kk, dk) := layD_some (by rw [hT, hl])
      have hend : (Instr.endLoop (D + 1)).run Try.prog W = .ok (some .ret) (W.putObj (D + 1) (.loop { { r with state := .done, pending := some .ret } with state := .exhausted })) :=
        run_endLoop (P := Try.prog) (hk.hold.objAt (.head _)) (by simp)
      refine ⟨some .ret, _, hend, ?_⟩
      have h9 := DiskIn.putObj [] hk (.loop { { r with state := .done, pending := some .ret } with state := .exhausted })
      have h10 := DiskIn.putObj [_] h9 (.deferred none)
      refine wpIn_wide.2 ?_
      refine wp_ret ?_
      refine lay_leave (.inl rfl) (h9.hold.objAt (.tail _ (.head _))) rfl rfl (h10.cellAt (.tail _ (.tail _ (.tail _ (.tail _ (.tail _ (.head _)))))) rfl) (h10.cellAt (.tail _ (.tail _ (.tail _ (.tail _ (.head _))))) rfl) ?_
      unfold LaidEnd
      rw [hLd]
      exact ⟨rfl, DiskIn.lose [_, _, _, _, _, _, _, _] h10⟩
#print axioms lay75_calls
end Go.Proofs.Ytcjfhfalffngjaa
