/-
  The small contracts of the store: start, openLog, emptyLog, take. A region that draws its order and whose callees only lay new blocks: one walk of the text's own order serves (the class of worlds: later ones, in which all that was there is as it was). The contract of goodRows by it.
-/
import Derived.Test.YtcjfhfalffngjaaCLTop
import Derived.Test.YtcjfhfalffngjaaCRowB
import Derived.BigQuiet
namespace Go.Proofs.Ytcjfhfalffngjaa
open Go.RowKit Go.Lib
set_option maxRecDepth 100000
set_option linter.unusedVariables false
set_option linter.unusedSimpArgs false

theorem start_calls (half : Nat) (hh : half ≤ 1) (w : World) : Calls Try.prog 87 #[.int .i64 half] w fun e w' => e = .returned (.int .i64 ((1 + half * 44 : Nat) : Int)) ∧ w' = w := by
  have he : ((1 + half * 44 : Nat) : Int) = 1 + (half : Int) * 44 := by omega
  rw [he]
  go_enter Try.func87, Try.ntmps87
  go_wp2_with fail
  go_ret
  exact ⟨rfl, rfl⟩

theorem openLog_calls {w0 w : World} {db : Nat} {d : DK} {l2 : List Res} (h : DiskIn w0 w db d l2) (hdn : d.down = false) (first : Nat) (hf0 : 1 ≤ first) (hf : first ≤ 1000000) (hl : 90 < d.now.length) :
    Calls Try.prog 74 #[.pointer (some ⟨db, 0, none⟩), .int .i64 first] w fun e w' => OpenEnd w0 db d l2 90 (d.now.length - 90) first e w' := by
  have es := sectors_calls w0 w db d l2 h
  have hfew := h.ok.few
  have eo := open_calls h hdn 90 (d.now.length - 90) first (by omega) hf0 hf (by omega)
  have hc : ((d.now.length - 90 : Nat) : Int) = (d.now.length : Int) - 90 := by omega
  rw [hc] at eo
  unfold OpenEnd at eo ⊢
  obtain ⟨RP, hRP⟩ : ∃ RP, readP d 90 (d.now.length - 90) first = RP := ⟨_, rfl⟩
  rw [hRP] at eo ⊢
  obtain ⟨mm, hmm⟩ : ∃ mm, d.now.length - 90 = mm := ⟨_, rfl⟩
  rw [hmm] at eo ⊢
  obtain ⟨n, hn⟩ : ∃ n, d.now.length = n := ⟨_, rfl⟩
  rw [hn] at es eo hfew hl
  have ES := hide es
  have EO := hide eo
  clear es eo h hn hRP hdn hc hmm
  go_enter Try.func74, Try.ntmps74
  go_wp2_with fail
  refine (unhide ES).mono ?_
  rintro e w1 ⟨rfl, rfl⟩
  clear ES
  go_wp2_with fail
  refine (unhide EO).mono ?_
  rintro e w2 ⟨lb, v, P, rfl, hP, hD⟩
  have HP := hide hP
  have HD := hide hD
  clear hP hD EO
  obtain ⟨pv, cv, hv, _⟩ := row_slice ((unhide HD).hold.rowAt (.head _))
  subst hv
  go_wp2_with fail
  go_ret3
  exact ⟨lb, _, P, rfl, unhide HP, unhide HD⟩

/-- Where no deed is read no sector is used. -/
theorem goR_zero {get : Nat → ByteArray} {first : Nat} : ∀ (k i : Nat) (st : RS), (st.deeds = [] → st.used = 0) → (goR get first k i st).deeds = [] → (goR get first k i st).used = 0
  | 0, i, st, h, hd => h hd
  | k + 1, i, st, h, hd => by
    rw [goR] at hd ⊢
    cases hs : stepR (get i) (first + i) i st with
    | none => rw [hs] at hd; exact h hd
    | some s1 =>
      rw [hs] at hd
      simp only at hd ⊢
      refine goR_zero k (i + 1) s1 (fun h1 => ?_) hd
      rcases step_kind hs with ⟨h2, h3⟩ | h2
      · rw [h2]; rw [h3] at h1; exact h h1
      · rw [h2] at h1; simp at h1
/-- By the next number none is read. -/
theorem goR_other {get : Nat → ByteArray} {first many : Nat} (h : (goR get first many 0 st0).deeds ≠ []) : goR get (first + 1) many 0 st0 = st0 := by
  cases many with
  | zero => exact absurd rfl h
  | succ k =>
    rw [goR] at h ⊢
    have h0 : stepR (get 0) (first + 1 + 0) 0 st0 = none := by
      cases hs : stepR (get 0) (first + 0) 0 st0 with
      | none => rw [hs] at h; exact absurd rfl h
      | some s1 =>
        have hg : GoodS (get 0) (first + 0) := by
          by_cases hG : GoodS (get 0) (first + 0)
          · exact hG
          · exfalso
            have hp : parseS (get 0) (first + 0) = (nilB, nilB) := by unfold parseS; rw [if_neg hG]
            unfold stepR at hs
            rw [hp, if_neg (show ¬ (nilB, nilB).1 = kindO by decide), if_neg (show ¬ (nilB, nilB).1 = kindC by decide)] at hs
            cases hs
        have hG2 : ¬ GoodS (get 0) (first + 1 + 0) := fun g => by have := hg.2.1; have := g.2.1; omega
        have hp : parseS (get 0) (first + 1 + 0) = (nilB, nilB) := by unfold parseS; rw [if_neg hG2]
        unfold stepR
        rw [hp, if_neg (show ¬ (nilB, nilB).1 = kindO by decide), if_neg (show ¬ (nilB, nilB).1 = kindC by decide)]
    rw [h0]
/-- The number that an empty log begins with. -/
def emptyF (d : DK) (first : Nat) : Nat := if (readP d 90 (d.now.length - 90) first).deeds = [] then first else first + 1
theorem emptyF_read (d : DK) (first : Nat) : (readP d 90 (d.now.length - 90) (emptyF d first)).deeds = [] ∧ (readP d 90 (d.now.length - 90) (emptyF d first)).used = 0 ∧ first ≤ emptyF d first ∧ emptyF d first ≤ first + 1 := by
  unfold emptyF
  split
  · rename_i h
    exact ⟨h, goR_zero _ _ _ (fun _ => rfl) h, by omega, by omega⟩
  · rename_i h
    have := goR_other (get := secAt d.now 90) (first := first) (many := d.now.length - 90) h
    unfold readP
    rw [this]
    exact ⟨rfl, rfl, by omega, by omega⟩

def EmptyEnd (w0 : World) (db : Nat) (d : DK) (l2 : List Res) (first : Nat) (e : Ending) (w' : World) : Prop :=
  ∃ lb, e = .returned (.tuple #[.pointer (some ⟨lb, 0, none⟩), .int .i64 (emptyF d first : Int), .nilIface]) ∧ DiskIn w0 w' db d (logR lb db 90 (d.now.length - 90) (emptyF d first) 0 :: l2)
set_option maxHeartbeats 1000000 in
theorem emptyLog_calls {w0 w : World} {db : Nat} {d : DK} {l2 : List Res} (h : DiskIn w0 w db d l2) (hdn : d.down = false) (first : Nat) (hf0 : 1 ≤ first) (hf : first ≤ 900000) (hl : 90 < d.now.length) :
    Calls Try.prog 91 #[.pointer (some ⟨db, 0, none⟩), .int .i64 first] w fun e w' => EmptyEnd w0 db d l2 first e w' := by
  have e1 := openLog_calls h hdn first hf0 (by omega) hl
  have e2 := fun (wx : World) (l3 : List Res) (hx : DiskIn w0 wx db d l3) => openLog_calls hx hdn (first + 1) (by omega) (by omega) hl
  obtain ⟨q1, q2, q3, q4⟩ := emptyF_read d first
  unfold OpenEnd at e1 e2
  have E1 := hide e1
  have E2 := hide e2
  have Q1 := hide q1
  have Q2 := hide q2
  unfold EmptyEnd
  have hef : emptyF d first = if (readP d 90 (d.now.length - 90) first).deeds = [] then first else first + 1 := rfl
  have Hef := hide hef
  clear e1 e2 h hdn q1 q2 hef
  go_enter Try.func91, Try.ntmps91
  go_wp2_with fail
  refine (unhide E1).mono ?_
  rintro e w1 ⟨lb, v, P, rfl, hP, hD⟩
  clear E1
  obtain ⟨pv, cv, hv, _⟩ := row_slice (hD.hold.rowAt (.head _))
  by_cases hde : (readP d 90 (d.now.length - 90) first).deeds = []
  · have hPn : P = [] := by rw [hde] at hP; simpa using hP
    subst hPn
    have hem : emptyF d first = first := by rw [unhide Hef, if_pos hde]
    simp only [List.length_nil] at hv
    subst hv
    have HDl : Hid (DiskIn w0 w1 db d (logR lb db 90 (d.now.length - 90) (emptyF d first) 0 :: l2)) := by
      have h0 := goR_zero (get := secAt d.now 90) (first := first) (d.now.length - 90) 0 st0 (fun _ => rfl) hde
      rw [hem]
      have h1 := hD.lose (deedsR _ [])
      unfold readP at h1
      rw [h0] at h1
      exact h1
    have Hem := hide hem
    clear hP hD hde hem
    go_wp2_with fail
    go_ret3
    exact ⟨lb, by rw [unhide Hem]; rfl, unhide HDl⟩
  · have hpos : 0 < P.length := by
      rcases Nat.eq_zero_or_pos P.length with h | h
      · exfalso
        have : P = [] := List.eq_nil_of_length_eq_zero h
        subst this
        exact hde (by rw [← hP]; rfl)
      · exact h
    have hem : emptyF d first = first + 1 := by rw [unhide Hef, if_neg hde]
    obtain ⟨np, hnp⟩ : ∃ np, P.length = np := ⟨_, rfl⟩
    rw [hnp] at hv hpos
    subst hv
    have hnz : ¬ (np : Int) = 0 := by omega
    have hc : ((first + 1 : Nat) : Int) = (first : Int) + 1 := by omega
    have e3 := unhide E2 w1 _ hD
    rw [hc] at e3
    have E3 := hide e3
    have Hem := hide hem
    clear hP hD hde hem e3 E2 hpos hnp hc
    go_wp2_with fail
    refine (unhide E3).mono ?_
    rintro e w2 ⟨lb2, v2, P2, rfl, hP2, hD2⟩
    obtain ⟨pv2, cv2, hv2, _⟩ := row_slice (hD2.hold.rowAt (.head _))
    subst hv2
    have HDl : Hid (DiskIn w0 w2 db d (logR lb2 db 90 (d.now.length - 90) (emptyF d first) 0 :: l2)) := by
      have h1 := hD2.lose (deedsR _ P2)
      have hu := unhide Q2
      rw [unhide Hem] at hu ⊢
      rw [hu] at h1
      have h2 := h1.perm (l3 := (deedsR (.slice pv np cv) P ++ [logR lb db 90 (d.now.length - 90) first (readP d 90 (d.now.length - 90) first).used]) ++ (logR lb2 db 90 (d.now.length - 90) (first + 1) 0 :: l2)) (by
        have := (List.perm_middle (a := logR lb2 db 90 (d.now.length - 90) (first + 1) 0) (l₁ := deedsR (.slice pv np cv) P ++ [logR lb db 90 (d.now.length - 90) first (readP d 90 (d.now.length - 90) first).used]) (l₂ := l2))
        simpa using this)
      exact h2.lose _
    clear hP2 hD2 E3
    go_wp2_with fail
    go_ret3
    exact ⟨lb2, by rw [unhide Hem]; first | rfl | simp, unhide HDl⟩
#print axioms openLog_calls
#print axioms emptyLog_calls
end Go.Proofs.Ytcjfhfalffngjaa
namespace Go.Proofs.Ytcjfhfalffngjaa
open Go.RowKit Go.Lib
set_option maxRecDepth 100000
set_option linter.unusedVariables false
set_option linter.unusedSimpArgs false

structure Later (w : World) where
  wld : World
  bel : Below w.heap.size w wld
instance (w : World) : Nonempty (Later w) := ⟨⟨w, Below.refl _ _⟩⟩
theorem wp_region_later {P : Program} {id : Nat} {Q : Exit → Act → World → Prop} {a : Act} {w : World} {l : List Oper} (hm : P.follows .mixedOrders = true) (hB : Region.lexB .any l.toArray = true)
    (h : wpQuiet P l.toArray (fun w' => ∃ u : Later w, w' = u.wld) (fun a' => ∀ w', (∃ u : Later w, w' = u.wld) → Q .normal a' w') l a) : (Code.region id l.toArray true).wp P Q a w :=
  wp_region_quiet (C := fun w' => ∃ u : Later w, w' = u.wld) hm hB ⟨⟨_, (Below.refl _ _).drew⟩, rfl⟩ (by simpa using h)
theorem Calls.later {P : Program} {f : FuncId} {args : Array Value} {w : World} {u : Later w} {v : Value}
    (h : Calls P f args u.wld fun e w' => e = .returned v ∧ Below u.wld.heap.size u.wld w') : Calls P f args u.wld fun e w'' => e = .returned v ∧ ∃ u' : Later w, w'' = u'.wld :=
  h.mono fun _ w' ⟨he, hb⟩ => ⟨he, ⟨w', u.bel.trans (hb.mono u.bel.size)⟩, rfl⟩
/-- A yes only of rows that rise. -/
def GoodEnd (n : Nat) (f : Nat → ChD) (w : World) (e : Ending) (w' : World) : Prop := ∃ r : Bool, e = .returned (.bool r) ∧ (r = true → Sorted (listOf n f)) ∧ Below w.heap.size w w'
theorem sorted_step {f : Nat → ChD} {i : Nat} (h : Sorted (listOf i f)) (hp : 0 < i → kLt (f (i - 1)).key (f i).key) : Sorted (listOf (i + 1) f) := by
  unfold Sorted listOf at *
  rw [List.range_succ, List.map_append]
  refine List.pairwise_append.2 ⟨h, by simp, fun a ha b hb => ?_⟩
  simp at hb
  subst hb
  obtain ⟨j, hj, rfl⟩ := List.mem_map.1 ha
  have hji : j < i := by simpa using hj
  rcases Nat.lt_or_ge j (i - 1) with h1 | h1
  · refine kLt_trans ?_ (hp (by omega))
    have := List.pairwise_iff_getElem.1 h j (i - 1) (by simp; omega) (by simp; omega) h1
    simpa using this
  · have : j = i - 1 := by omega
    subst this
    exact hp (by omega)

set_option maxHeartbeats 2000000 in
theorem good_calls (v : Value) (n : Nat) (f : Nat → ChD) (w : World) (h : ChOk w v n f) : Calls Try.prog 34 #[v] w fun e w' => GoodEnd n f w e w' := by
  rcases h with ⟨⟨p, c, rfl⟩, rfl⟩ | ⟨b, off, c, rfl, hn63, hbb, hcells⟩
  · go_enter Try.func34, Try.ntmps34
    go_wp2_with fail
    go_loopg [3] 1 (fun g vi wr => vi = .int .i64 0 ∧ wr = w)
    case atStart => exact ⟨rfl, rfl⟩
    case round =>
      obtain ⟨rfl, rfl⟩ := hrel
      go_wp2_with fail
      go_ret
      exact ⟨true, rfl, fun _ => List.Pairwise.nil, Below.refl _ _⟩
  · have HC := hide hcells
    clear hcells
    go_enter Try.func34, Try.ntmps34
    go_wp2_with fail
    go_loopg [3] (n + 1) (fun g vi wr => ∃ (i : Nat), n - i < g ∧ i ≤ n ∧ vi = .int .i64 i ∧ Hid (Below w.heap.size w wr) ∧ Hid (Sorted (listOf i f)))
    case atStart => exact ⟨0, by omega, by omega, rfl, Below.refl _ _, List.Pairwise.nil⟩
    case round =>
      obtain ⟨i, hg, hi, rfl, HB, HS⟩ := hrel
      by_cases hin : i < n
      · have hiz : (i : Int) < (n : Int) := by omega
        have hq : ∀ (u : Later wr) j, j < n → u.wld.cell? ⟨b, off + j * 3, none⟩ = some (.string (f j).key) ∧ u.wld.cell? ⟨b, off + j * 3 + 1, none⟩ = some (.string (f j).val) ∧ u.wld.cell? ⟨b, off + j * 3 + 2, none⟩ = some (.bool (f j).gone) := fun u j hj =>
          have hx := (unhide HB).trans (u.bel.mono (unhide HB).size)
          ⟨(cell_below hx (p := ⟨b, off + j * 3, none⟩) hbb).trans (unhide HC j hj).1, (cell_below hx (p := ⟨b, off + j * 3 + 1, none⟩) hbb).trans (unhide HC j hj).2.1, (cell_below hx (p := ⟨b, off + j * 3 + 2, none⟩) hbb).trans (unhide HC j hj).2.2⟩
        have HQ := hide hq
        have ef := fun u : Later wr => fault_calls (f i) u.wld
        have q0 := fun u => (hq u i hin).1
        have q1 := fun u => (hq u i hin).2.1
        have q2 := fun u => (hq u i hin).2.2
        obtain ⟨x, hx⟩ : ∃ x, f i = x := ⟨_, rfl⟩
        rw [hx] at q0 q1 q2 ef
        have Hx := hide hx
        cases hp : checkP x with
        | some kk =>
          have hkp := checkP_pos x kk hp
          rw [hp] at ef
          obtain ⟨xk, xv, xg⟩ := x
          unfold chV at ef
          simp only [noE, Option.getD_some] at ef q0 q1 q2
          have EF := hide ef
          clear hq ef hx hp
          go_wp2_with fail
          refine wp_region_later (by kernel_rfl) (by kernel_rfl) ?_
          repeat (go_big_quiet_step (refine Calls.later (unhide EF _)))
          refine wpQuiet_nil ?_
          intro _ hw'
          obtain ⟨uq, hw''⟩ := hw'
          subst hw''
          go_wp2_with fail
          go_ret
          exact ⟨false, rfl, fun h => (by cases h), (unhide HB).trans (uq.bel.mono (unhide HB).size)⟩
        | none =>
          rw [hp] at ef
          obtain ⟨xk, xv, xg⟩ := x
          unfold chV at ef
          simp only [noE, Option.getD_none] at ef q0 q1 q2
          have EF := hide ef
          clear ef hp
          cases xg with
          | true =>
            clear hq hx
            go_wp2_with fail
            refine wp_region_later (by kernel_rfl) (by kernel_rfl) ?_
            repeat (go_big_quiet_step (refine Calls.later (unhide EF _)))
            refine wpQuiet_nil ?_
            intro _ hw'
            obtain ⟨uq, hw''⟩ := hw'
            subst hw''
            go_wp2_with fail
            go_ret
            exact ⟨false, rfl, fun h => (by cases h), (unhide HB).trans (uq.bel.mono (unhide HB).size)⟩
          | false =>
            rcases Nat.eq_zero_or_pos i with h0 | h0
            · have hz0 : ¬ (0 : Int) < (i : Int) := by omega
              have hz1 : ¬ 0 < i := by omega
              have H0 := hide h0
              clear hq hx h0
              go_wp2_with fail
              refine wp_region_later (by kernel_rfl) (by kernel_rfl) ?_
              repeat (go_big_quiet_step (refine Calls.later (unhide EF _)))
              refine wpQuiet_nil ?_
              intro _ hw'
              obtain ⟨uq, hw''⟩ := hw'
              subst hw''
              go_wp2_with fail
              go_roundg (n - i)
              case measure => omega
              case rel => exact ⟨i + 1, by omega, by omega, by simp, (unhide HB).trans (uq.bel.mono (unhide HB).size), sorted_step (unhide HS) (fun h => by have := unhide H0; omega)⟩
            · obtain ⟨k, hk⟩ : ∃ k, i = k + 1 := ⟨i - 1, by omega⟩
              have hm : (i : Int) - 1 = (k : Int) := by omega
              have hz0 : (0 : Int) < (i : Int) := by omega
              have p0 := fun u => (hq u k (by omega)).1
              have hki : f (i - 1) = f k := by rw [hk]; rfl
              obtain ⟨y, hy⟩ : ∃ y, f k = y := ⟨_, rfl⟩
              rw [hy] at p0 hki
              obtain ⟨yk, yv, yg⟩ := y
              simp only at p0
              have Hki := hide hki
              have Hk := hide hk
              by_cases hlt : kLt yk xk
              · have l1 : Op.bytesLess xk.toList yk.toList = false := by
                  rw [less_kLt]
                  exact decide_eq_false fun h2 => by unfold kLt at h2 hlt; rw [cmpB_neg] at h2; omega
                have hne : ¬ xk.toList = yk.toList := fun h2 => by
                  have h3 := (toList_same _ _).1 h2
                  subst h3
                  unfold kLt at hlt
                  rw [(cmpB_zero _ _).2 rfl] at hlt
                  omega
                have l2 : (xk.toList == yk.toList) = false := beq_eq_false_iff_ne.2 hne
                have l3 : (yk.toList == xk.toList) = false := beq_eq_false_iff_ne.2 (Ne.symm hne)
                have Hlt := hide hlt
                clear hq hx hki hk hne hlt hy
                go_wp2_with fail
                refine wp_region_later (by kernel_rfl) (by kernel_rfl) ?_
                repeat (go_big_quiet_step (refine Calls.later (unhide EF _)))
                refine wpQuiet_nil ?_
                intro _ hw'
                obtain ⟨uq, hw''⟩ := hw'
                subst hw''
                go_wp2_with fail
                go_roundg (n - i)
                case measure => omega
                case rel => exact ⟨i + 1, by omega, by omega, by simp, (unhide HB).trans (uq.bel.mono (unhide HB).size), sorted_step (unhide HS) (fun h => by rw [unhide Hki, unhide Hx]; exact unhide Hlt)⟩
              · have hor : Op.bytesLess xk.toList yk.toList = true ∨ xk = yk := by
                  rw [less_kLt]
                  by_cases h3 : xk = yk
                  · exact .inr h3
                  · refine .inl (decide_eq_true ?_)
                    have h4 : cmpB xk yk ≠ 0 := fun h => h3 ((cmpB_zero _ _).1 h)
                    unfold kLt at hlt ⊢
                    rw [cmpB_neg] at hlt
                    omega
                clear hq hx hki hk hlt hy
                rcases hor with l1 | l1
                · go_wp2_with fail
                  refine wp_region_later (by kernel_rfl) (by kernel_rfl) ?_
                  repeat (go_big_quiet_step (refine Calls.later (unhide EF _)))
                  refine wpQuiet_nil ?_
                  intro _ hw'
                  obtain ⟨uq, hw''⟩ := hw'
                  subst hw''
                  go_wp2_with fail
                  go_ret
                  exact ⟨false, rfl, fun h => (by cases h), (unhide HB).trans (uq.bel.mono (unhide HB).size)⟩
                · subst l1
                  go_wp2_with fail
                  refine wp_region_later (by kernel_rfl) (by kernel_rfl) ?_
                  repeat (go_big_quiet_step (refine Calls.later (unhide EF _)))
                  refine wpQuiet_nil ?_
                  intro _ hw'
                  obtain ⟨uq, hw''⟩ := hw'
                  subst hw''
                  go_wp2_with fail
                  go_ret
                  exact ⟨false, rfl, fun h => (by cases h), (unhide HB).trans (uq.bel.mono (unhide HB).size)⟩
      · have hiz : ¬ (i : Int) < (n : Int) := by omega
        obtain rfl : i = n := by omega
        go_wp2_with fail
        go_ret
        exact ⟨true, rfl, fun _ => unhide HS, unhide HB⟩
#print axioms good_calls
end Go.Proofs.Ytcjfhfalffngjaa
