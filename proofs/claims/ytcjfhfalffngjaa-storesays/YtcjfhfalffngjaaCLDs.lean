/-
  Rows of deeds that can be read, and the contracts of SameChanges, SameDeeds, lightDeeds and number.
-/
import Derived.Test.YtcjfhfalffngjaaCLRead
import Derived.Test.YtcjfhfalffngjaaCLight
import Derived.BigQuiet
namespace Go.Proofs.Ytcjfhfalffngjaa
open Go.RowKit Go.Lib
set_option maxRecDepth 100000
set_option linter.unusedVariables false
set_option linter.unusedSimpArgs false

/-- A row of changes that can be read, as a list. -/
def ChL (w : World) (v : Value) (L : List ChD) : Prop := ChOk w v L.length (fun i => L.getD i chZ)
theorem listOf_getD (L : List ChD) : listOf L.length (fun i => L.getD i chZ) = L := by
  apply List.ext_getElem
  · rw [listOf_length]
  · intro i h1 h2
    simp [listOf, List.getD, List.getElem?_eq_getElem h2]
theorem ChL.below {w w' : World} {v : Value} {L : List ChD} (h : ChL w v L) (hb : Below w.heap.size w w') : ChL w' v L := ChOk.below h hb
/-- A row of deeds that can be read. -/
def DsP (w : World) (v : Value) (P : List (Value × List ChD)) : Prop :=
  (P = [] ∧ ∃ p c, v = .slice p 0 c) ∨ ∃ b off c, v = .slice (some ⟨b, off, none⟩) P.length c ∧ P.length ≤ 9223372036854775807 ∧ b < w.heap.size ∧ ∀ j p, P[j]? = some p → w.cell? ⟨b, off + j, none⟩ = some p.1 ∧ ChL w p.1 p.2
theorem DsP.below {w w' : World} {v : Value} {P : List (Value × List ChD)} (h : DsP w v P) (hb : Below w.heap.size w w') : DsP w' v P := by
  rcases h with h | ⟨b, off, c, h1, h2, h3, h4⟩
  · exact .inl h
  · have hs := hb.size
    refine .inr ⟨b, off, c, h1, h2, by omega, fun j p hp => ?_⟩
    rw [cell_below hb h3]
    exact ⟨(h4 j p hp).1, (h4 j p hp).2.below hb⟩
theorem DsP.slice {w : World} {v : Value} {P : List (Value × List ChD)} (h : DsP w v P) : ∃ p c, v = .slice p P.length c := by
  rcases h with ⟨rfl, p, c, h⟩ | ⟨b, off, c, h, _⟩
  · exact ⟨p, c, h⟩
  · exact ⟨_, c, h⟩
/-- A row that is owned can be read. -/
theorem chl_of_row {w0 w : World} {rs : List Res} (H : Hold w0 w rs) {v : Value} {L : List ChD} (hm : rowI v L ∈ rs) : ChL w v L := by
  have hr := H.rowAt hm
  cases hL : L with
  | nil =>
    subst hL
    obtain ⟨p, c, hv, _⟩ := row_slice hr
    exact .inl ⟨⟨p, c, hv⟩, rfl⟩
  | cons c0 L' =>
    rw [← hL]
    have hpos : 0 < L.length := by rw [hL]; simp
    obtain ⟨g, cap, hv, hnc, hcm⟩ := row_shape hr hpos
    have hm' : Res.row (.slice (some ⟨g, 0, none⟩) L.length cap) 54 3 L.length (flat L) ∈ rs := by rw [← hv]; exact hm
    refine .inr ⟨g, 0, cap, hv, by omega, (World.ownsRow.lt hr g (by rw [hv]; rfl)).2, fun j hj => ?_⟩
    have hgt := flat_get L j hj
    have hx : L.getD j chZ = L[j] := by simp [List.getD, List.getElem?_eq_getElem hj]
    simp only [Nat.zero_add]
    rw [hx]
    exact ⟨H.rowCell hm' hgt.1, H.rowCell hm' hgt.2.1, H.rowCell hm' hgt.2.2⟩
theorem dsp_of_row {w0 w : World} {rs : List Res} (H : Hold w0 w rs) {v : Value} {P : List (Value × List ChD)} (hm : Res.row v 36 1 P.length (P.map (·.1)) ∈ rs) (hP : ∀ p ∈ P, ChL w p.1 p.2) : DsP w v P := by
  have hr := H.rowAt hm
  cases hL : P with
  | nil =>
    subst hL
    obtain ⟨p, c, hv, _⟩ := row_slice hr
    exact .inl ⟨rfl, p, c, hv⟩
  | cons c0 L' =>
    rw [← hL]
    have hpos : 0 < P.length := by rw [hL]; simp
    obtain ⟨g, cap, hv, hnc, hcm⟩ := row_shape hr hpos
    have hm' : Res.row (.slice (some ⟨g, 0, none⟩) P.length cap) 36 1 P.length (P.map (·.1)) ∈ rs := by rw [← hv]; exact hm
    refine .inr ⟨g, 0, cap, hv, by omega, (World.ownsRow.lt hr g (by rw [hv]; rfl)).2, fun j p hj => ⟨?_, hP p (List.mem_of_getElem? hj)⟩⟩
    rw [Nat.zero_add]
    exact H.rowCell hm' (by rw [List.getElem?_map, hj]; rfl)
theorem dsp_of_deeds {w0 w : World} {v : Value} {P : List (Value × List ChD)} {rs : List Res} (H : Hold w0 w rs) (hm : ∀ x ∈ deedsR v P, x ∈ rs) : DsP w v P :=
  dsp_of_row H (hm _ (.head _)) fun p hp => chl_of_row H (hm _ (.tail _ (List.mem_map.2 ⟨p, hp, rfl⟩)))

theorem chd_ext {x y : ChD} (h1 : x.key = y.key) (h2 : x.val = y.val) (h3 : x.gone = y.gone) : x = y := by cases x; cases y; simp_all

def SameEnd (q : Prop) (w : World) (e : Ending) (w' : World) : Prop := (∃ r : Bool, e = .returned (.bool r) ∧ (q → r = true)) ∧ ∃ k, w' = w.drewN k

set_option maxHeartbeats 2000000 in
theorem sameL_calls (va vb : Value) (A B : List ChD) (w : World) (ha : ChL w va A) (hb : ChL w vb B) :
    Calls Try.prog 35 #[va, vb] w fun e w' => SameEnd (A = B) w e w' := by
  obtain ⟨pa, ca, hva⟩ := ChOk.slice ha
  obtain ⟨pb, cb, hvb⟩ := ChOk.slice hb
  have hna : A.length ≤ 9223372036854775807 := by
    rcases ha with ⟨_, h⟩ | ⟨_, _, _, _, h, _⟩ <;> omega
  have hnb : B.length ≤ 9223372036854775807 := by
    rcases hb with ⟨_, h⟩ | ⟨_, _, _, _, h, _⟩ <;> omega
  have hg : ∀ (L : List ChD) j, j < L.length → (L[j]? = some (L.getD j chZ)) := fun L j hj => by simp [List.getD, List.getElem?_eq_getElem hj]
  subst hva hvb
  have HA := hide ha
  have HB := hide hb
  by_cases hne : A.length = B.length
  · obtain ⟨n, hn⟩ : ∃ n, A.length = n := ⟨_, rfl⟩
    have hnB : B.length = n := by omega
    unfold ChL at HA HB
    rw [hn] at HA hna ⊢
    rw [hnB] at HB ⊢
    have Hn := hide hn
    have HnB := hide hnB
    have HGet := hide hg
    clear ha hb hn hnB hnb hne hg
    go_enter Try.func35, Try.ntmps35
    go_wp2_with fail
    go_loopg [5] (n + 1) (fun g vi wr => ∃ (i : Nat), n - i < g ∧ i ≤ n ∧ vi = .int .i64 i ∧ ∃ k, wr = w.drewN k)
    case atStart => exact ⟨0, by omega, by omega, rfl, 0, rfl⟩
    case round =>
      obtain ⟨i, hg, hi, rfl, k, rfl⟩ := hrel
      by_cases hin : i < n
      · have hiz : (i : Int) < (n : Int) := by omega
        rcases unhide HA with ⟨_, h0⟩ | ⟨ba, oa, c1, hv1, _, hba, hca⟩
        · omega
        rcases unhide HB with ⟨_, h0⟩ | ⟨bb, ob, c2, hv2, _, hbb, hcb⟩
        · omega
        injection hv1 with e1 e2 e3
        subst e1 e3
        clear e2
        injection hv2 with e1 e2 e3
        subst e1 e3
        clear e2
        obtain ⟨a0, a1, a2⟩ := hca i hin
        obtain ⟨b0, b1, b2⟩ := hcb i hin
        simp only at a0 a1 a2 b0 b1 b2
        have gx := unhide HGet A i (by rw [unhide Hn]; exact hin)
        have gy := unhide HGet B i (by rw [unhide HnB]; exact hin)
        have hsame : A = B → A.getD i chZ = B.getD i chZ := fun e => by rw [e]
        obtain ⟨⟨xk, xv, xg⟩, hx⟩ : ∃ x, A.getD i chZ = x := ⟨_, rfl⟩
        obtain ⟨⟨yk, yv, yg⟩, hy⟩ : ∃ y, B.getD i chZ = y := ⟨_, rfl⟩
        rw [hx] at a0 a1 a2 hsame
        rw [hy] at b0 b1 b2 hsame
        simp only at a0 a1 a2 b0 b1 b2
        have Hsame := hide hsame
        obtain ⟨bk, hbk⟩ : ∃ b, (xk.toList == yk.toList) = b := ⟨_, rfl⟩
        obtain ⟨bv, hbv⟩ : ∃ b, (xv.toList == yv.toList) = b := ⟨_, rfl⟩
        have Hk : Hid (bk = false → ¬ xk = yk) := fun h => by rw [h] at hbk; rw [beq_eq_false_iff_ne, Ne, toList_same] at hbk; exact hbk
        have Hv : Hid (bv = false → ¬ xv = yv) := fun h => by rw [h] at hbv; rw [beq_eq_false_iff_ne, Ne, toList_same] at hbv; exact hbv
        clear hca hcb gx gy hsame hx hy hba hbb
        cases bk with
        | false =>
          have hno : A ≠ B := fun e => by have := unhide Hsame e; injection this with h1 h2 h3; exact unhide Hk rfl h1
          have Hno := hide hno
          clear hno Hk Hv
          go_wp2_with fail
          go_quiet (fail)
          go_wp2_with fail
          go_ret
          exact ⟨⟨false, rfl, fun e => absurd e (unhide Hno)⟩, _, by first | rfl | exact World.drewN_drewN _ _ _⟩
        | true =>
          cases bv with
          | false =>
            have hno : A ≠ B := fun e => by have := unhide Hsame e; injection this with h1 h2 h3; exact unhide Hv rfl h2
            have Hno := hide hno
            clear hno Hk Hv
            go_wp2_with fail
            go_quiet (fail)
            go_wp2_with fail
            go_ret
            exact ⟨⟨false, rfl, fun e => absurd e (unhide Hno)⟩, _, by first | rfl | exact World.drewN_drewN _ _ _⟩
          | true =>
            by_cases hgg : xg = yg
            · subst hgg
              have hbg : (xg == xg) = true := by simp
              clear Hk Hv Hsame
              go_wp2_with fail
              go_quiet (fail)
              go_wp2_with fail
              go_roundg (n - i)
              case measure => omega
              case rel => exact ⟨i + 1, by omega, by omega, by simp, _, rfl⟩
            · have hno : A ≠ B := fun e => by have := unhide Hsame e; injection this with h1 h2 h3; exact hgg h3
              have hbg : (xg == yg) = false := by simp [hgg]
              have Hno := hide hno
              clear hno Hk Hv
              go_wp2_with fail
              go_quiet (fail)
              go_wp2_with fail
              go_ret
              exact ⟨⟨false, rfl, fun e => absurd e (unhide Hno)⟩, _, by first | rfl | exact World.drewN_drewN _ _ _⟩
      · have hiz : ¬ (i : Int) < (n : Int) := by omega
        go_wp2_with fail
        go_ret
        exact ⟨⟨true, rfl, fun _ => rfl⟩, k, rfl⟩
  · have hnez : ¬ (A.length : Int) = (B.length : Int) := by omega
    have Hne := hide hne
    obtain ⟨n, hn⟩ : ∃ n, A.length = n := ⟨_, rfl⟩
    obtain ⟨m, hm⟩ : ∃ m, B.length = m := ⟨_, rfl⟩
    rw [hn, hm] at hnez
    rw [hn] at hna ⊢
    rw [hm] at hnb ⊢
    clear ha hb HA HB hg hne hn hm
    go_enter Try.func35, Try.ntmps35
    go_wp2_with fail
    go_ret
    exact ⟨⟨false, rfl, fun e => absurd (congrArg List.length e) (unhide Hne)⟩, 0, rfl⟩
#print axioms sameL_calls

set_option maxHeartbeats 2000000 in
theorem sameDs_calls (va vb : Value) (A B : List (Value × List ChD)) (w : World) (ha : DsP w va A) (hb : DsP w vb B) :
    Calls Try.prog 41 #[va, vb] w fun e w' => SameEnd (A.map (·.2) = B.map (·.2)) w e w' := by
  obtain ⟨pa, ca, hva⟩ := ha.slice
  obtain ⟨pb, cb, hvb⟩ := hb.slice
  have hna : A.length ≤ 9223372036854775807 := by
    rcases ha with ⟨rfl, _⟩ | ⟨_, _, _, _, h, _⟩
    · simp
    · exact h
  have hnb : B.length ≤ 9223372036854775807 := by
    rcases hb with ⟨rfl, _⟩ | ⟨_, _, _, _, h, _⟩
    · simp
    · exact h
  subst hva hvb
  have HA := hide ha
  have HB := hide hb
  by_cases hne : A.length = B.length
  · obtain ⟨n, hn⟩ : ∃ n, A.length = n := ⟨_, rfl⟩
    have hnB : B.length = n := by omega
    rw [hn] at HA hna ⊢
    rw [hnB] at HB ⊢
    have Hn := hide hn
    have HnB := hide hnB
    clear ha hb hn hnB hnb hne
    go_enter Try.func41, Try.ntmps41
    go_wp2_with fail
    go_loopg [5] (n + 1) (fun g vi wr => ∃ (i : Nat), n - i < g ∧ i ≤ n ∧ vi = .int .i64 i ∧ ∃ k, wr = w.drewN k)
    case atStart => exact ⟨0, by omega, by omega, rfl, 0, rfl⟩
    case round =>
      obtain ⟨i, hg, hi, rfl, k, rfl⟩ := hrel
      by_cases hin : i < n
      · have hiz : (i : Int) < (n : Int) := by omega
        rcases unhide HA with ⟨h0, _⟩ | ⟨ba, oa, c1, hv1, _, hba, hca⟩
        · have := unhide Hn; rw [h0] at this; simp at this; omega
        rcases unhide HB with ⟨h0, _⟩ | ⟨bb, ob, c2, hv2, _, hbb, hcb⟩
        · have := unhide HnB; rw [h0] at this; simp at this; omega
        injection hv1 with e1 e2 e3
        subst e1 e3
        clear e2
        injection hv2 with e1 e2 e3
        subst e1 e3
        clear e2
        obtain ⟨x, hx⟩ : ∃ x, A[i]? = some x := ⟨_, List.getElem?_eq_getElem (by rw [unhide Hn]; exact hin)⟩
        obtain ⟨y, hy⟩ : ∃ y, B[i]? = some y := ⟨_, List.getElem?_eq_getElem (by rw [unhide HnB]; exact hin)⟩
        obtain ⟨a0, a1⟩ := hca i x hx
        obtain ⟨b0, b1⟩ := hcb i y hy
        have hsame : A.map (·.2) = B.map (·.2) → x.2 = y.2 := fun e => by
          have h1 : (A.map (·.2))[i]? = some x.2 := by rw [List.getElem?_map, hx]; rfl
          have h2 : (B.map (·.2))[i]? = some y.2 := by rw [List.getElem?_map, hy]; rfl
          rw [e, h2] at h1
          exact (Option.some.inj h1).symm
        have ec := fun m => sameL_calls x.1 y.1 x.2 y.2 (w.drewN m) (a1.below ((Hold.init w).drewN m).below) (b1.below ((Hold.init w).drewN m).below)
        unfold SameEnd at ec
        obtain ⟨pxa, cxa, hxa⟩ := ChOk.slice a1
        obtain ⟨pxb, cxb, hxb⟩ := ChOk.slice b1
        obtain ⟨xv, hxv⟩ : ∃ v, x.1 = v := ⟨_, rfl⟩
        obtain ⟨yv, hyv⟩ : ∃ v, y.1 = v := ⟨_, rfl⟩
        rw [hxv] at a0 ec hxa
        rw [hyv] at b0 ec hxb
        subst hxa hxb
        have EC := hide ec
        have Hsame := hide hsame
        have HS0 : Hid ((w.drewN k).drew.cell? ⟨ba, oa + i, none⟩ = some (.slice pxa x.2.length cxa) ∧ (w.drewN k).drew.cell? ⟨bb, ob + i, none⟩ = some (.slice pxb y.2.length cxb)) := ⟨a0, b0⟩
        have HS1 : Hid (∀ m, (w.drewN m).cell? ⟨ba, oa + i, none⟩ = some (.slice pxa x.2.length cxa) ∧ (w.drewN m).cell? ⟨bb, ob + i, none⟩ = some (.slice pxb y.2.length cxb)) := fun m => ⟨a0, b0⟩
        clear hca hcb ec a1 b1 hx hy hsame hxv hyv
        go_wp2_with fail
        go_region_held (fun w' => w'.cell? ⟨ba, oa + i, none⟩ = some (.slice pxa x.2.length cxa) ∧ w'.cell? ⟨bb, ob + i, none⟩ = some (.slice pxb y.2.length cxb)) (first | exact unhide HS0 | exact unhide HS1 _) ((go_at_call 35; refine (unhide EC (k + 1)).mono ?_; rintro e w6 ⟨⟨r, rfl, hr⟩, k6, rfl⟩; have HR := hide hr; clear hr; rw [World.drewN_drewN]))
        all_goals
          cases r with
          | false =>
            have hno : ¬ A.map (·.2) = B.map (·.2) := fun e => by have := unhide HR (unhide Hsame e); cases this
            have Hno := hide hno
            clear hno HR
            go_wp2_with fail
            go_ret
            exact ⟨⟨false, rfl, fun e => absurd e (unhide Hno)⟩, _, by first | rfl | exact World.drewN_drewN _ _ _⟩
          | true =>
            clear HR
            go_wp2_with fail
            go_roundg (n - i)
            case measure => omega
            case rel => exact ⟨i + 1, by omega, by omega, by simp, _, by first | rfl | exact World.drewN_drewN _ _ _⟩
      · have hiz : ¬ (i : Int) < (n : Int) := by omega
        go_wp2_with fail
        go_ret
        exact ⟨⟨true, rfl, fun _ => rfl⟩, k, rfl⟩
  · have hnez : ¬ (A.length : Int) = (B.length : Int) := by omega
    have Hne := hide hne
    obtain ⟨n, hn⟩ : ∃ n, A.length = n := ⟨_, rfl⟩
    obtain ⟨m, hm⟩ : ∃ m, B.length = m := ⟨_, rfl⟩
    rw [hn, hm] at hnez
    rw [hn] at hna ⊢
    rw [hm] at hnb ⊢
    clear ha hb HA HB hne hn hm
    go_enter Try.func41, Try.ntmps41
    go_wp2_with fail
    go_ret
    exact ⟨⟨false, rfl, fun e => absurd (by have := congrArg List.length e; simpa using this) (unhide Hne)⟩, 0, rfl⟩
#print axioms sameDs_calls

def LightDEnd (P : List (Value × List ChD)) (most : Nat) (e : Ending) : Prop := ∃ r : Bool, e = .returned (.bool r) ∧ (r = true → P.length ≤ most ∧ ∀ p ∈ P, p.2.length ≤ 14)
set_option maxHeartbeats 1000000 in
theorem lightDs_calls (v : Value) (P : List (Value × List ChD)) (w : World) (h : DsP w v P) (most : Nat) (hm : most ≤ 1000) :
    Calls Try.prog 53 #[v, .int .i64 most] w fun e w' => LightDEnd P most e ∧ w' = w := by
  obtain ⟨pv, cv, hv⟩ := h.slice
  have hna : P.length ≤ 9223372036854775807 := by
    rcases h with ⟨rfl, _⟩ | ⟨_, _, _, _, h, _⟩
    · simp
    · exact h
  subst hv
  have HH := hide h
  obtain ⟨n, hn⟩ : ∃ n, P.length = n := ⟨_, rfl⟩
  rw [hn] at HH hna ⊢
  have Hn := hide hn
  clear h hn
  by_cases hmm : most < n
  · have hz : (most : Int) < (n : Int) := by omega
    go_enter Try.func53, Try.ntmps53
    go_wp2_with fail
    go_ret
    exact ⟨⟨false, rfl, fun h => by cases h⟩, rfl⟩
  · have hz : ¬ (most : Int) < (n : Int) := by omega
    go_enter Try.func53, Try.ntmps53
    go_wp2_with fail
    go_loopg [5] (n + 1) (fun g vi wr => ∃ i : Nat, n - i < g ∧ i ≤ n ∧ vi = .int .i64 i ∧ wr = w ∧ Hid (∀ j p, j < i → P[j]? = some p → p.2.length ≤ 14))
    case atStart => exact ⟨0, by omega, by omega, rfl, rfl, fun j p hj => by omega⟩
    case round =>
      obtain ⟨i, hg, hi, rfl, rfl, HL⟩ := hrel
      by_cases hin : i < n
      · have hiz : (i : Int) < (n : Int) := by omega
        rcases unhide HH with ⟨h0, _⟩ | ⟨ba, oa, c1, hv1, _, hba, hca⟩
        · have := unhide Hn; rw [h0] at this; simp at this; omega
        injection hv1 with e1 e2 e3
        subst e1 e3
        clear e2
        obtain ⟨x, hx⟩ : ∃ x, P[i]? = some x := ⟨_, List.getElem?_eq_getElem (by rw [unhide Hn]; exact hin)⟩
        obtain ⟨a0, a1⟩ := hca i x hx
        have ec := lightChanges_calls x.1 x.2.length _ wr a1 14 (by decide)
        obtain ⟨xv, hxv⟩ : ∃ v, x.1 = v := ⟨_, rfl⟩
        rw [hxv] at a0 ec
        have EC := hide ec
        have Hx := hide hx
        clear hca ec a1 hx hxv
        go_wp2_with fail
        refine (unhide EC).mono ?_
        rintro e w1 ⟨⟨r, rfl, hr⟩, rfl⟩
        have HR := hide hr
        clear hr EC
        cases r with
        | false =>
          go_wp2_with fail
          go_ret
          exact ⟨⟨false, rfl, fun h => by cases h⟩, rfl⟩
        | true =>
          go_wp2_with fail
          go_roundg (n - i)
          case measure => omega
          case rel =>
            refine ⟨i + 1, by omega, by omega, by simp, rfl, fun j p hj hp => ?_⟩
            rcases Nat.lt_or_ge j i with h | h
            · exact unhide HL j p h hp
            · obtain rfl : j = i := by omega
              rw [unhide Hx] at hp
              cases hp
              exact (unhide HR trivial).1
      · have hiz : ¬ (i : Int) < (n : Int) := by omega
        go_wp2_with fail
        go_ret
        refine ⟨⟨true, rfl, fun _ => ⟨by rw [unhide Hn]; omega, fun p hp => ?_⟩⟩, rfl⟩
        obtain ⟨j, hj, rfl⟩ := List.mem_iff_getElem.1 hp
        exact unhide HL j _ (by rw [unhide Hn] at hj; omega) (List.getElem?_eq_getElem hj)
#print axioms lightDs_calls

theorem number54_calls (o : Option Int) (w : World) : Calls Try.prog 54 #[errV o] w fun e w' => e = .returned (.int .i64 (o.getD 0)) ∧ w' = w := by
  cases o with
  | none =>
    simp only [errV, Option.getD_none]
    go_enter Try.func54, Try.ntmps54
    go_wp2_with fail
    go_ret
    exact ⟨rfl, rfl⟩
  | some k =>
    simp only [errV, Option.getD_some]
    have ht : (Instr.typeAssert (.iface 93 (.int .i64 k)) 27 93 true).run Try.prog w = .ok (.tuple #[.int .i64 k, .bool true]) w := by kernel_rfl
    go_enter Try.func54, Try.ntmps54
    go_wp2_with fail
    go_ret
    exact ⟨rfl, rfl⟩
#print axioms number54_calls
end Go.Proofs.Ytcjfhfalffngjaa
