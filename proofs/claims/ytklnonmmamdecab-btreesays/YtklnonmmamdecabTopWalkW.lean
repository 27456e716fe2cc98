/-
  The walk of TopWalk: whatever is put, the entries are told in order, each once, however many at a time.
-/
import Derived.Test.YtklnonmmamdecabSame
import Derived.Test.YtklnonmmamdecabLight
namespace Go.Proofs.Ytklnonmmamdecab
open Go.RowKit Go.Lib
set_option linter.unusedVariables false
set_option linter.unusedSimpArgs false

theorem ChOk.below {W w : World} {v : Value} (h : ChOk W v) (hb : Below W.heap.size W w) : ChOk w v := by
  rcases h with h | ⟨b, off, m, c, h1, h2, h3⟩
  · exact .inl h
  · refine .inr ⟨b, off, m, c, h1, h2, fun j hj => ?_⟩
    obtain ⟨key, val, q1, q2⟩ := h3 j hj
    have hlt : b < W.heap.size := World.block_lt_of_cell? _ _ q1
    exact ⟨key, val, (hb.cell (p := ⟨b, off + j * 3, none⟩) hlt).trans q1, (hb.cell (p := ⟨b, off + j * 3 + 1, none⟩) hlt).trans q2⟩
theorem ActsOk.below {W w : World} {v : Value} {n : Nat} {f : Nat → ActD} (h : ActsOk W v n f) (hb : Below W.heap.size W w) : ActsOk w v n f := by
  rcases h with h | ⟨b, off, c, h1, h2, hlt, h3⟩
  · exact .inl h
  · refine .inr ⟨b, off, c, h1, h2, Nat.lt_of_lt_of_le hlt hb.size, fun j hj => ?_⟩
    obtain ⟨q0, q1, q2, q3, ⟨u, q4⟩, q5, q6⟩ := h3 j hj
    have key : ∀ o x, W.cell? ⟨b, o, none⟩ = some x → w.cell? ⟨b, o, none⟩ = some x := fun o x q => (hb.cell (p := ⟨b, o, none⟩) hlt).trans q
    exact ⟨key _ _ q0, key _ _ q1, key _ _ q2, key _ _ q3, ⟨u, key _ _ q4⟩, key _ _ q5, q6.below hb⟩

theorem flatE_one (l : List Item) : ∀ u ∈ flatE l, u.oneCell' = true := by
  intro u hu
  obtain ⟨x, _, hx⟩ := List.mem_flatMap.1 hu
  simp at hx
  rcases hx with rfl | rfl <;> rfl
/-- Nothing is owned yet. -/
theorem Hold.init (W : World) : Hold W.heap.size W (fun _ => 0) W [] :=
  ⟨fun r hr => by simp at hr, fun x => by rw [total_nil]; omega, fun x _ => by rw [total_nil]; omega, Kept.refl _ W⟩
theorem TreeIn.below {W w : World} {tb : Nat} {L : List Item} {l2 : List Res} (h : TreeIn W.heap.size W (fun _ => 0) w tb L l2) : Below W.heap.size W w := by
  obtain ⟨_, _, _, _, _, _, H⟩ := h
  exact H.kept.below (Nat.le_refl _) (fun x hx => absurd hx (Nat.lt_irrefl 0))
theorem TreeIn.forget {base : Nat} {w0 w : World} {K0 : Nat → Nat} {tb : Nat} {L : List Item} (l1 : List Res) {r : Res} {l2 : List Res} (h : TreeIn base w0 K0 w tb L (l1 ++ r :: l2)) : TreeIn base w0 K0 w tb L (l1 ++ l2) := by
  obtain ⟨h1, h2, k, h3, h4, h5, H⟩ := h
  exact ⟨h1, h2, k, h3, h4, h5, H.forget (.cell tb 55 [ptrV k.b] :: .sub h2 k :: l1)⟩
theorem TreeIn.drewN {base : Nat} {w0 w : World} {K0 : Nat → Nat} {tb : Nat} {L : List Item} {l2 : List Res} (h : TreeIn base w0 K0 w tb L l2) (n : Nat) : TreeIn base w0 K0 (w.drewN n) tb L l2 := by
  obtain ⟨h1, h2, k, h3, h4, h5, H⟩ := h
  exact ⟨h1, h2, k, h3, h4, h5, H.drewN n⟩
theorem TreeIn.row {base : Nat} {w0 w : World} {K0 : Nat → Nat} {tb : Nat} {L : List Item} {l2 : List Res} (h : TreeIn base w0 K0 w tb L l2) {v : Value} {l : List Item} (hm : rowE v l ∈ l2) : w.ownsRow base 33 2 v l.length (flatE l) := by
  obtain ⟨_, _, _, _, _, _, H⟩ := h
  exact H.rowAt (by simp only [List.mem_cons]; exact .inr (.inr hm))
theorem TreeIn.low {base : Nat} {w0 w : World} {K0 : Nat → Nat} {tb : Nat} {L : List Item} {l2 : List Res} (h : TreeIn base w0 K0 w tb L l2) : base ≤ w.heap.size := by
  obtain ⟨_, _, k, _, _, _, H⟩ := h
  exact H.low (b := tb) (t := 55) (vs := [ptrV k.b]) (by simp)

/-- Names are keys. -/
def NK (L : List Item) : Prop := ∀ x ∈ L, x.name = x.key
theorem NK.put {L : List Item} {it : Item} (h : NK L) (hi : it.name = it.key) : NK (putL L it) := fun x hx => by
  rcases putL_mem L hx with rfl | h1
  · exact hi
  · exact h x h1
theorem putL_length (it : Item) : ∀ L : List Item, (putL L it).length ≤ L.length + 1
  | [] => by simp [putL]
  | x :: L => by
    simp only [putL]
    split
    · simp
    · split
      · simp
      · have := putL_length it L; simp; omega
theorem after_at {A B : List Item} {x : Item} (h : Sorted (A ++ x :: B)) : afterL (A ++ x :: B) x.key = B := by
  have h1 := List.pairwise_append.1 h
  have h2 := List.pairwise_cons.1 h1.2.1
  rw [afterL_append, afterL_low (fun i hi => h1.2.2 i hi x (by simp)), afterL_cons, if_neg (kLt_irrefl _), List.nil_append]
  unfold afterL
  rw [List.filter_eq_self]
  intro y hy
  simp [h2.1 y hy]

def aItem : Item := ⟨⟨#[97]⟩, ⟨#[97]⟩, 1⟩

theorem aItem_full : aItem.key.toList.isEmpty = false := by rw [Go.Lib.toList_data]; rfl
theorem and7 (x : Int) : ∃ nn : Nat, wrap64 (1 + bits .and .i64 x 7) = (nn : Int) ∧ 1 ≤ nn ∧ nn ≤ 8 := by
  have h : (BitVec.ofInt 64 x &&& BitVec.ofInt 64 7).toNat ≤ 7 := by
    rw [BitVec.toNat_and]
    exact Nat.le_trans Nat.and_le_right (by decide)
  have e : bits .and .i64 x 7 = (((BitVec.ofInt 64 x &&& BitVec.ofInt 64 7).toNat : Nat) : Int) := by
    show IntKind.i64.wrap (((BitVec.ofInt 64 x &&& BitVec.ofInt 64 7).toNat : Nat) : Int) = _
    rw [IntKind.wrap_i64]
    omega
  refine ⟨1 + (BitVec.ofInt 64 x &&& BitVec.ofInt 64 7).toNat, ?_, by omega, by omega⟩
  rw [e]
  unfold wrap64
  omega
theorem TreeIn.drew {base : Nat} {w0 w : World} {K0 : Nat → Nat} {tb : Nat} {L : List Item} {l2 : List Res} (h : TreeIn base w0 K0 w tb L l2) : TreeIn base w0 K0 w.drew tb L l2 := by
  obtain ⟨h1, h2, k, h3, h4, h5, H⟩ := h
  exact ⟨h1, h2, k, h3, h4, h5, H.drew⟩
theorem TreeIn.nilRow {base : Nat} {w0 w : World} {K0 : Nat → Nat} {tb : Nat} {L : List Item} {l2 : List Res} (h : TreeIn base w0 K0 w tb L l2) : TreeIn base w0 K0 w tb L (rowE (.slice none 0 0) [] :: l2) := by
  obtain ⟨h1, h2, k, h3, h4, h5, H⟩ := h
  refine ⟨h1, h2, k, h3, h4, h5, ?_⟩
  have h6 := H.nilRow 33 2
  exact (h6.front [_, _]).front [_, _]
theorem TreeIn.growE {base : Nat} {w0 w w' : World} {K0 : Nat → Nat} {tb : Nat} {L : List Item} (l1 : List Res) {v v' : Value} {a b : List Item} {l2 : List Res} (h : TreeIn base w0 K0 w tb L (l1 ++ rowE v a :: l2)) (hg : w.grownBy w' v.ownBlock) (hr : w'.ownsRow base 33 2 v' b.length (flatE b)) (ha : v'.ownBlock = v.ownBlock ∨ ∃ x, v'.ownBlock = some x ∧ w.heap.size ≤ x) : TreeIn base w0 K0 w' tb L (l1 ++ rowE v' b :: l2) := by
  obtain ⟨h1, h2, k, h3, h4, h5, H⟩ := h
  exact ⟨h1, h2, k, h3, h4, h5, H.grow (.cell tb 55 [ptrV k.b] :: .sub h2 k :: l1) hg hr ha⟩
theorem TreeIn.sorted {base : Nat} {w0 w : World} {K0 : Nat → Nat} {tb : Nat} {L : List Item} {l2 : List Res} (h : TreeIn base w0 K0 w tb L l2) : Sorted L := h.1
/-- What stands behind the part that was told. -/
def KeyAt (L : List Item) (m : Nat) (key : ByteArray) : Prop := afterL L key = L.drop m

set_option maxRecDepth 100000 in
set_option maxHeartbeats 4000000 in
theorem topWalk_walk (v : Value) (n : Nat) (f : Nat → ActD) (many : Int) (W : World) (h : ActsOk W v n f) (hm1 : -9223372036854775808 ≤ many) (hm2 : many ≤ 9223372036854775807) :
    Calls Try.prog 5 #[v, .int .i64 many] W fun e w' => e = .returned (.bool true) ∧ Below W.heap.size W w' := by
  have e1 := new_calls W.heap.size W (fun _ => 0) W [] (Hold.init W) (Nat.le_refl _)
  have E1 := hide e1
  have HA := hide h
  have hvs : ∃ p c, v = .slice p n c := by
    rcases h with ⟨⟨p, c, h1⟩, h2⟩ | ⟨b, off, c, h1, _⟩
    · exact ⟨p, c, by rw [h1, h2]⟩
    · exact ⟨_, c, h1⟩
  obtain ⟨p, cv, hv⟩ := hvs
  rw [hv]
  rw [hv] at HA
  clear e1 h hv
  go_enter Try.func5, Try.ntmps5
  go_wp2_with fail
  refine (unhide E1).mono ?_
  rintro e w1 ⟨tb, rfl, hT⟩
  have e2 := treePut_calls W.heap.size W (fun _ => 0) w1 tb [] aItem [] hT aItem_full
  have E2 := hide e2
  clear e2 hT E1
  go_wp2_with fail
  refine (unhide E2).mono ?_
  rintro e w2 ⟨rfl, hT⟩
  have hL1 : putL [] aItem = [aItem] := rfl
  rw [hL1] at hT
  have e3 := after_calls W.heap.size W (fun _ => 0) w2 tb [aItem] [] ⟨#[97]⟩ 5 (by omega) (by omega) hT (by simp)
  have E3 := hide e3
  clear e3 hT E2 hL1
  go_wp2_with fail
  refine (unhide E3).mono ?_
  rintro e w3 ⟨v3, rfl, hT⟩
  have h30 : (afterL [aItem] ⟨#[97]⟩).take (5 : Int).toNat = [] := by decide +kernel
  rw [h30] at hT
  obtain ⟨p3, c3, hv3⟩ := row_len (hT.row (List.mem_cons_self ..))
  simp only [List.length_nil] at hv3
  subst hv3
  have hT' := hT.forget []
  have e4 := after_calls W.heap.size W (fun _ => 0) w3 tb [aItem] _ ⟨#[]⟩ 5 (by omega) (by omega) hT' (by simp)
  have E4 := hide e4
  clear e4 hT hT' E3 h30
  go_wp2_with fail
  refine (unhide E4).mono ?_
  rintro e w4 ⟨v4, rfl, hT⟩
  have h40 : (afterL [aItem] ⟨#[]⟩).take (5 : Int).toNat = [aItem] := by rw [Full.after (fun x hx => by simp at hx; subst hx; exact aItem_full)]; rfl
  rw [h40] at hT
  obtain ⟨p4, c4, hv4⟩ := row_len (hT.row (List.mem_cons_self ..))
  simp only [List.length_cons, List.length_nil] at hv4
  subst hv4
  have hT' := hT.forget []
  simp only [List.nil_append] at hT'
  have e5 := lightActs_calls (.slice p n cv) n f w4 ((unhide HA).below hT'.below) 100 (by omega)
  have E5 := hide e5
  have HT := hide hT'
  clear e5 hT hT' E4 h40
  go_wp2_with fail
  refine (unhide E5).mono ?_
  rintro e w5 ⟨⟨r, rfl, hr⟩, rfl⟩
  cases r with
  | false =>
    go_wp2_with fail
    go_ret
    exact ⟨rfl, (unhide HT).below⟩
  | true =>
  have hn100 : n ≤ 100 := hr rfl
  clear hr E5
  go_wp2_with fail
  go_loopg [6] (n + 1) (fun g vi wr => ∃ (i : Nat) (L : List Item), n - i < g ∧ i ≤ n ∧ vi = .int .i64 i ∧ L.length ≤ i + 1 ∧ Hid (Full L ∧ NK L) ∧ Hid (TreeIn W.heap.size W (fun _ => 0) wr tb L []))
  case atStart => exact ⟨0, [aItem], by omega, by omega, rfl, by simp, ⟨fun x hx => by simp at hx; subst hx; exact aItem_full, fun x hx => by simp at hx; subst hx; rfl⟩, HT⟩
  case round =>
    obtain ⟨i, L, hg, hi, rfl, hL, HF, HT2⟩ := hrel
    by_cases hin : i < n
    · have hiz : (i : Int) < (n : Int) := by omega
      have hA := (unhide HA).below (unhide HT2).below
      rcases hA with ⟨_, h0⟩ | ⟨b, off, c, hv, hn63, hb, hcells⟩
      · omega
      · injection hv with hp _ hcc
        subst hp hcc
        obtain ⟨_, q1, _⟩ := hcells i hin
        obtain ⟨S, hS⟩ : ∃ S, (f i).s = S := ⟨_, rfl⟩
        rw [hS] at q1
        clear hcells hS
        by_cases hse : S.toList.isEmpty = true
        · have hse2 : (S.toList == []) = true := by simpa using hse
          go_wp2_with fail
          go_roundg (n - i)
          case measure => omega
          case rel => exact ⟨i + 1, L, by omega, by omega, by simp, by omega, HF, HT2⟩
        · have hse1 : S.toList.isEmpty = false := by simpa using hse
          have hse2 : (S.toList == []) = false := by simpa using hse1
          have e6 : ∀ wx, TreeIn W.heap.size W (fun _ => 0) wx tb L [] → Calls Try.prog 9 #[.pointer (some ⟨tb, 0, none⟩), .string S, .agg #[.string S, .int .i64 0]] wx fun e w' => TreePutEnd W.heap.size W (fun _ => 0) tb L ⟨S, S, 0⟩ [] e w' := fun wx hx => treePut_calls W.heap.size W (fun _ => 0) wx tb L ⟨S, S, 0⟩ [] hx hse1
          have E6 := hide e6
          clear e6 hse
          go_wp2_with fail
          go_region_with ((go_at_call 9; refine (unhide E6 _ ?_).mono ?_; exact (unhide HT2).drew; rintro e w7 ⟨rfl, hT7⟩; have HT7 := hide hT7; clear hT7))
          all_goals
            go_wp2_with fail
            go_roundg (n - i)
            case measure => omega
            case rel => exact ⟨i + 1, putL L ⟨S, S, 0⟩, by omega, by omega, by simp, by have := putL_length ⟨S, S, 0⟩ L; omega, ⟨(unhide HF).1.put hse1, (unhide HF).2.put rfl⟩, HT7⟩
    · have hiz : ¬ ((i : Int) < (n : Int)) := by omega
      obtain ⟨nn, hnn, hnn1, hnn8⟩ := and7 many
      have HNN := hide hnn
      obtain ⟨m0, hm0⟩ : ∃ m0, L.length = m0 := ⟨_, rfl⟩
      have hm101 : m0 ≤ 101 := by omega
      have e6 := many_calls W.heap.size W (fun _ => 0) wr tb L [] (unhide HT2) (unhide HF).1 (by omega)
      rw [hm0] at e6
      have E6 := hide e6
      have Hm0 := hide hm0
      clear e6 hnn hm0 hL
      go_wp2_with fail
      rw [unhide HNN]
      refine (unhide E6).mono ?_
      rintro e w6 ⟨rfl, hT⟩
      have e7 := after_calls W.heap.size W (fun _ => 0) w6 tb L [] ⟨#[]⟩ m0 (by omega) (by omega) hT (by have := unhide Hm0; omega)
      rw [(unhide HF).1.after, Int.toNat_natCast, List.take_of_length_le (by have := unhide Hm0; omega)] at e7
      have E7 := hide e7
      clear e7 hT E6
      go_wp2_with fail
      refine (unhide E7).mono ?_
      rintro e w7 ⟨vall, rfl, hT⟩
      obtain ⟨pa, ca, hva⟩ := row_len (hT.row (List.mem_cons_self ..))
      rw [unhide Hm0] at hva
      have HT3 := hide hT
      clear hT E7 HT2
      subst hva
      go_wp2_with fail
      go_loopg [8, 10, 11, 12] (m0 + 2) (fun g v8 v10 v11 v12 wx => ∃ (i m : Nat) (key : ByteArray), m0 + 1 - i < g ∧ i ≤ m ∧ m ≤ m0 ∧ v8 = .string key ∧ v11 = .int .i64 i ∧ Hid (afterL L key = L.drop m) ∧ Hid (TreeIn W.heap.size W (fun _ => 0) wx tb L (rowE v10 (L.take m) :: rowE (.slice pa m0 ca) L :: [])))
      case atStart => exact ⟨0, 0, ⟨#[]⟩, by omega, by omega, by omega, rfl, rfl, (unhide HF).1.after, (unhide HT3).nilRow⟩
      case round =>
        obtain ⟨i2, m, key, hg2, hi2, hm2', rfl, rfl, HK, HT4⟩ := hrel
        have hiz2 : (i2 : Int) ≤ (m0 : Int) := by omega
        have e8 := after_calls W.heap.size W (fun _ => 0) _ tb L _ key nn (by omega) (by omega) (unhide HT4) (by have := unhide Hm0; omega)
        rw [unhide HK, Int.toNat_natCast] at e8
        obtain ⟨out, hout⟩ : ∃ out, (L.drop m).take nn = out := ⟨_, rfl⟩
        rw [hout] at e8
        obtain ⟨np, hnp⟩ : ∃ np, out.length = np := ⟨_, rfl⟩
        have hnp2 : np = min nn (m0 - m) := by rw [← hnp, ← hout, List.length_take, List.length_drop, unhide Hm0]
        have hnp8 : np ≤ 8 := by omega
        have hnpm : m + np ≤ m0 := by omega
        have hnp1 : m = m0 ∨ 0 < np := by omega
        have hnp00 : m = m0 → np = 0 := by omega
        have Hnp00 := hide hnp00
        have Hnp1 := hide hnp1
        clear hnp2 hnp00 hnp1
        have E8 := hide e8
        have Hout := hide hout
        have Hnp := hide hnp
        clear e8 hout hnp
        go_wp2_with fail
        refine (unhide E8).mono ?_
        rintro e w8 ⟨vp, rfl, hT⟩
        have rp := hT.row (List.mem_cons_self ..)
        rw [unhide Hnp] at rp
        obtain ⟨pp, cp, hvp⟩ := row_len rp
        have HT5 := hide hT
        clear hT E8 HT4
        by_cases hmm : m = m0
        · have hnp0 := unhide Hnp00 hmm
          subst hnp0
          have hT6 := (unhide HT5).forget []
          rw [hmm, List.take_of_length_le (by have := unhide Hm0; omega)] at hT6
          simp only [List.nil_append] at hT6
          have HT6 := hide hT6
          subst hvp
          clear hT6 rp HK Hout Hnp hmm hg2 hi2 hiz2 hm2' HT5
          go_wp2_with fail
          go_loopg [13] (m0 + 2) (fun g v13 wx => ∃ (i q : Nat), m0 + 1 - i < g ∧ 1 ≤ i ∧ i ≤ m0 + 1 ∧ v13 = .int .i64 i ∧ wx = w8.drewN q)
          case atStart => exact ⟨1, 0, by omega, by omega, by omega, rfl, rfl⟩
          case round =>
            obtain ⟨i3, q, hg3, hi31, hi3, rfl, rfl⟩ := hrel
            have hT8 := (unhide HT6).drewN q
            by_cases hin3 : i3 < m0
            · have hiz3 : (i3 : Int) < (m0 : Int) := by omega
              have ra := hT8.row (v := .slice pa m0 ca) (l := L) (by simp)
              rw [unhide Hm0] at ra
              obtain ⟨ga, ca', hva2, _, _⟩ := row_shape ra (by omega)
              injection hva2 with hpa _ hca
              subst hpa hca
              obtain ⟨j, hj⟩ : ∃ j, i3 = j + 1 := ⟨i3 - 1, by omega⟩
              have zj : (i3 : Int) - 1 = (j : Int) := by omega
              have hw3 : IntKind.i64.wrap ((i3 : Int) - 1) = (j : Int) := by rw [IntKind.wrap_i64]; omega
              have hjz : (j : Int) < (m0 : Int) := by omega
              have hj0 : (0 : Int) ≤ (j : Int) := by omega
              have hlen := unhide Hm0
              obtain ⟨x, hx⟩ : ∃ x, L[i3]? = some x := ⟨_, List.getElem?_eq_getElem (by omega)⟩
              obtain ⟨y, hy⟩ : ∃ y, L[j]? = some y := ⟨_, List.getElem?_eq_getElem (by omega)⟩
              have c1 : w8.cell? ⟨ga, i3 * 2, none⟩ = some (.string x.name) := (entry_cell ra hx).1
              have c2 : w8.cell? ⟨ga, j * 2, none⟩ = some (.string y.name) := (entry_cell ra hy).1
              have hlt : kLt y.name x.name := by
                obtain ⟨h1, h1'⟩ := List.getElem?_eq_some_iff.1 hx
                obtain ⟨h2, h2'⟩ := List.getElem?_eq_some_iff.1 hy
                have h3 := List.pairwise_iff_getElem.1 hT8.sorted j i3 h2 h1 (by omega)
                rw [h1', h2'] at h3
                rw [(unhide HF).2 x (List.mem_of_getElem? hx), (unhide HF).2 y (List.mem_of_getElem? hy)]
                exact h3
              obtain ⟨hb1, hb2⟩ := greater_yes hlt
              have hb3 : (x.name.toList == y.name.toList) = false := by simp [hb2]
              clear ra hx hy hlt hlen hj hT8
              go_wp2_with fail
              go_quiet (fail)
              go_wp2_with fail
              go_roundg (m0 + 1 - i3)
              case measure => omega
              case rel => exact ⟨i3 + 1, q + nq, by omega, by omega, by omega, by simp, rfl⟩
            · have hiz3 : ¬ ((i3 : Int) < (m0 : Int)) := by omega
              have e9 := many_calls W.heap.size W (fun _ => 0) _ tb L _ hT8 (unhide HF).1 (by have := unhide Hm0; omega)
              rw [unhide Hm0] at e9
              have E9 := hide e9
              clear e9 hT8
              go_wp2_with fail
              refine (unhide E9).mono ?_
              rintro e w9 ⟨rfl, hT9⟩
              have ra := hT9.row (v := .slice pa m0 ca) (l := L) (by simp)
              have rg := hT9.row (v := u10) (l := L) (by simp)
              rw [unhide Hm0] at ra rg
              have e10 := same_calls _ _ u10 (.slice pa m0 ca) m0 L w9 rg ra (unhide Hm0) (by omega)
              have E10 := hide e10
              have HB := hide hT9.below
              clear e10 ra rg hT9 E9
              go_wp2_with fail
              refine (unhide E10).mono ?_
              rintro e w10 ⟨rfl, q10, rfl⟩
              go_wp2_with fail
              go_ret
              exact ⟨rfl, ⟨(unhide HB).os, (unhide HB).tape, (unhide HB).output, (unhide HB).size, (unhide HB).block⟩⟩
        · have hnp0 : 0 < np := (unhide Hnp1).resolve_left hmm
          obtain ⟨gp, cp', hvp2, _, hcp63⟩ := row_shape rp hnp0
          subst hvp2
          clear hvp
          obtain ⟨i0, hi0, hz0, hz1, hz2⟩ := info_parts info33
          have rg := (unhide HT5).row (v := u10) (l := L.take m) (by simp)
          have hlm : (L.take m).length = m := by rw [List.length_take, unhide Hm0]; omega
          rw [hlm] at rg
          have Hrg := hide rg
          have Hrp := hide rp
          have Hlow := hide (unhide HT5).low
          have hnz : ((np : Int) == 0) = false := by rw [beq_eq_false_iff_ne]; omega
          obtain ⟨q, hq⟩ : ∃ q, np = q + 1 := ⟨np - 1, by omega⟩
          have zq : (np : Int) - 1 = (q : Int) := by omega
          have hqz : (q : Int) < (np : Int) := by omega
          have hq0 : (0 : Int) ≤ (q : Int) := by omega
          have Hq := hide hq
          obtain ⟨x, hx⟩ : ∃ x, out[q]? = some x := ⟨_, List.getElem?_eq_getElem (by have := unhide Hnp; omega)⟩
          have Hx := hide hx
          have he1 : L.take (m + np) = L.take m ++ out := by
            have h1 : out = (L.drop m).take np := by
              have h2 := unhide Hout
              have h3 := unhide Hnp
              have h4 : out = out.take np := (List.take_of_length_le (by omega)).symm
              rw [h4, ← h2, List.take_take]
              congr 1
              rw [← h2, List.length_take] at h3
              omega
            rw [h1, List.take_add]
          have hE1 : flatE (L.take m) ++ flatE out = flatE (L.take (m + np)) := by rw [he1]; simp [flatE]
          have hE2 : m + np = (L.take (m + np)).length := by rw [List.length_take, unhide Hm0]; omega
          have hxL : ∃ A B, L = A ++ x :: B ∧ L.drop (m + np) = B := by
            have h1 : L[m + q]? = some x := by
              have h2 : (L.take (m + np))[m + q]? = some x := by
                rw [he1, List.getElem?_append_right (by rw [List.length_take]; omega), List.length_take, unhide Hm0, show m + q - min m m0 = q by omega]
                exact hx
              rw [List.getElem?_take] at h2
              split at h2
              · exact h2
              · cases h2
            obtain ⟨h3, rfl⟩ := List.getElem?_eq_some_iff.1 h1
            exact ⟨L.take (m + q), L.drop (m + q + 1), by rw [← List.drop_eq_getElem_cons h3, List.take_append_drop], by rw [hq]; rfl⟩
          have hkey : afterL L x.name = L.drop (m + np) := by
            obtain ⟨A, B, h1, h2⟩ := hxL
            have h3 : x.name = x.key := (unhide HF).2 x (by rw [h1]; simp)
            have h4 := (unhide HT5).sorted
            rw [h3, h2]
            have h5 : afterL L x.key = afterL (A ++ x :: B) x.key := by rw [← h1]
            rw [h5]
            exact after_at (by rw [← h1]; exact h4)
          have HE1 := hide hE1
          have HE2 := hide hE2
          have Hkey := hide hkey
          clear rg rp hq hx hlm he1 hE1 hE2 hxL hkey
          go_wp2_with (at_builtin; refine wpList_append_own_at _ rfl _ _ 43 rfl W.heap.size 33 i0 (.agg #[.string ⟨#[]⟩, .int .i64 0]) 2 24 Try.underlying43 hi0 hz0 hz1 hz2 rfl (by decide) _ _ _ rfl (unhide Hrg) ⟨gp, 0, none⟩ np cp' (flatE out) rfl (by rw [flatE_length, unhide Hnp]) (fun j u hj => by rw [Addr.add_lit, Nat.zero_add, (unhide Hrp).cellAt j (by have := (List.getElem?_eq_some_iff.1 hj).1; rw [flatE_length, unhide Hnp] at this; exact this)]; exact hj) (flatE_one _) (by unfold maxLen; omega) (by omega) (unhide Hlow) ?_; intro v9 w9 hown9 hgrow9 hnil9 hat9; have hT9 := (unhide HT5).growE [rowE (.slice (some ⟨gp, 0, none⟩) np cp') out] (b := L.take (m + np)) hgrow9 (by rw [← unhide HE2, ← unhide HE1]; exact hown9) (by rcases hat9 with h | h; exact .inl h; exact .inr ⟨_, h, Nat.le_refl _⟩); have rp9 := hT9.row (v := .slice (some ⟨gp, 0, none⟩) np cp') (l := out) (by simp); rw [unhide Hnp] at rp9; have c9 := (entry_cell rp9 (unhide Hx)).1; have HT9 := hide hT9; clear hown9 hgrow9 hnil9 hat9 hT9 rp9)
          go_roundg (m0 + 1 - i2)
          case measure => omega
          case rel => exact ⟨i2 + 1, m + np, x.name, by omega, by omega, by omega, rfl, by simp, Hkey, (unhide HT9).forget []⟩
#print axioms topWalk_walk
end Go.Proofs.Ytklnonmmamdecab
