/-
  The arguments 'a row of changes' and 'a change' as they are read. Acts and deeds as arguments, with the shapes of the rows in them. The store beside the document's, on a disk that does not fall: Commit of both.
-/
import Derived.Test.YtcjfhfalffngjaaCDNew
import Derived.Test.YtcjfhfalffngjaaCCApplyW
import Derived.Test.YtcjfhfalffngjaaCDsArgs
import Derived.Test.YtcjfhfalffngjaaCSStored
namespace Go.Proofs.Ytcjfhfalffngjaa
open Go.ChangeShapes Go.WideShapes Go.RowKit Go.Deep
set_option linter.unusedVariables false
set_option maxRecDepth 100000
set_option linter.unusedSimpArgs false
section
variable {H : Type} {enc : TypeId × Value → H} {W : World} {base : Nat} {held : Bool}

theorem changes_open {v : Value} {d : DataW H} {ps : List MemPlace} (hval : ∃ a len cap, v = .slice a len cap) (h : DataW.Trod enc Try.prog W base (fun _ => true) held 36 v d ps) : ∃ n f, ChOk W v n f ∧ Shaped v := by
  obtain ⟨fuel, h⟩ := h
  obtain ⟨a0, l0, c0, rfl⟩ := hval
  have h' : DataW.trod enc Try.prog W base (fun _ => true) held fuel 36 [.slice a0 l0 c0] = some (d, ps) := h
  obtain ⟨n, f, hok⟩ := ch_open h'
  refine ⟨n, f, hok, ?_⟩
  rcases open_slice Try.underlying36 h' with ⟨h0, _⟩ | ⟨a, len, cap, m, n, D, Pl, hcs, _⟩
  · simp only [List.cons.injEq, and_true] at h0
    exact .inl h0
  · simp only [List.cons.injEq, and_true] at hcs
    exact .inr ⟨a, len, cap, hcs⟩

theorem change_open {b0 : Nat} {v : Value} {d : DataW H} {ps : List MemPlace} (hval : Value.okWide Try.prog W .any b0 54 v) (h : DataW.Trod enc Try.prog W base (fun _ => true) held 54 v d ps) : ∃ c : ChD, v = chV c := by
  obtain ⟨cs, rfl, hsz⟩ := okWide_struct Try.underlying54 hval
  rw [cells54] at hsz
  obtain ⟨fuel, h⟩ := h
  obtain ⟨l, rfl⟩ : ∃ l : List Value, cs = l.toArray := ⟨cs.toList, by simp⟩
  match l, hsz with
  | [u0, u1, u2], _ =>
    obtain ⟨xs, k, hk, _, _, hxl, hf⟩ := DataW.trod_struct Try.underlying54 h
    match xs, hxl with
    | [y0, y1, y2], _ =>
      have g0 := hf 0 _ rfl
      have g1 := hf 1 _ rfl
      have g2 := hf 2 _ rfl
      simp [Value.cells, cells9, cells4] at g0 g1 g2
      obtain ⟨s0, e0, _⟩ := DataW.trod_string Try.underlying9 g0
      obtain ⟨s1, e1, _⟩ := DataW.trod_string Try.underlying9 g1
      obtain ⟨s2, e2, _⟩ := DataW.trod_bool Try.underlying4 g2
      simp at e0 e1 e2
      subst e0 e1 e2
      exact ⟨⟨s0, s1, s2⟩, rfl⟩
end
end Go.Proofs.Ytcjfhfalffngjaa
namespace Go.Proofs.Ytcjfhfalffngjaa
open Go.ChangeShapes Go.WideShapes Go.RowKit Go.Deep
set_option linter.unusedVariables false
set_option maxRecDepth 100000
set_option linter.unusedSimpArgs false
def ActsS (W : World) (v : Value) (n : Nat) (f : Nat → ActD) : Prop := ActsOk W v n f ∧ ∀ j, j < n → Shaped (f j).ch
def DsS (W : World) (v : Value) (P : List (Value × List ChD)) : Prop := DsP W v P ∧ ∀ p ∈ P, Shaped p.1
section
variable {H : Type} {enc : TypeId × Value → H} {W : World} {base : Nat} {held : Bool}
theorem ch_shape {fuel : Nat} {v : Value} {x : DataW H × List MemPlace} (h : DataW.trod enc Try.prog W base (fun _ => true) held fuel 36 [v] = some x) : Shaped v := by
  rcases open_slice Try.underlying36 h with ⟨h0, _⟩ | ⟨a, len, cap, m, n, D, Pl, hcs, _⟩
  · simp only [List.cons.injEq, and_true] at h0
    exact .inl h0
  · simp only [List.cons.injEq, and_true] at hcs
    exact .inr ⟨a, len, cap, hcs⟩
theorem deeds_openS {v : Value} {d : DataW H} {ps : List MemPlace} (hval : ∃ a len cap, v = .slice a len cap) (h : DataW.Trod enc Try.prog W base (fun _ => true) held 69 v d ps) : ∃ (n : Nat) (P : List (Value × List ChD)), DsS W v P := by
  obtain ⟨fuel, h⟩ := h
  obtain ⟨a0, l0, c0, rfl⟩ := hval
  rcases open_slice Try.underlying69 h with ⟨h0, _⟩ | ⟨a, len, cap, m, n, D, Pl, hcs, hb, hl, hm, hmm, _, hx⟩
  · simp only [Value.cells, List.cons.injEq, and_true] at h0
    exact ⟨0, [], .inl ⟨rfl, none, 0, h0⟩, fun p hp => by cases hp⟩
  · simp only [Value.cells, List.cons.injEq, and_true] at hcs
    simp only [if_true] at hmm
    rcases Nat.eq_zero_or_pos cap with h0 | h0
    · obtain rfl : len = 0 := by omega
      exact ⟨0, [], .inl ⟨rfl, _, _, hcs⟩, fun p hp => by cases hp⟩
    · obtain ⟨b, o, spot⟩ := a
      have hsp : spot = none ∧ b < W.heap.size := by
        obtain ⟨cs', h1, _⟩ := hx 0 (by omega)
        rw [cells36] at h1
        obtain ⟨_, hlen, hcell⟩ := World.cells?_some h1
        have := hcell 0 (by omega)
        rw [List.getElem?_eq_getElem (by omega)] at this
        exact ⟨by simpa [Addr.add] using World.cell?_spot this, by have h2 := World.block_lt_of_cell? _ _ this; simpa [Addr.add] using h2⟩
      obtain ⟨rfl, hlt⟩ := hsp
      have each : ∀ j, j < len → ∃ q : Value × List ChD, W.cell? ⟨b, o + j, none⟩ = some q.1 ∧ ChL W q.1 q.2 ∧ Shaped q.1 := fun j hj => by
        obtain ⟨cs', h1, h2⟩ := hx j (by omega)
        rw [cells36] at h1
        obtain ⟨_, hlen, hcell⟩ := World.cells?_some h1
        match cs', hlen with
        | [u0], _ =>
          have c0 := hcell 0 (by omega)
          rw [add_add, Addr.add_lit] at c0
          obtain ⟨cn, cf, hch⟩ := ch_open h2
          exact ⟨(u0, listOf cn cf), by simpa using c0, chl_of_ok hch, ch_shape h2⟩
      obtain ⟨f, hf⟩ := choose_lt each
      refine ⟨0, (List.range len).map f, .inr ⟨b, o, cap, by simpa using hcs, by simp; unfold maxLen at hm; omega, hlt, fun j p hp => ?_⟩, fun p hp => ?_⟩
      · have hj : j < len := by have := (List.getElem?_eq_some_iff.1 hp).1; simpa using this
        rw [List.getElem?_map, List.getElem?_range hj] at hp
        cases hp
        exact ⟨(hf j hj).1, (hf j hj).2.1⟩
      · obtain ⟨j, hj, rfl⟩ := List.mem_map.1 hp
        exact (hf j (List.mem_range.1 hj)).2.2

theorem acts_openS {v : Value} {d : DataW H} {ps : List MemPlace} (hval : ∃ a len cap, v = .slice a len cap) (h : DataW.Trod enc Try.prog W base (fun _ => true) held 22 v d ps) : ∃ n f, ActsS W v n f := by
  obtain ⟨fuel, h⟩ := h
  obtain ⟨a0, l0, c0, rfl⟩ := hval
  rcases open_slice Try.underlying22 h with ⟨h0, _⟩ | ⟨a, len, cap, m, n, D, Pl, hcs, hb, hl, hm, hmm, _, hx⟩
  · simp only [Value.cells, List.cons.injEq, and_true] at h0
    exact ⟨0, default, .inl ⟨⟨none, 0, h0⟩, rfl⟩, fun j hj => by omega⟩
  · simp only [Value.cells, List.cons.injEq, and_true] at hcs
    simp only [if_true] at hmm
    rcases Nat.eq_zero_or_pos cap with h0 | h0
    · obtain rfl : len = 0 := by omega
      exact ⟨0, default, .inl ⟨⟨_, _, hcs⟩, rfl⟩, fun j hj => by omega⟩
    · obtain ⟨b, o, spot⟩ := a
      have hsp : spot = none ∧ b < W.heap.size := by
        obtain ⟨cs', h1, _⟩ := hx 0 (by omega)
        rw [cells38] at h1
        obtain ⟨_, hlen, hcell⟩ := World.cells?_some h1
        have := hcell 0 (by omega)
        rw [List.getElem?_eq_getElem (by omega)] at this
        exact ⟨by simpa [Addr.add] using World.cell?_spot this, by have h2 := World.block_lt_of_cell? _ _ this; simpa [Addr.add] using h2⟩
      obtain ⟨rfl, hlt⟩ := hsp
      have each : ∀ j, j < len → ∃ q : ActD, (W.cell? ⟨b, o + j * 6, none⟩ = some (.string q.kind) ∧ W.cell? ⟨b, o + j * 6 + 1, none⟩ = some (.string q.s) ∧ W.cell? ⟨b, o + j * 6 + 2, none⟩ = some (.string q.t) ∧ W.cell? ⟨b, o + j * 6 + 3, none⟩ = some (.int .i64 q.n) ∧ W.cell? ⟨b, o + j * 6 + 4, none⟩ = some (.int .u64 (q.k : Int)) ∧ W.cell? ⟨b, o + j * 6 + 5, none⟩ = some q.ch ∧ ChOk W q.ch q.cn q.cf ∧ (-9223372036854775808 ≤ q.n ∧ q.n ≤ 9223372036854775807) ∧ q.k < 18446744073709551616) ∧ Shaped q.ch := by
        intro j hj
        obtain ⟨cs', h1, h2⟩ := hx j (by omega)
        rw [cells38] at h1
        obtain ⟨_, hlen, hcell⟩ := World.cells?_some h1
        obtain ⟨xs, k, hk, _, _, hxl, hf⟩ := DataW.trod_struct Try.underlying38 h2
        match xs, hxl, cs', hlen with
        | [y0, y1, y2, y3, y4, y5], _, [u0, u1, u2, u3, u4, u5], _ =>
          have g0 := hf 0 _ rfl
          have g1 := hf 1 _ rfl
          have g2 := hf 2 _ rfl
          have g3 := hf 3 _ rfl
          have g4 := hf 4 _ rfl
          have g5 := hf 5 _ rfl
          simp [cells9, cells3, cells35, cells36] at g0 g1 g2 g3 g4 g5
          obtain ⟨s0, e0, _⟩ := DataW.trod_string Try.underlying9 g0
          obtain ⟨s1, e1, _⟩ := DataW.trod_string Try.underlying9 g1
          obtain ⟨s2, e2, _⟩ := DataW.trod_string Try.underlying9 g2
          obtain ⟨s3, e3, _, wf3⟩ := DataW.trod_int Try.underlying3 g3
          obtain ⟨s4, e4, _, wf4⟩ := DataW.trod_int Try.underlying35 g4
          simp at e0 e1 e2 e3 e4
          subst e0 e1 e2 e3 e4
          have c0 := hcell 0 (by omega)
          have c1 := hcell 1 (by omega)
          have c2 := hcell 2 (by omega)
          have c3 := hcell 3 (by omega)
          have c4 := hcell 4 (by omega)
          have c5 := hcell 5 (by omega)
          rw [add_add, Addr.add_lit] at c0 c1 c2 c3 c4 c5
          obtain ⟨cn, cf, hch⟩ := ch_open g5
          have hshp := ch_shape g5
          have b3 := bounds_i64 wf3
          have b4 := bounds_u64 wf4
          exact ⟨⟨s0, s1, s2, s3, s4.toNat, u5, cn, cf⟩, ⟨by simpa using c0, by simpa [Nat.add_assoc] using c1, by simpa [Nat.add_assoc] using c2, by simpa [Nat.add_assoc] using c3, by rw [show ((s4.toNat : Nat) : Int) = s4 from Int.toNat_of_nonneg b4.1]; simpa [Nat.add_assoc] using c4, by simpa [Nat.add_assoc] using c5, hch, by omega, by simp only; omega⟩, hshp⟩
      obtain ⟨f, hf⟩ := choose_lt each
      exact ⟨len, f, .inr ⟨b, o, cap, hcs, by unfold maxLen at hm; omega, hlt, fun j hj => (hf j hj).1⟩, fun j hj => (hf j hj).2⟩
end
#print axioms deeds_openS
#print axioms acts_openS
end Go.Proofs.Ytcjfhfalffngjaa
namespace Go.Proofs.Ytcjfhfalffngjaa
open Go.RowKit Go.Lib
set_option maxRecDepth 100000
set_option linter.unusedVariables false
set_option linter.unusedSimpArgs false

def commitL (many : Nat) (L l : List ChD) : List ChD := match commitF many L l with
  | none => applyP L l
  | some _ => L
def commitV (many used : Nat) (L l : List ChD) : Nat := match commitF many L l with
  | none => commitU many used l
  | some _ => used
theorem commit_calm {w0 w : World} {db sb : Nat} {d : DK} {n f1 used : Nat} {L : List ChD} {l2 : List Res} (h : SIn w0 w db sb d n f1 used L l2) (hleft : d.left < 0) (hf : f1 ≤ 700000) (vc : Value) (l : List ChD) (hc : ∀ w', Hold w0 w' l2 → ChL w' vc l) (hsc : Shaped vc) (hl : l.length ≤ 1000000) :
    Calls Try.prog 48 #[.pointer (some ⟨sb, 0, none⟩), vc] w fun e w' => e = .returned (errV (commitF (n - 90) L l)) ∧ ∃ d' f1', SIn w0 w' db sb d' n f1' (commitV (n - 90) used L l) (commitL (n - 90) L l) l2 ∧ f1' ≤ f1 + 100 ∧ d'.left < 0 := by
  refine (commit_in h hf vc l hc hsc hl).mono ?_
  unfold commitV commitL
  rintro e w' (⟨k, h1, h2, h3⟩ | ⟨h1, h2, d', f1', h3, h4, h5⟩ | ⟨_, _, h1, _⟩)
  · rw [h1]; exact ⟨h2, d, f1, h3, by omega, hleft⟩
  · rw [h1]; exact ⟨h2, d', f1', h3, h4, by rw [h5 hleft]; exact hleft⟩
  · exact absurd hleft h1
theorem SIn.perm {w0 w : World} {db sb : Nat} {d : DK} {n f1 used : Nat} {L : List ChD} {l2 l3 : List Res} (h : SIn w0 w db sb d n f1 used L l2) (hp : l3.Perm l2) : SIn w0 w db sb d n f1 used L l3 := by
  obtain ⟨half, L0, D, v, lb, h1, h2⟩ := h.sto
  exact ⟨⟨half, L0, D, v, lb, h1, h2.perm (.cons _ (.cons _ (.cons _ hp)))⟩, h.len⟩
theorem SIn.back {w0 w : World} {db sb : Nat} {d : DK} {n f1 used : Nat} {L : List ChD} {l2 : List Res} (h : SIn w0 w db sb d n f1 used L l2) : ∃ R, Hold w0 w (l2 ++ R) ∧ ∀ w' l3, Hold w0 w' (l3 ++ R) → SIn w0 w' db sb d n f1 used L l3 := by
  obtain ⟨half, L0, D, v, lb, h1, h2⟩ := h.sto
  obtain ⟨dp, a1, a2⟩ := h2.back
  refine ⟨[storeR sb db half v lb, rowI v L, logR lb db 90 (n - 90) (f1 + 1) used] ++ dp, a1.perm ?_, fun w' l3 hw => ⟨⟨half, L0, D, v, lb, h1, a2 w' _ (hw.perm ?_)⟩, h.len⟩⟩
  · exact List.perm_append_comm_assoc l2 [storeR sb db half v lb, rowI v L, logR lb db 90 (n - 90) (f1 + 1) used] dp
  · exact List.perm_append_comm_assoc [storeR sb db half v lb, rowI v L, logR lb db 90 (n - 90) (f1 + 1) used] l3 dp
theorem SIn.drew {w0 w : World} {db sb : Nat} {d : DK} {n f1 used : Nat} {L : List ChD} {l2 : List Res} (h : SIn w0 w db sb d n f1 used L l2) : SIn w0 w.drew db sb d n f1 used L l2 := by
  obtain ⟨half, L0, D, v, lb, h1, h2⟩ := h.sto
  exact ⟨⟨half, L0, D, v, lb, h1, h2.drew⟩, h.len⟩
theorem refcommit_in {w0 w : World} {db sb mb : Nat} {d : DK} {n f1 used ur many : Nat} {L Lr : List ChD} {vr : Value} {l3 : List Res} (h : SIn w0 w db sb d n f1 used L (refSR mb vr ur many :: rowI vr Lr :: l3)) (hLr : Lr.length ≤ 64) (hs : Sorted Lr) (hum : ur ≤ many) (hm : many ≤ 1000) (vc : Value) (l : List ChD) (hc : ChL w vc l) (hsc : Shaped vc) (hl : l.length ≤ 1000000) :
    Calls Try.prog 49 #[.pointer (some ⟨mb, 0, none⟩), vc] w fun e w' => e = .returned (.int .i64 ((commitF many Lr l).getD 0)) ∧ ∃ vr', SIn w0 w' db sb d n f1 used L (refSR mb vr' (commitV many ur Lr l) many :: rowI vr' (commitL many Lr l) :: l3) := by
  obtain ⟨R, a1, a2⟩ := h.back
  refine (refCommit_calls (l2 := l3 ++ R) a1 hLr hs hum hm vc l hc hsc hl).mono ?_
  unfold commitV commitL
  rintro e w' (⟨k, h1, h2, h3⟩ | ⟨h1, h2, v', h3⟩)
  · rw [h1]; exact ⟨h2, vr, a2 w' _ h3⟩
  · rw [h1]; exact ⟨h2, v', a2 w' _ h3⟩
theorem faultL_up : ∀ (l : List ChD) (k : Int), faultL l = some k → 0 < k
  | [], k, h => by cases h
  | c :: l, k, h => by
    rw [faultL] at h
    split at h
    · rename_i k' hk
      cases h
      exact checkP_pos c _ hk
    · exact faultL_up l k h
theorem same_yes (o : Option Int) (h : ∀ k, o = some k → 0 < k) (w : World) : Calls Try.prog 14 #[errV o, .int .i64 (o.getD 0)] w fun e w' => e = .returned (.bool true) ∧ w' = w := by
  have h1 := same_calls w o (o.getD 0)
  have h2 : sameP o (o.getD 0) = true := by
    cases o with
    | none => rfl
    | some k => have := h k rfl; simp [sameP]; exact this
  rw [h2] at h1
  exact h1
theorem commitF_pos {many : Nat} {L l : List ChD} : ∀ k, commitF many L l = some k → 0 < k := by
  intro k h
  unfold commitF at h
  split at h
  · cases h; decide
  split at h
  · rename_i k' hk
    cases h
    exact faultL_up _ _ hk
  split at h
  · cases h; decide
  · cases h
theorem commitL_few {many : Nat} {L l : List ChD} (h : L.length ≤ 64) : (commitL many L l).length ≤ 64 := by
  unfold commitL
  split
  · rename_i hc; exact (commitF_none hc).2.2.1
  · exact h
#print axioms commit_calm
#print axioms refcommit_in
end Go.Proofs.Ytcjfhfalffngjaa
