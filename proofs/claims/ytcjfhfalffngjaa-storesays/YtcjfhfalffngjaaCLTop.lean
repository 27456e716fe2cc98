/-
  A log that is read as deeds, and what Add makes of it. Plain facts. Rows of deeds, copied and added to; Add where it goes through. Plain facts.
-/
import Derived.Test.YtcjfhfalffngjaaCLCrash
import Derived.Test.YtcjfhfalffngjaaCDsArgs
namespace Go.Proofs.Ytcjfhfalffngjaa
open Go.RowKit Go.Lib
set_option maxRecDepth 100000
set_option linter.unusedVariables false
set_option linter.unusedSimpArgs false

structure LogOk (d : DK) (fr many first : Nat) (D : List (List ChD)) (used : Nat) : Prop where
  steady : Steady d
  len : fr + many ≤ d.now.length
  pre : Pre (secAt d.now fr) first used D
  le : used ≤ many
  stop : used < many → d.now.getD (fr + used) [] = nought
theorem LogOk.read {d : DK} {fr many first used : Nat} {D : List (List ChD)} (h : LogOk d fr many first D used) : readP d fr many first = ⟨D, [], used⟩ :=
  h.pre.go h.le fun hu => by unfold secAt; rw [h.stop hu]
theorem old_ok {d d' : DK} {fr many first used : Nat} {D : List (List ChD)} (h : LogOk d fr many first D used) (hs : Steady d') (ho : OldS d.now fr used many d'.now) : LogOk d' fr many first D used :=
  ⟨hs, by rw [ho.len]; exact h.len, h.pre.congr fun j hj => by unfold secAt; rw [ho.pre j hj], h.le, ho.stop⟩
theorem new_ok {now : List (List UInt8)} {d' : DK} {fr many first used : Nat} {D : List (List ChD)} (hlen : fr + many ≤ now.length) (hp : Pre (secAt now fr) first used D) {l : List ChD} (hc : ∀ c ∈ l, checkP c = none) (hm : used + (l.length + 1) ≤ many) (hf : first + many < 4294967296) (hs : Steady d') (hn : NewS now fr used many (deedS (first + used) l) d'.now) : LogOk d' fr many first (D ++ [l]) (used + (l.length + 1)) := by
  have hl := deedS_length (first + used) l
  refine ⟨hs, by rw [hn.len]; exact hlen, ?_, hm, ?_⟩
  · refine (hp.congr (get' := secAt d'.now fr) fun j hj => by unfold secAt; rw [hn.pre j hj]).deed l hc (by omega) fun j s hj => ?_
    unfold secAt
    rw [hn.deed j s hj]
  · intro hu
    have := hn.stop (by rw [hl]; exact hu)
    rw [hl] at this
    exact this
theorem checkP_ten (c : ChD) : checkP c ≠ some 10 := by
  unfold checkP
  split
  · decide
  split
  · decide
  · decide
theorem faultL_ten : ∀ l : List ChD, faultL l ≠ some 10
  | [] => by simp [faultL]
  | c :: l => by
    rw [faultL]
    cases hc : checkP c with
    | some k => simp only; rw [← hc]; exact checkP_ten c
    | none => exact faultL_ten l
theorem deed_cons (n : Nat) (l : List ChD) : ∃ s0 r, deedS n l = s0 :: r ∧ r.length = l.length := by
  cases hx : deedS n l with
  | nil => have := deedS_length n l; rw [hx] at this; simp at this
  | cons s0 r =>
    have := deedS_length n l
    rw [hx, List.length_cons] at this
    exact ⟨s0, r, rfl, by omega⟩
/-- Add on a disk that is up: refused; done; or it fell. -/
theorem add_case {d : DK} {fr many first used : Nat} {D : List (List ChD)} (hd : d.down = false) (hlen : fr + many ≤ d.now.length) (hp : Pre (secAt d.now fr) first used D) (hle : used ≤ many) (hf : first + many < 4294967296) (l : List ChD) :
    (∃ k, k ≠ 10 ∧ addP d fr many first used l = (some k, d, used)) ∨
    (∃ d', addP d fr many first used l = (none, d', used + (l.length + 1)) ∧ (d.left < 0 → d'.left = d.left) ∧ d'.now.length = d.now.length ∧ LogOk d' fr many first (D ++ [l]) (used + (l.length + 1))) ∨
    (∃ d', addP d fr many first used l = (some 10, d', used) ∧ ¬ d.left < 0 ∧ (LogOk d fr many first D used → ∀ k, (d'.again k).now.length = d.now.length ∧ (LogOk (d'.again k) fr many first D used ∨ LogOk (d'.again k) fr many first (D ++ [l]) (used + (l.length + 1))))) := by
  by_cases h12 : 12 < l.length
  · exact .inl ⟨2, by decide, addP_many h12⟩
  by_cases hfull : many - used < l.length + 1
  · exact .inl ⟨9, by decide, addP_full h12 hfull⟩
  cases hft : faultL l with
  | some k => exact .inl ⟨k, fun e => faultL_ten l (by rw [hft, e]), addP_fault h12 hfull hft⟩
  | none =>
    have hc := faultL_all hft
    obtain ⟨s0, r, hdd, hrl⟩ := deed_cons (first + used) l
    have hsh := deedS_short (n := first + used) hc
    rw [hdd] at hsh
    have hb : PutBounds d fr used many s0 r := ⟨hd, hlen, by omega, hsh s0 (by simp), fun s hs => hsh s (by simp [hs])⟩
    rcases put_done hb with ⟨h1, h2, h3, h4⟩ | ⟨h1, h2, h3, h4⟩
    · have hpp : putP d fr used many s0 r = (none, (putP d fr used many s0 r).2) := by rw [← h1]
      refine .inr (.inl ⟨_, addP_done h12 hfull hft hdd hpp, h4, h3.len, ?_⟩)
      exact new_ok hlen hp hc (by omega) hf h2 (by rw [hdd]; exact h3)
    · have hpp : putP d fr used many s0 r = (some 10, (putP d fr used many s0 r).2) := by rw [← h1]
      refine .inr (.inr ⟨_, addP_fell h12 hfull hft hdd hpp, h2, fun hL k => ?_⟩)
      rcases h4 hL.steady hL.stop k with ho | hn
      · exact ⟨ho.len, .inl (old_ok hL ⟨rfl, rfl, rfl⟩ ho)⟩
      · exact ⟨hn.len, .inr (new_ok hlen hp hc (by omega) hf ⟨rfl, rfl, rfl⟩ (by rw [hdd]; exact hn))⟩
theorem LogOk.again {d : DK} {fr many first used : Nat} {D : List (List ChD)} (h : LogOk d fr many first D used) (k : Nat) : LogOk (d.again k) fr many first D used := by
  have e : (d.again k).now = d.now := by
    unfold DK.again
    simp only
    rw [h.steady.wr, h.steady.kept]
    rfl
  exact ⟨⟨rfl, rfl, rfl⟩, by rw [e]; exact h.len, by rw [e]; exact h.pre, h.le, by rw [e]; exact h.stop⟩
theorem again_left (d : DK) (k : Nat) : (d.again k).left = -1 := rfl
theorem LogOk.armed {d : DK} {fr many first used : Nat} {D : List (List ChD)} (h : LogOk d fr many first D used) (n : Int) : LogOk (d.armed n) fr many first D used := ⟨⟨h.steady.wr, h.steady.kept, h.steady.down⟩, h.len, h.pre, h.le, h.stop⟩
theorem LogOk.new {n fr many first : Nat} (h : fr + many ≤ n) : LogOk (newP n) fr many first [] 0 := by
  refine ⟨⟨rfl, rfl, rfl⟩, by simp [newP]; omega, pre_zero _ _, Nat.zero_le _, fun hm => ?_⟩
  simp only [newP]
  rw [List.getD, List.getElem?_replicate, if_pos (by omega)]
  rfl
#print axioms add_case
#print axioms LogOk.new
end Go.Proofs.Ytcjfhfalffngjaa
namespace Go.Proofs.Ytcjfhfalffngjaa
open Go.RowKit Go.Lib
set_option maxRecDepth 100000
set_option linter.unusedVariables false
set_option linter.unusedSimpArgs false

def dRow (v : Value) (P : List (Value × List ChD)) : Res := .row v 36 1 P.length (P.map (·.1))
theorem ChL.one {w : World} {v : Value} {L : List ChD} (h : ChL w v L) : v.oneCell' = true := by
  obtain ⟨p, c, rfl⟩ := ChOk.slice h
  rfl
theorem DsP.ch {w : World} {v : Value} {P : List (Value × List ChD)} (h : DsP w v P) : ∀ p ∈ P, ChL w p.1 p.2 := by
  intro p hp
  rcases h with ⟨rfl, _⟩ | ⟨b, off, c, h1, h2, h3, h4⟩
  · cases hp
  · obtain ⟨j, hj, rfl⟩ := List.mem_iff_getElem.1 hp
    exact (h4 j _ (List.getElem?_eq_getElem hj)).2
/-- A row of deeds behind nothing. -/
theorem ds_copy {w0 wx : World} {rs : List Res} (H : Hold w0 wx rs) {v : Value} {P : List (Value × List ChD)} (h : DsP wx v P) (hs : v = .slice none 0 0 ∨ ∃ a n c, v = .slice (some a) n c) (hn : P.length ≤ 1000) :
    ∃ v' w', (Builtin.append_ #[69, 69] 69 #[.slice none 0 0, v]).run Try.prog wx = .ok v' w' ∧ Hold w0 w' (dRow v' P :: rs) := by
  have H1 := H.nilRow 36 1
  have h1 : ∀ u ∈ P.map (·.1), u.oneCell' = true := fun u hu => by
    obtain ⟨p, hp, rfl⟩ := List.mem_map.1 hu
    exact (h.ch p hp).one
  have key : ∀ p c, v = .slice p P.length c → (0 < P.length → ∃ b off, p = some ⟨b, off, none⟩ ∧ ∀ j u, (P.map (·.1))[j]? = some u → wx.cell? ⟨b, off + j, none⟩ = some u) → (p = none → P.length = 0 ∧ c = 0) → ∃ v' w', (Builtin.append_ #[69, 69] 69 #[.slice none 0 0, v]).run Try.prog wx = .ok v' w' ∧ Hold w0 w' (dRow v' P :: rs) := fun p c hv h2 h3 => by
    subst hv
    obtain ⟨v', w', h4, h5, _⟩ := H1.append [] 69 69 Try.underlying69 infoD (by decide) (by decide) p P.length c (P.map (·.1)) (by simp) h2 h3 h1 (by omega)
    refine ⟨v', w', h4, ?_⟩
    rw [Nat.zero_add, List.nil_append] at h5
    exact h5
  rcases h with ⟨rfl, p, c, hv⟩ | ⟨b, off, c, hv, _, _, hcells⟩
  · rcases hs with h0 | ⟨a, m, c', h0⟩
    · exact key none 0 h0 (fun h => by simp at h) (fun _ => ⟨rfl, rfl⟩)
    · have hm : m = 0 := by rw [h0] at hv; injection hv
      subst hm
      exact key (some a) c' h0 (fun h => by simp at h) (fun h => by cases h)
  · refine key _ c hv (fun _ => ⟨b, off, rfl, fun j u hu => ?_⟩) (fun h => by cases h)
    rw [List.getElem?_map] at hu
    cases hp : P[j]? with
    | none => rw [hp] at hu; cases hu
    | some p => rw [hp] at hu; cases hu; exact (hcells j p hp).1
/-- One deed behind a row of deeds; it lies in a block of its own. -/
theorem ds_put {w0 wx : World} {v : Value} {P : List (Value × List ChD)} {rs : List Res} {B : Nat} {u : Value × List ChD} (H : Hold w0 wx (dRow v P :: rs)) (hB : Res.cell B 36 [u.1] ∈ rs) (hu : u.1.oneCell' = true) (hn : P.length ≤ 1000) :
    ∃ v' w', (Builtin.append_ #[69, 69] 69 #[v, .slice (some ⟨B, 0, none⟩) 1 1]).run Try.prog wx = .ok v' w' ∧ Hold w0 w' (dRow v' (P ++ [u]) :: rs) := by
  obtain ⟨v', w', h2, h3, _⟩ := Hold.append [] H 69 69 Try.underlying69 infoD (by decide) (by decide) (some ⟨B, 0, none⟩) 1 1 [u.1] rfl (fun _ => ⟨B, 0, rfl, fun j x hj => by rw [Nat.zero_add]; exact H.cellAt (.tail _ hB) hj⟩) (fun h => by cases h) (fun x hx => by rw [List.mem_singleton.1 hx]; exact hu) (by omega)
  refine ⟨v', w', h2, ?_⟩
  unfold dRow
  rw [List.length_append, List.map_append]
  exact h3
/-- Both, in the two orders in which the new block may be laid. -/
theorem ds_both {w0 wx : World} {rs : List Res} (H : Hold w0 wx rs) {v : Value} {P : List (Value × List ChD)} (h : DsP wx v P) (hs : v = .slice none 0 0 ∨ ∃ a n c, v = .slice (some a) n c) (hn : P.length ≤ 1000) {u : Value × List ChD} (hu : u.1.oneCell' = true) :
    (∃ v1 w1 v2 w2, (Builtin.append_ #[69, 69] 69 #[.slice none 0 0, v]).run Try.prog wx = .ok v1 w1 ∧ (Builtin.append_ #[69, 69] 69 #[v1, .slice (some ⟨w1.heap.size, 0, none⟩) 1 1]).run Try.prog (w1.alloc (.cells #[u.1] 36)) = .ok v2 w2 ∧ Hold w0 w2 (dRow v2 (P ++ [u]) :: rs)) ∧
    (∃ v1 w1 v2 w2, (Builtin.append_ #[69, 69] 69 #[.slice none 0 0, v]).run Try.prog (wx.alloc (.cells #[u.1] 36)) = .ok v1 w1 ∧ (Builtin.append_ #[69, 69] 69 #[v1, .slice (some ⟨wx.heap.size, 0, none⟩) 1 1]).run Try.prog w1 = .ok v2 w2 ∧ Hold w0 w2 (dRow v2 (P ++ [u]) :: rs)) := by
  constructor
  · obtain ⟨v1, w1, a1, a2⟩ := ds_copy H h hs hn
    have a3 := a2.made 36 [u.1]
    obtain ⟨v2, w2, b1, b2⟩ := ds_put (u := u) (rs := .cell w1.heap.size 36 [u.1] :: rs) (a3.perm (List.Perm.swap _ _ _)) (.head _) hu hn
    exact ⟨v1, w1, v2, w2, a1, b1, b2.forget [_]⟩
  · have a0 := H.made 36 [u.1]
    obtain ⟨v1, w1, a1, a2⟩ := ds_copy a0 (h.below ((Below.refl _ _).alloc (Nat.le_refl _) _)) hs hn
    obtain ⟨v2, w2, b1, b2⟩ := ds_put (u := u) a2 (.head _) hu hn
    exact ⟨v1, w1, v2, w2, a1, b1, b2.forget [_]⟩
/-- How a row's value looks. -/
theorem dRow_shape {w0 w : World} {rs : List Res} (H : Hold w0 w rs) {v : Value} {P : List (Value × List ChD)} (hm : dRow v P ∈ rs) : v = .slice none 0 0 ∨ ∃ a n c, v = .slice (some a) n c := by
  rcases (H.rowAt hm).2 with ⟨h, _⟩ | ⟨g, c, _, h, _⟩
  · exact .inl h
  · exact .inr ⟨_, _, _, h⟩

theorem layP_wr_le : ∀ (l : List (List UInt8)) (d : DK) (a : Nat), (layP l d a).2.wr.length ≤ d.wr.length + l.length
  | [], d, a => by
    rw [layP]
    show d.flushed.wr.length ≤ _
    unfold DK.flushed
    split
    · rw [stepped_wr]; simp
    · simp [DK.firm]
  | s :: r, d, a => by
    rw [layP]
    have h1 := written_wr d a s
    cases hw : d.writeE (a : Int) s with
    | some e => simp only [List.length_cons]; omega
    | none =>
      have h2 := layP_wr_le r (d.written a s) (a + 1)
      simp only [List.length_cons]
      omega
theorem putP_wr_le (d : DK) (fr used many : Nat) (s0 : List UInt8) (r : List (List UInt8)) : (putP d fr used many s0 r).2.wr.length ≤ d.wr.length + r.length + 2 := by
  have h1 := layP_wr_le [[]] d (fr + used)
  unfold putP
  cases hx : layP [[]] d (fr + used) with
  | mk e1 d1 =>
    rw [hx] at h1
    cases e1 with
    | some k => simp only [List.length_singleton] at h1 ⊢; omega
    | none =>
      simp only at h1 ⊢
      have hw1 : d1.wr = [] := by have := layP_wr [[]] d (fr + used); rw [hx] at this; exact this rfl
      have h2 := layP_wr_le (restP used many r) d1 (fr + (used + 1))
      have hrl : (restP used many r).length ≤ r.length + 1 := by unfold restP; split <;> simp
      cases hy : layP (restP used many r) d1 (fr + (used + 1)) with
      | mk e2 d2 =>
        rw [hy, hw1] at h2
        cases e2 with
        | some k => simp only [List.length_nil] at h2 ⊢; omega
        | none =>
          simp only at h2 ⊢
          have hw2 : d2.wr = [] := by have := layP_wr (restP used many r) d1 (fr + (used + 1)); rw [hy] at this; exact this rfl
          have h3 := layP_wr_le [s0] d2 (fr + used)
          rw [hw2] at h3
          simp only [List.length_singleton, List.length_nil] at h3
          omega
theorem addP_wr_le (d : DK) (fr many first used : Nat) (l : List ChD) : (addP d fr many first used l).2.1.wr.length ≤ d.wr.length + l.length + 2 := by
  unfold addP
  split
  · simp only; omega
  split
  · simp only; omega
  split
  · simp only; omega
  · obtain ⟨s0, r, hdd, hrl⟩ := deed_cons (first + used) l
    have h := putP_wr_le d fr used many s0 r
    rw [hdd]
    simp only [List.headD_cons, List.tail_cons]
    split
    · rename_i he; rw [he] at h; simp only at h ⊢; omega
    · rename_i he; rw [he] at h; simp only at h ⊢; omega
/-- Add on a disk that isn't armed, of what may be, with room. -/
theorem add_done {d : DK} {fr many first used : Nat} {D : List (List ChD)} (hd : d.down = false) (hl : d.left < 0) (hlen : fr + many ≤ d.now.length) (hp : Pre (secAt d.now fr) first used D) (hle : used ≤ many) (hf : first + many < 4294967296) (l : List ChD) (h12 : ¬ 12 < l.length) (hroom : ¬ many - used < l.length + 1) (hft : faultL l = none) :
    ∃ d', addP d fr many first used l = (none, d', used + (l.length + 1)) ∧ d'.left = d.left ∧ d'.now.length = d.now.length ∧ LogOk d' fr many first (D ++ [l]) (used + (l.length + 1)) := by
  rcases add_case hd hlen hp hle hf l with ⟨k, hk, h⟩ | ⟨d', h1, h2, h3, h4⟩ | ⟨d', h1, h2, _⟩
  · exfalso
    have hc := faultL_all hft
    obtain ⟨s0, r, hdd, hrl⟩ := deed_cons (first + used) l
    have hsh := deedS_short (n := first + used) hc
    rw [hdd] at hsh
    have hb : PutBounds d fr used many s0 r := ⟨hd, hlen, by omega, hsh s0 (by simp), fun s hs => hsh s (by simp [hs])⟩
    rcases put_done hb with ⟨h1, _⟩ | ⟨_, h2, _⟩
    · have hpp : putP d fr used many s0 r = (none, (putP d fr used many s0 r).2) := by rw [← h1]
      rw [addP_done h12 hroom hft hdd hpp] at h
      cases h
    · exact h2 hl
  · exact ⟨d', h1, h2 hl, h3, h4⟩
  · exact absurd hl h2
/-- An append that is guarded, where it is wanted. -/
theorem wpList_appendG {P : Program} {ops : Array Oper} {rest : List Oper} {o : Oper} {a : Act} {w : World} {Q : Exit → Act → World → Prop} (hgd : Region.wanted o (yielded ops a.tmps) = true) (d x : Operand) (dT sT : TypeId) (ho : o.op = Op.call { callee := Callee.builtin Builtin.append, args := #[d, x], argTypes := #[dT, sT] })
    (v u : Value) (hd : a.eval d = v) (hx : a.eval x = u) {v' : Value} {w' : World} (hr : (Builtin.append_ #[dT, sT] o.type #[v, u]).run P w = .ok v' w') (h : wpList P ops Q rest (a.put o.dst v') w') : wpList P ops Q (o :: rest) a w := by
  refine wpList_step fun K hK => ?_
  rw [if_pos hgd]
  unfold Oper.wp
  simp [execOp, ho, resolve, invoke, builtin, hd, hx, hr, Result.andThen]
  exact hK _ _ h
theorem runR_len {get : Nat → ByteArray} {first : Nat} : ∀ (k i : Nat) (st st' : RS), runR get first k i st = some st' → st.deeds.length ≤ i → st'.deeds.length ≤ i + k
  | 0, i, st, st', h, hl => by cases h; omega
  | k + 1, i, st, st', h, hl => by
    rw [runR] at h
    cases hs : stepR (get i) (first + i) i st with
    | none => rw [hs] at h; cases h
    | some s1 =>
      rw [hs, Option.bind_some] at h
      have h1 : s1.deeds.length ≤ i + 1 := by
        rcases step_kind hs with ⟨_, h2⟩ | h2
        · rw [h2]; omega
        · rw [h2]; simp; omega
      have := runR_len k (i + 1) s1 st' h h1
      omega
theorem Pre.len {get : Nat → ByteArray} {first used : Nat} {D : List (List ChD)} (h : Pre get first used D) : D.length ≤ used := by
  have := runR_len used 0 st0 _ h (by simp [st0])
  simpa using this
#print axioms ds_both
#print axioms add_done
#print axioms addP_wr_le
end Go.Proofs.Ytcjfhfalffngjaa
