/-
  Appends to what is owned, whatever the elements; appends and copies as steps of a walk. Plain facts of runs.
-/
import Derived.Test.YtcjfhfalffngjaaRRef
namespace Go.Proofs.Ytcjfhfalffngjaa
open Go.RowKit
set_option maxRecDepth 100000
set_option linter.unusedVariables false
set_option linter.unusedSimpArgs false

/-- What the table of types says of an element. -/
def Info (e : TypeId) (k bytes : Nat) : Prop := ∃ i z, Try.prog.info? e = some i ∧ i.zero = some z ∧ i.size = k ∧ i.bytes = bytes ∧ z.cells.size = k
theorem info_of {e : TypeId} {k bytes : Nat} (h : (Try.prog.info? e).map (fun i => (i.zero.map fun z => z.cells.size, i.size, i.bytes)) = some (some k, k, bytes)) : Info e k bytes := by
  cases hq : Try.prog.info? e with
  | none => rw [hq] at h; cases h
  | some i =>
    rw [hq] at h
    simp only [Option.map_some, Option.some.injEq, Prod.mk.injEq] at h
    obtain ⟨h1, h2, h3⟩ := h
    cases hz : i.zero with
    | none => rw [hz] at h1; cases h1
    | some z =>
      rw [hz] at h1
      exact ⟨i, z, hq, hz, h2, h3, Option.some.inj h1⟩
theorem infoS : Info 9 1 16 := info_of (by kernel_rfl)
theorem infoT : Info 107 2 24 := info_of (by kernel_rfl)
theorem infoC : Info 54 3 40 := info_of (by kernel_rfl)
theorem infoD : Info 36 1 24 := info_of (by kernel_rfl)

section
variable {w0 w : World}
/-- What a slice names is laid behind a row. -/
theorem Hold.append (l1 : List Res) {v : Value} {e : TypeId} {k n bytes : Nat} {xs : List Value} {l2 : List Res} (H : Hold w0 w (l1 ++ .row v e k n xs :: l2)) (t ty : TypeId) (ht : Try.prog.underlying t = some (.slice e)) (hi : Info e k bytes) (hk : 0 < k) (hb : bytes ≤ 1000) (p : Option Addr) (m c : Nat) (news : List Value) (hl : news.length = m * k)
    (hp : 0 < m → ∃ b off, p = some ⟨b, off, none⟩ ∧ ∀ j u, news[j]? = some u → w.cell? ⟨b, off + j, none⟩ = some u) (hp0 : p = none → m = 0 ∧ c = 0) (h1 : ∀ u ∈ news, u.oneCell' = true) (hn : n + m ≤ 1000000) :
    ∃ v' w', (Builtin.append_ #[t, t] ty #[v, .slice p m c]).run Try.prog w = .ok v' w' ∧ Hold w0 w' (l1 ++ .row v' e k (n + m) (xs ++ news) :: l2) ∧ Kept (fun x => 0 < blkN v x) w w' := by
  obtain ⟨i, z, hi1, hz, hsz, hby, hzs⟩ := hi
  have hown : w.ownsRow w0.heap.size e k v n xs := H.rowAt (by simp)
  cases p with
  | none =>
    obtain ⟨rfl, rfl⟩ := hp0 rfl
    have hn0 : news = [] := List.eq_nil_of_length_eq_zero (by simpa using hl)
    subst hn0
    refine ⟨v, w, ?_, by simpa using H, Kept.refl _ w⟩
    obtain ⟨p', c', rfl, hnc, _⟩ := row_slice hown
    cases p' <;> simp [Builtin.append_, run_underlying ht, sizeOf, typeInfo, hi1, Builtin.lenOf, Builtin.firstCells, hnc, storeCells]
  | some a =>
    have ha : ∀ j u, news[j]? = some u → w.cell? (a.add j) = some u := fun j u hj => by
      have hm : 0 < m := by
        rcases Nat.eq_zero_or_pos m with h0 | h0
        · subst h0
          have : news = [] := List.eq_nil_of_length_eq_zero (by simpa using hl)
          subst this
          simp at hj
        · exact h0
      obtain ⟨b, off, hpa, hc⟩ := hp hm
      injection hpa with hpa
      subst hpa
      rw [add_plain]
      exact hc j u hj
    obtain ⟨v', w', hr, ho, hg, _, hat⟩ := run_append_own_at (P := Try.prog) w w0.heap.size t ty e i z k bytes ht hi1 hz hsz hby hzs hk v n xs hown a m c news hl ha h1 (by unfold maxLen; omega) (by have : (n + m) * bytes ≤ 1000000 * 1000 := Nat.mul_le_mul hn hb; omega) H.size
    refine ⟨v', w', hr, H.grow l1 hg ho (hat.imp id fun h => ⟨_, h, Nat.le_refl _⟩), (Kept.refl _ w).grown hg fun x hx _ => blkN_pos.2 hx⟩
end

/-- An append whose run is known, as one operation of a plain region. -/
theorem wpList_appendI {P : Program} {ops : Array Oper} {rest : List Oper} {o : Oper} {a : Act} {w : World} {Q : Exit → Act → World → Prop} (hgd : o.guard = none) (d x : Operand) (dT sT : TypeId) (ho : o.op = Op.call { callee := Callee.builtin Builtin.append, args := #[d, x], argTypes := #[dT, sT] })
    (v u : Value) (hd : a.eval d = v) (hx : a.eval x = u) {v' : Value} {w' : World} (hr : (Builtin.append_ #[dT, sT] o.type #[v, u]).run P w = .ok v' w') (h : wpList P ops Q rest (a.put o.dst v') w') : wpList P ops Q (o :: rest) a w := by
  refine wpList_plain hgd fun K hK => ?_
  unfold Oper.wp
  simp [execOp, ho, resolve, invoke, builtin, hd, hx, hr, Result.andThen]
  exact hK _ _ h
#print axioms Hold.append
#print axioms wpList_appendI
end Go.Proofs.Ytcjfhfalffngjaa
