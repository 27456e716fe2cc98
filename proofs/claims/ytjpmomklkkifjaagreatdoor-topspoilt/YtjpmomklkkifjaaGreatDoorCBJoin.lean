import Derived.Test.YtjpmomklkkifjaaGreatDoorCBPutFacts
import Derived.Deep.RegionLaw
set_option maxRecDepth 100000
set_option linter.unusedVariables false
set_option linter.unusedSimpArgs false
namespace Go.Proofs.YtjpmomklkkifjaaGreatDoor.T
open Go.RowKit Go.Lib
theorem append_rows {w : World} {base : Nat} {T ty e : TypeId} {i0 : TypeInfo} {z : Value} {k bytes : Nat} (ht : Tryz.prog.underlying T = some (.slice e)) (hi : Tryz.prog.info? e = some i0) (hz : i0.zero = some z) (h1 : i0.size = k) (h2 : i0.bytes = bytes) (hzs : z.cells.size = k) (hk : 0 < k)
    {v t : Value} {n m : Nat} {xs ys : List Value} (hv : w.ownsRow base e k v n xs) (hv2 : w.ownsRow base e k t m ys) (h1c : ∀ u ∈ ys, u.oneCell' = true) (hn : n + m ≤ 1000) (hb : (n + m) * bytes ≤ 140737488355328) (hbase : base ≤ w.heap.size) :
    ∃ v' w', (Builtin.append_ #[T, T] ty #[v, t]).run Tryz.prog w = .ok v' w' ∧ w'.ownsRow base e k v' (n + m) (xs ++ ys) ∧ w.grownBy w' v.ownBlock ∧ (v'.ownBlock = v.ownBlock ∨ ∃ x, v'.ownBlock = some x ∧ w.heap.size ≤ x) := by
  rcases hv2.2 with ⟨rfl, rfl⟩ | ⟨g, cap, cur, rfl, _⟩
  · have hy : ys = [] := List.eq_nil_of_length_eq_zero (by simpa using hv2.1)
    subst hy
    exact ⟨v, w, run_append_owned_none w base T ty e i0 k ht hi v n xs hv, by simpa using hv, ⟨rfl, rfl, rfl, Nat.le_refl _, fun _ _ _ => rfl⟩, .inl rfl⟩
  · obtain ⟨v', w', hr, ho, hg, _, ha⟩ := run_append_own_at (P := Tryz.prog) w base T ty e i0 z k bytes ht hi hz h1 h2 hzs hk v n xs hv ⟨g, 0, none⟩ m cap ys hv2.1 (fun j u hj => by
      rw [Addr.add_lit, Nat.zero_add, hv2.cellAt j (by have := (List.getElem?_eq_some_iff.1 hj).1; rw [hv2.1] at this; exact this)]
      exact hj) h1c (by unfold maxLen; omega) hb hbase
    exact ⟨v', w', hr, ho, hg, ha.imp id fun h => ⟨_, h, Nat.le_refl _⟩⟩
section
variable {base : Nat} {w0 w : World} {K0 : Nat → Nat}
theorem hold_appendI (l1 : List Res) {v : Value} {a : List Item} {l2 : List Res} (H : Hold base w0 K0 w (l1 ++ rowI v a :: l2)) {t : Value} {c : List Item} (hm : rowI t c ∈ l1 ++ rowI v a :: l2) (hn : a.length + c.length ≤ 100) (hb : base ≤ w.heap.size) (ty : TypeId) :
    ∃ v' w', (Builtin.append_ #[185, 185] ty #[v, t]).run Tryz.prog w = .ok v' w' ∧ Hold base w0 K0 w' (l1 ++ rowI v' (a ++ c) :: l2) := by
  obtain ⟨i0, hi, hz0, hz1, hz2⟩ := info_parts info58
  have hv : w.ownsRow base 190 3 v a.length (flat a) := H.rowAt (by simp [rowI])
  have hv2 : w.ownsRow base 190 3 t c.length (flat c) := H.rowAt hm
  obtain ⟨v', w', hr, ho, hg, ha⟩ := append_rows (ty := ty) Tryz.underlying185 hi hz0 hz1 hz2 rfl (by decide) hv hv2 (flat_one _) (by omega) (by omega) hb
  refine ⟨v', w', hr, ?_⟩
  rw [← flat_append, ← List.length_append] at ho
  exact H.grow l1 hg ho ha
theorem hold_appendN (l1 : List Res) {v : Value} {a : List Kid} {l2 : List Res} (H : Hold base w0 K0 w (l1 ++ rowN v a :: l2)) {t : Value} {c : List Kid} (hm : rowN t c ∈ l1 ++ rowN v a :: l2) (hn : a.length + c.length ≤ 100) (hb : base ≤ w.heap.size) (ty : TypeId) :
    ∃ v' w', (Builtin.append_ #[186, 186] ty #[v, t]).run Tryz.prog w = .ok v' w' ∧ Hold base w0 K0 w' (l1 ++ rowN v' (a ++ c) :: l2) := by
  obtain ⟨i0, hi, hz0, hz1, hz2⟩ := info_parts info49
  have hv : w.ownsRow base 128 1 v a.length (a.map fun y => ptrV y.b) := H.rowAt (by simp [rowN])
  have hv2 : w.ownsRow base 128 1 t c.length (c.map fun y => ptrV y.b) := H.rowAt hm
  obtain ⟨v', w', hr, ho, hg, ha⟩ := append_rows (ty := ty) Tryz.underlying186 hi hz0 hz1 hz2 rfl (by decide) hv hv2 (ptrs_one _) (by omega) (by omega) hb
  refine ⟨v', w', hr, ?_⟩
  rw [← List.map_append, ← List.length_append] at ho
  exact H.grow l1 hg ho ha
theorem hold_appendOne (l1 : List Res) {v : Value} {a : List Item} {l2 : List Res} {vb : Nat} {m : Item} (H : Hold base w0 K0 w (.cell vb 190 (cellsOf m) :: (l1 ++ rowI v a :: l2))) (hn : a.length ≤ 90) (ty : TypeId) :
    ∃ v' w', (Builtin.append_ #[185, 185] ty #[v, .slice (some ⟨vb, 0, none⟩) 1 1]).run Tryz.prog w = .ok v' w' ∧ Hold base w0 K0 w' (l1 ++ rowI v' (a ++ [m]) :: l2) := by
  obtain ⟨i0, hi, hz0, hz1, hz2⟩ := info_parts info58
  have hv : w.ownsRow base 190 3 v a.length (flat a) := H.rowAt (by simp [rowI])
  obtain ⟨v', w', hr, ho, hg, _, ha⟩ := run_append_own_at (P := Tryz.prog) w base 185 ty 190 i0 _ 3 40 Tryz.underlying185 hi hz0 hz1 hz2 rfl (by decide) v a.length (flat a) hv ⟨vb, 0, none⟩ 1 1 (cellsOf m) rfl (fun j u hj => by
      rw [Addr.add_lit, Nat.zero_add]
      exact H.cellAt (t := 190) (vs := cellsOf m) (by simp) hj) (fun u hu => flat_one [m] u (by simpa [flat] using hu)) (by unfold maxLen; omega) (by omega) (H.low (b := vb) (t := 190) (vs := cellsOf m) (by simp))
  refine ⟨v', w', hr, ?_⟩
  have e1 : flat a ++ cellsOf m = flat (a ++ [m]) := by rw [flat_append]; rfl
  have e2 : a.length + 1 = (a ++ [m]).length := by simp
  rw [e1, e2] at ho
  exact (H.forget []).grow l1 hg ho (ha.imp id fun h => ⟨_, h, Nat.le_refl _⟩)
end
def JoinEnd (base : Nat) (w0 : World) (K0 : Nat → Nat) (b h : Nat) (is1 is2 : List Item) (m : Item) (ks1 ks2 : List Kid) (lo hi : Kid) (l2 : List Res) (e : Ending) (w' : World) : Prop :=
  e = .returned (.tuple #[]) ∧ ∃ c v0 v1, c.L = lo.L ++ m :: hi.L ∧ c.c = lo.c + 1 + hi.c ∧ Hold base w0 K0 w' (nodeR b v0 v1 :: rowI v0 (is1 ++ is2) :: rowN v1 (ks1 ++ c :: ks2) :: .subs h (ks1 ++ c :: ks2) :: l2)
set_option maxRecDepth 100000 in
set_option maxHeartbeats 4000000 in
theorem join_calls (base : Nat) (w0 : World) (K0 : Nat → Nat) (w : World) (b h i : Nat) (is1 is2 : List Item) (m : Item) (ks1 ks2 : List Kid) (lo hi : Kid) (v0 v1 : Value) (l2 : List Res)
    (H : Hold base w0 K0 w (nodeR b v0 v1 :: rowI v0 (is1 ++ m :: is2) :: rowN v1 (ks1 ++ lo :: hi :: ks2) :: .subs h (ks1 ++ lo :: hi :: ks2) :: l2))
    (hi1 : is1.length = i) (hk1 : ks1.length = i) (hl : (is1 ++ m :: is2).length ≤ 10) (hl2 : ks2.length ≤ 10) (hlo : lo.c ≤ 4) (hhi : hi.c ≤ 4) :
    Calls Tryz.prog 233 #[.pointer (some ⟨b, 0, none⟩), .int .i64 i] w fun e w' => JoinEnd base w0 K0 b h is1 is2 m ks1 ks2 lo hi l2 e w' := by
  have H1 := H.take [nodeR b v0 v1, rowI v0 (is1 ++ m :: is2), rowN v1 (ks1 ++ lo :: hi :: ks2)]
  obtain ⟨lits, lkids, u0, u1, hlc, hlL, hlsh, hlfit, H2⟩ := H1.open [nodeR b v0 v1, rowI v0 (is1 ++ m :: is2), rowN v1 (ks1 ++ lo :: hi :: ks2)]
  have H3 := H2.take [nodeR b v0 v1, rowI v0 (is1 ++ m :: is2), rowN v1 (ks1 ++ lo :: hi :: ks2), nodeR lo.b u0 u1, rowI u0 lits, rowN u1 lkids, .subs (h - 1) lkids]
  obtain ⟨hits, hkids, t0, t1, hhc, hhL, hhsh, hhfit, H4⟩ := H3.open [nodeR b v0 v1, rowI v0 (is1 ++ m :: is2), rowN v1 (ks1 ++ lo :: hi :: ks2), nodeR lo.b u0 u1, rowI u0 lits, rowN u1 lkids, .subs (h - 1) lkids]
  simp only [List.cons_append, List.nil_append] at H4
  clear H H1 H2 H3
  obtain ⟨N, hN⟩ : ∃ N, (ks1 ++ lo :: hi :: ks2).length = N := ⟨_, rfl⟩
  obtain ⟨n0, hn0⟩ : ∃ n0, (is1 ++ m :: is2).length = n0 := ⟨_, rfl⟩
  have r1 : w.ownsRow base 128 1 v1 N ((ks1 ++ lo :: hi :: ks2).map fun y => ptrV y.b) := by rw [← hN]; exact H4.rowAt (by simp [rowN])
  have r0 : w.ownsRow base 190 3 v0 n0 (flat (is1 ++ m :: is2)) := by rw [← hn0]; exact H4.rowAt (by simp [rowI])
  have hN1 : i + 1 < N := by rw [← hN, List.length_append, hk1]; simp
  have hNb : N ≤ 30 := by rw [← hN, List.length_append, hk1]; simp at hl ⊢; omega
  have hin : i < n0 := by rw [← hn0, List.length_append, hi1]; simp
  obtain ⟨g1, cap1, rfl, hc1, hm1⟩ := row_shape r1 (by omega)
  obtain ⟨g0, cap0, rfl, hc0, hm0⟩ := row_shape r0 (by omega)
  have p1 := ptr_cell r1 (j := i) (k := lo) (by rw [← hk1]; simp)
  have p2 := ptr_cell r1 (j := i + 1) (k := hi) (by rw [← hk1]; simp)
  have q1 : w.cell? ⟨b, 1, none⟩ = some (.slice (some ⟨g1, 0, none⟩) N cap1) := H4.cellAt (t := 188) (vs := [.slice (some ⟨g0, 0, none⟩) n0 cap0, .slice (some ⟨g1, 0, none⟩) N cap1]) (by simp [nodeR]) rfl
  have HN := hide hN
  have Hn0 := hide hn0
  have Hi1 := hide hi1
  have Hk1 := hide hk1
  have Hl2 := hide hl2
  have HlL := hide hlL
  have HhL := hide hhL
  have Hlsh := hide hlsh
  have Hhsh := hide hhsh
  have Hlfit := hide hlfit
  have Hhfit := hide hhfit
  have Hlc := hide hlc
  have Hhc := hide hhc
  have HH := hide H4
  have hiz : (i : Int) < (N : Int) := by omega
  have hiz1 : (i : Int) + 1 < (N : Int) := by omega
  have hiz0 : (0 : Int) ≤ (i : Int) + 1 := by omega
  have hw1 : IntKind.i64.wrap ((i : Int) + 1) = (i : Int) + 1 := by rw [IntKind.wrap_i64]; omega
  have htn : ((i : Int) + 1).toNat = i + 1 := by omega
  have hl10 : n0 ≤ 10 := by rw [← hn0]; exact hl
  clear H4 r0 r1 hN hn0 hi1 hk1 hl2 hlL hhL hlsh hhsh hlfit hhfit hlc hhc hl
  go_enter Tryz.func233, Tryz.ntmps233
  go_wp2_with fail
  go_quiet (fail)
  go_wp2_with fail
  have HH1 := hide ((unhide HH).drewN nq)
  generalize w.drewN nq = w1 at HH1 ⊢
  clear HH p1 p2 q1
  have h1 := unhide HH1
  have q0 : w1.cell? ⟨b, 0, none⟩ = some (.slice (some ⟨g0, 0, none⟩) n0 cap0) := h1.cellAt (t := 188) (vs := [.slice (some ⟨g0, 0, none⟩) n0 cap0, .slice (some ⟨g1, 0, none⟩) N cap1]) (by simp [nodeR]) rfl
  have q1 : w1.cell? ⟨lo.b, 0, none⟩ = some u0 := h1.cellAt (t := 188) (vs := [u0, u1]) (by simp [nodeR]) rfl
  have q2 : w1.cell? ⟨hi.b, 0, none⟩ = some t0 := h1.cellAt (t := 188) (vs := [t0, t1]) (by simp [nodeR]) rfl
  have r0 : w1.ownsRow base 190 3 (.slice (some ⟨g0, 0, none⟩) n0 cap0) n0 (flat (is1 ++ m :: is2)) := by have := unhide Hn0; rw [← this]; exact h1.rowAt (by simp [rowI, this])
  obtain ⟨s1, s2, s3⟩ := item_cell r0 (j := i) (x := m) (by rw [← unhide Hi1]; simp)
  have hca1 : ∀ o, (w1.alloc o).cell? ⟨lo.b, 0, none⟩ = some u0 := fun o => Lib.cell?_alloc_some _ q1
  have hca2 : ∀ o, (w1.alloc o).cell? ⟨hi.b, 0, none⟩ = some t0 := fun o => Lib.cell?_alloc_some _ q2
  have hbw : base ≤ w1.heap.size := h1.low (b := b) (t := 188) (vs := [.slice (some ⟨g0, 0, none⟩) n0 cap0, .slice (some ⟨g1, 0, none⟩) N cap1]) (by simp [nodeR])
  have Hm : Hid (Hold base w0 K0 (w1.alloc (.cells #[Value.string m.key, Value.string m.name, Value.int .i64 m.node] 190)) (.cell w1.heap.size 190 (cellsOf m) :: _)) := h1.made hbw 190 (cellsOf m)
  have hiz3 : (i : Int) < (n0 : Int) := by omega
  have hll : lits.length ≤ 4 := by have := unhide Hlc; omega
  have hhl : hits.length ≤ 4 := by have := unhide Hhc; omega
  have eA : ∀ wx, Hold base w0 K0 wx (.cell w1.heap.size 190 (cellsOf m) :: ([nodeR b (.slice (some ⟨g0, 0, none⟩) n0 cap0) (.slice (some ⟨g1, 0, none⟩) N cap1), rowI (.slice (some ⟨g0, 0, none⟩) n0 cap0) (is1 ++ m :: is2), rowN (.slice (some ⟨g1, 0, none⟩) N cap1) (ks1 ++ lo :: hi :: ks2), nodeR lo.b u0 u1] ++ rowI u0 lits :: (rowN u1 lkids :: .subs (h - 1) lkids :: nodeR hi.b t0 t1 :: rowI t0 hits :: rowN t1 hkids :: .subs (h - 1) hkids :: .subs h (ks1 ++ ks2) :: l2))) →
      ∃ v' w', (Builtin.append_ #[185, 185] 185 #[u0, .slice (some ⟨w1.heap.size, 0, none⟩) 1 1]).run Tryz.prog wx = .ok v' w' ∧ Hold base w0 K0 w' _ := fun wx hx => hold_appendOne _ hx (by omega) 185
  have EA := hide eA
  have hnum : lits.length + 1 + hits.length = (lits ++ [m] ++ hits).length := by simp; omega
  have eB : ∀ va wx, Hold base w0 K0 wx ([nodeR b (.slice (some ⟨g0, 0, none⟩) n0 cap0) (.slice (some ⟨g1, 0, none⟩) N cap1), rowI (.slice (some ⟨g0, 0, none⟩) n0 cap0) (is1 ++ m :: is2), rowN (.slice (some ⟨g1, 0, none⟩) N cap1) (ks1 ++ lo :: hi :: ks2), nodeR lo.b u0 u1] ++ rowI va (lits ++ [m]) :: (rowN u1 lkids :: .subs (h - 1) lkids :: nodeR hi.b t0 t1 :: rowI t0 hits :: rowN t1 hkids :: .subs (h - 1) hkids :: .subs h (ks1 ++ ks2) :: l2)) →
      ∃ gb capb w', (Builtin.append_ #[185, 185] 185 #[va, t0]).run Tryz.prog wx = .ok (.slice (some ⟨gb, 0, none⟩) (lits.length + 1 + hits.length) capb) w' ∧ Hold base w0 K0 w' ([nodeR b (.slice (some ⟨g0, 0, none⟩) n0 cap0) (.slice (some ⟨g1, 0, none⟩) N cap1), rowI (.slice (some ⟨g0, 0, none⟩) n0 cap0) (is1 ++ m :: is2), rowN (.slice (some ⟨g1, 0, none⟩) N cap1) (ks1 ++ lo :: hi :: ks2), nodeR lo.b u0 u1] ++ rowI (.slice (some ⟨gb, 0, none⟩) (lits.length + 1 + hits.length) capb) (lits ++ [m] ++ hits) :: (rowN u1 lkids :: .subs (h - 1) lkids :: nodeR hi.b t0 t1 :: rowI t0 hits :: rowN t1 hkids :: .subs (h - 1) hkids :: .subs h (ks1 ++ ks2) :: l2)) := by
    intro va wx hx
    obtain ⟨vb, wb, hrb, Hb⟩ := hold_appendI _ hx (t := t0) (c := hits) (by simp) (by simp; omega) (hx.low (b := b) (t := 188) (vs := [.slice (some ⟨g0, 0, none⟩) n0 cap0, .slice (some ⟨g1, 0, none⟩) N cap1]) (by simp [nodeR])) 185
    have rb : wb.ownsRow base 190 3 vb (lits.length + 1 + hits.length) (flat (lits ++ [m] ++ hits)) := by rw [hnum]; exact Hb.rowAt (by simp [rowI])
    obtain ⟨gb, capb, hvb, _, _⟩ := row_shape rb (by omega)
    rw [hvb] at hrb Hb
    exact ⟨gb, capb, wb, hrb, Hb⟩
  have EB := hide eB
  clear eA eB hnum r0 h1
  go_cut [] from 6 (fun wc => Hid (∃ gb capb, Hold base w0 K0 wc ([nodeR b (.slice (some ⟨g0, 0, none⟩) n0 cap0) (.slice (some ⟨g1, 0, none⟩) N cap1), rowI (.slice (some ⟨g0, 0, none⟩) n0 cap0) (is1 ++ m :: is2), rowN (.slice (some ⟨g1, 0, none⟩) N cap1) (ks1 ++ lo :: hi :: ks2)] ++ nodeR lo.b (.slice (some ⟨gb, 0, none⟩) (lits.length + 1 + hits.length) capb) u1 :: rowI (.slice (some ⟨gb, 0, none⟩) (lits.length + 1 + hits.length) capb) (lits ++ m :: hits) :: rowN u1 lkids :: .subs (h - 1) lkids :: nodeR hi.b t0 t1 :: rowI t0 hits :: rowN t1 hkids :: .subs (h - 1) hkids :: .subs h (ks1 ++ ks2) :: l2)))
  case first =>
    go_region_law (first
      | (obtain ⟨va, wa, hra, Ha⟩ := unhide EA _ (unhide Hm).drew
         have ka : wa.cell? ⟨hi.b, 0, none⟩ = some t0 := Ha.cellAt (t := 188) (vs := [t0, t1]) (by simp [nodeR]) rfl
         have HHa := hide Ha
         clear Ha
         refine step_append_runI rfl _ _ 185 185 rfl u0 (.slice (some ⟨w1.heap.size, 0, none⟩) 1 1) (by simp [Act.eval, Act.put]) (by simp [Act.eval, Act.put]) hra ?_
         clear hra)
      | (obtain ⟨gb, capb, wb, hrb, Hb⟩ := unhide EB va _ (unhide HHa)
         have kb : wb.cell? ⟨lo.b, 0, none⟩ = some u0 := Hb.cellAt (t := 188) (vs := [u0, u1]) (by simp [nodeR]) rfl
         have kf : wb.frozen? ⟨lo.b, 0, none⟩ = false := Hb.frozenAt (t := 188) (vs := [u0, u1]) (by simp [nodeR]) 0
         have HHb := hide Hb
         clear Hb
         refine step_append_runI rfl _ _ 185 185 rfl va t0 (by simp [Act.eval, Act.put]) (by simp [Act.eval, Act.put]) hrb ?_
         clear hrb))
    all_goals (go_wp2_with fail; go_meet; exact ⟨gb, capb, by
      have h5 := (unhide HHb).store [nodeR b (.slice (some ⟨g0, 0, none⟩) n0 cap0) (.slice (some ⟨g1, 0, none⟩) N cap1), rowI (.slice (some ⟨g0, 0, none⟩) n0 cap0) (is1 ++ m :: is2), rowN (.slice (some ⟨g1, 0, none⟩) N cap1) (ks1 ++ lo :: hi :: ks2)] 0 (.slice (some ⟨gb, 0, none⟩) (lits.length + 1 + hits.length) capb) _ rfl
      rw [show lits ++ m :: hits = lits ++ [m] ++ hits by simp]
      exact h5⟩)
  case rest =>
  obtain ⟨gb, capb, H5⟩ := unhide hcut
  simp only [List.cons_append, List.nil_append] at H5
  clear hcut EA EB Hm HH1 q0 q1 q2 s1 s2 s3 hca1 hca2 hbw
  obtain ⟨U0, hU0⟩ : ∃ U0, Value.slice (some ⟨gb, 0, none⟩) (lits.length + 1 + hits.length) capb = U0 := ⟨_, rfl⟩
  rw [hU0] at H5
  clear hU0
  have q1 : wc.cell? ⟨lo.b, 1, none⟩ = some u1 := H5.cellAt (t := 188) (vs := [U0, u1]) (by simp [nodeR]) rfl
  have q2 : wc.cell? ⟨hi.b, 1, none⟩ = some t1 := H5.cellAt (t := 188) (vs := [t0, t1]) (by simp [nodeR]) rfl
  have hkl : lkids.length ≤ 5 ∧ hkids.length ≤ 5 := by
    refine ⟨?_, ?_⟩
    · rcases unhide Hlsh with ⟨_, h0⟩ | ⟨_, h0⟩
      · rw [h0]; simp
      · omega
    · rcases unhide Hhsh with ⟨_, h0⟩ | ⟨_, h0⟩
      · rw [h0]; simp
      · omega
  have eC : ∀ wx, Hold base w0 K0 wx ([nodeR b (.slice (some ⟨g0, 0, none⟩) n0 cap0) (.slice (some ⟨g1, 0, none⟩) N cap1), rowI (.slice (some ⟨g0, 0, none⟩) n0 cap0) (is1 ++ m :: is2), rowN (.slice (some ⟨g1, 0, none⟩) N cap1) (ks1 ++ lo :: hi :: ks2), nodeR lo.b U0 u1, rowI U0 (lits ++ m :: hits)] ++ rowN u1 lkids :: (.subs (h - 1) lkids :: nodeR hi.b t0 t1 :: rowI t0 hits :: rowN t1 hkids :: .subs (h - 1) hkids :: .subs h (ks1 ++ ks2) :: l2)) →
      ∃ p n c w', (Builtin.append_ #[186, 186] 186 #[u1, t1]).run Tryz.prog wx = .ok (.slice p n c) w' ∧ Hold base w0 K0 w' ([nodeR b (.slice (some ⟨g0, 0, none⟩) n0 cap0) (.slice (some ⟨g1, 0, none⟩) N cap1), rowI (.slice (some ⟨g0, 0, none⟩) n0 cap0) (is1 ++ m :: is2), rowN (.slice (some ⟨g1, 0, none⟩) N cap1) (ks1 ++ lo :: hi :: ks2), nodeR lo.b U0 u1, rowI U0 (lits ++ m :: hits)] ++ rowN (.slice p n c) (lkids ++ hkids) :: (.subs (h - 1) lkids :: nodeR hi.b t0 t1 :: rowI t0 hits :: rowN t1 hkids :: .subs (h - 1) hkids :: .subs h (ks1 ++ ks2) :: l2)) := by
    intro wx hx
    obtain ⟨vb, wb, hrb, Hb⟩ := hold_appendN _ hx (t := t1) (c := hkids) (by simp) (by omega) (hx.low (b := b) (t := 188) (vs := [.slice (some ⟨g0, 0, none⟩) n0 cap0, .slice (some ⟨g1, 0, none⟩) N cap1]) (by simp [nodeR])) 186
    have rb : wb.ownsRow base 128 1 vb (lkids ++ hkids).length ((lkids ++ hkids).map fun y => ptrV y.b) := Hb.rowAt (by simp [rowN])
    rcases rb.2 with ⟨hv, hn⟩ | ⟨g, cap, _, hv, _⟩
    · rw [hv] at hrb Hb
      exact ⟨none, 0, 0, wb, hrb, Hb⟩
    · rw [hv] at hrb Hb
      exact ⟨some ⟨g, 0, none⟩, _, cap, wb, hrb, Hb⟩
  have EC := hide eC
  have HH5 := hide H5
  have Hkl := hide hkl
  clear eC H5 hkl
  go_wp2_with fail
  go_cut [] from 6 (fun wd => Hid (∃ p n c, Hold base w0 K0 wd ([nodeR b (.slice (some ⟨g0, 0, none⟩) n0 cap0) (.slice (some ⟨g1, 0, none⟩) N cap1), rowI (.slice (some ⟨g0, 0, none⟩) n0 cap0) (is1 ++ m :: is2), rowN (.slice (some ⟨g1, 0, none⟩) N cap1) (ks1 ++ lo :: hi :: ks2)] ++ nodeR lo.b U0 (.slice p n c) :: rowI U0 (lits ++ m :: hits) :: rowN (.slice p n c) (lkids ++ hkids) :: .subs (h - 1) lkids :: nodeR hi.b t0 t1 :: rowI t0 hits :: rowN t1 hkids :: .subs (h - 1) hkids :: .subs h (ks1 ++ ks2) :: l2)))
  case first =>
    go_region_law ((obtain ⟨pc, nc, cc, wd, hrc, Hc⟩ := unhide EC _ (unhide HH5).drew; have kb : wd.cell? ⟨lo.b, 1, none⟩ = some u1 := Hc.cellAt (t := 188) (vs := [U0, u1]) (by simp [nodeR]) rfl; have kf : wd.frozen? ⟨lo.b, 1, none⟩ = false := Hc.frozenAt (t := 188) (vs := [U0, u1]) (by simp [nodeR]) 1; have HHc := hide Hc; clear Hc; refine step_append_runI rfl _ _ 186 186 rfl u1 t1 (by simp [Act.eval, Act.put]) (by simp [Act.eval, Act.put]) hrc ?_; clear hrc))
    all_goals (go_wp2_with fail; go_meet; exact ⟨pc, nc, cc, (unhide HHc).store [nodeR b (.slice (some ⟨g0, 0, none⟩) n0 cap0) (.slice (some ⟨g1, 0, none⟩) N cap1), rowI (.slice (some ⟨g0, 0, none⟩) n0 cap0) (is1 ++ m :: is2), rowN (.slice (some ⟨g1, 0, none⟩) N cap1) (ks1 ++ lo :: hi :: ks2)] 1 (.slice pc nc cc) _ rfl⟩)
  case rest =>
  obtain ⟨pc, nc, cc, H6⟩ := unhide hcut
  simp only [List.cons_append, List.nil_append] at H6
  clear hcut EC HH5 q1 q2
  obtain ⟨U1, hU1⟩ : ∃ U1, Value.slice pc nc cc = U1 := ⟨_, rfl⟩
  rw [hU1] at H6
  clear hU1
  have q0 : wc.cell? ⟨b, 0, none⟩ = some (.slice (some ⟨g0, 0, none⟩) n0 cap0) := H6.cellAt (t := 188) (vs := [.slice (some ⟨g0, 0, none⟩) n0 cap0, .slice (some ⟨g1, 0, none⟩) N cap1]) (by simp [nodeR]) rfl
  have e6 := hold_deleteI [nodeR b (.slice (some ⟨g0, 0, none⟩) n0 cap0) (.slice (some ⟨g1, 0, none⟩) N cap1)] H6 (unhide Hi1) (unhide Hn0) (by omega)
  have E6 := hide e6
  clear e6 H6
  go_wp2_with fail
  refine (unhide E6).mono ?_
  rintro e w7 ⟨g7, cap7, rfl, hc7, hm7, H7⟩
  simp only [List.cons_append, List.nil_append] at H7
  have k0 : w7.cell? ⟨b, 0, none⟩ = some (.slice (some ⟨g0, 0, none⟩) n0 cap0) := H7.cellAt (t := 188) (vs := [.slice (some ⟨g0, 0, none⟩) n0 cap0, .slice (some ⟨g1, 0, none⟩) N cap1]) (by simp [nodeR]) rfl
  have kf : w7.frozen? ⟨b, 0, none⟩ = false := H7.frozenAt (t := 188) (vs := [.slice (some ⟨g0, 0, none⟩) n0 cap0, .slice (some ⟨g1, 0, none⟩) N cap1]) (by simp [nodeR]) 0
  have k1 : w7.cell? ⟨b, 1, none⟩ = some (.slice (some ⟨g1, 0, none⟩) N cap1) := H7.cellAt (t := 188) (vs := [.slice (some ⟨g0, 0, none⟩) n0 cap0, .slice (some ⟨g1, 0, none⟩) N cap1]) (by simp [nodeR]) rfl
  have H8 := H7.store [] 0 (.slice (some ⟨g7, 0, none⟩) (n0 - 1) cap7) _ rfl
  simp only [List.cons_append, List.nil_append, List.set_cons_zero] at H8
  have e7 := hold_deleteN [.cell b 188 [.slice (some ⟨g7, 0, none⟩) (n0 - 1) cap7, .slice (some ⟨g1, 0, none⟩) N cap1], rowI (.slice (some ⟨g7, 0, none⟩) (n0 - 1) cap7) (is1 ++ is2)] (a := ks1 ++ [lo]) (m := hi) (c := ks2) (n := N) (i := i + 1) (by simpa using H8) (by have := unhide Hk1; simp; omega) (by have := unhide HN; simp at this ⊢; omega) (by omega)
  rw [show ((i + 1 : Nat) : Int) + 1 = (i : Int) + 2 from by omega, show ((i + 1 : Nat) : Int) = (i : Int) + 1 from by omega] at e7
  have E7 := hide e7
  clear e7 H7 H8 E6 q0
  go_wp2_with fail
  refine (unhide E7).mono ?_
  rintro e w8 ⟨g8, cap8, rfl, hc8, hm8, H9⟩
  simp only [List.cons_append, List.nil_append] at H9
  have k2 : w8.cell? ⟨b, 1, none⟩ = some (.slice (some ⟨g1, 0, none⟩) N cap1) := H9.cellAt (t := 188) (vs := [.slice (some ⟨g7, 0, none⟩) (n0 - 1) cap7, .slice (some ⟨g1, 0, none⟩) N cap1]) (by simp) rfl
  have kf2 : w8.frozen? ⟨b, 1, none⟩ = false := H9.frozenAt (t := 188) (vs := [.slice (some ⟨g7, 0, none⟩) (n0 - 1) cap7, .slice (some ⟨g1, 0, none⟩) N cap1]) (by simp) 1
  have H10 := H9.store [] 1 (.slice (some ⟨g8, 0, none⟩) (N - 1) cap8) _ rfl
  simp only [List.cons_append, List.nil_append, List.set_cons_zero, List.set_cons_succ] at H10
  have HH10 := hide H10
  clear H9 H10 E7 k0 kf k1
  go_wp2_with fail
  go_end0
  have h10 := unhide HH10
  have h11 : Hold base w0 K0 _ (nodeR lo.b U0 U1 :: rowI U0 (lits ++ m :: hits) :: rowN U1 (lkids ++ hkids) :: .subs (h - 1) (lkids ++ hkids) :: nodeR b (.slice (some ⟨g7, 0, none⟩) (n0 - 1) cap7) (.slice (some ⟨g8, 0, none⟩) (N - 1) cap8) :: rowI (.slice (some ⟨g7, 0, none⟩) (n0 - 1) cap7) (is1 ++ is2) :: rowN (.slice (some ⟨g8, 0, none⟩) (N - 1) cap8) (ks1 ++ [lo] ++ ks2) :: .subs h (ks1 ++ ks2) :: l2) := h10.conv (fun x => by
      simp only [total_cons, nodeR, rowI, rowN, foot_cell, foot_row, foot_sub, foot_subs, owns_append]
      omega) (fun r hr => by
      have hs := h10.sat
      have hs1 : ∀ x ∈ lkids, Sub base _ (h - 1) x := hs (.subs (h - 1) lkids) (by simp)
      have hs2 : ∀ x ∈ hkids, Sub base _ (h - 1) x := hs (.subs (h - 1) hkids) (by simp)
      simp only [List.mem_cons] at hr
      rcases hr with rfl | rfl | rfl | rfl | rfl | rfl | rfl | rfl | hr
      · exact hs _ (by simp)
      · exact hs _ (by simp)
      · exact hs _ (by simp)
      · intro x hx
        rcases List.mem_append.1 hx with h1 | h1
        · exact hs1 x h1
        · exact hs2 x h1
      · exact hs _ (by simp [nodeR])
      · exact hs _ (by simp)
      · exact hs _ (by simp)
      · exact hs _ (by simp)
      · exact hs _ (by simp [hr]))
  have hshape : Shape h (lits ++ m :: hits) (lkids ++ hkids) := by
    rcases unhide Hlsh with ⟨h1, h2⟩ | ⟨h1, h2⟩
    · rcases unhide Hhsh with ⟨h3, h4⟩ | ⟨h3, h4⟩
      · exact .inl ⟨h1, by rw [h2, h4]; rfl⟩
      · omega
    · rcases unhide Hhsh with ⟨h3, h4⟩ | ⟨h3, h4⟩
      · omega
      · exact .inr ⟨h1, by simp; omega⟩
  obtain ⟨c, b1, n1, L1, h12⟩ := h11.shut [] (h := h) hshape (fun x hx => by
    rcases List.mem_append.1 hx with h1 | h1
    · exact unhide Hlfit x h1
    · exact unhide Hhfit x h1)
  refine ⟨rfl, c, .slice (some ⟨g7, 0, none⟩) (n0 - 1) cap7, .slice (some ⟨g8, 0, none⟩) (N - 1) cap8, ?_, ?_, ?_⟩
  · rw [L1, unhide HlL, unhide HhL, List.map_append]
    rcases unhide Hlsh with ⟨h1, h2⟩ | ⟨h1, h2⟩
    · rcases unhide Hhsh with ⟨h3, h4⟩ | ⟨h3, h4⟩
      · rw [h2, h4]; simp [inter_nil]
      · omega
    · rcases unhide Hhsh with ⟨h3, h4⟩ | ⟨h3, h4⟩
      · omega
      · exact inter_two lits _ m hits _ (by simpa using h2) (by simpa using h4)
  · rw [n1, unhide Hlc, unhide Hhc]; simp; omega
  · have e : rowN (.slice (some ⟨g8, 0, none⟩) (N - 1) cap8) (ks1 ++ [lo] ++ ks2) = rowN (.slice (some ⟨g8, 0, none⟩) (N - 1) cap8) (ks1 ++ c :: ks2) := rowN_congr (by simp [b1])
    rw [e] at h12
    have h13 := ((h12.front [_, _, _]).front [_, _, _]).front [_, _, _]
    exact h13.give [_, _, _] ks1 ks2
end Go.Proofs.YtjpmomklkkifjaaGreatDoor.T
