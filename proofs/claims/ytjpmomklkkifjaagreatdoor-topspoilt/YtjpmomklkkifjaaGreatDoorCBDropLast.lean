import Derived.Test.YtjpmomklkkifjaaGreatDoorCBJoin
import Derived.Test.YtjpmomklkkifjaaGreatDoorCBPutFacts
import Derived.Laws.ResultCell
set_option maxRecDepth 100000
set_option linter.unusedVariables false
set_option linter.unusedSimpArgs false
namespace Go.Proofs.YtjpmomklkkifjaaGreatDoor.T
open Go.RowKit Go.Lib
def OpenAt (base : Nat) (w0 : World) (K0 : Nat → Nat) (w : World) (b h : Nat) (M : List Item) (n0 : Nat) (l2 : List Res) : Prop :=
  ∃ its kids v0 v1, inter its (kids.map Kid.L) = M ∧ its.length ≤ n0 ∧ n0 ≤ its.length + 1 ∧ kids.length = its.length + 1 ∧ (∀ x ∈ kids, Fit x) ∧ Hold base w0 K0 w (nodeR b v0 v1 :: rowI v0 its :: rowN v1 kids :: .subs h kids :: l2)
def MendEnd (base : Nat) (w0 : World) (K0 : Nat → Nat) (b h : Nat) (M : List Item) (n0 : Nat) (l2 : List Res) (e : Ending) (w' : World) : Prop :=
  e = .returned (.tuple #[]) ∧ OpenAt base w0 K0 w' b h M n0 l2
set_option maxRecDepth 100000 in
set_option maxHeartbeats 4000000 in
theorem mend_two (base : Nat) (w0 : World) (K0 : Nat → Nat) (w : World) (b h i at' : Nat) (is1 is2 : List Item) (m : Item) (ks1 ks2 : List Kid) (lo hi c0 : Kid) (v0 v1 : Value) (l2 : List Res)
    (H : Hold base w0 K0 w (nodeR b v0 v1 :: rowI v0 (is1 ++ m :: is2) :: rowN v1 (ks1 ++ lo :: hi :: ks2) :: .subs h (ks1 ++ lo :: hi :: ks2) :: l2))
    (hi1 : is1.length = i) (hk1 : ks1.length = i) (hk2 : is2.length = ks2.length) (hl : (is1 ++ m :: is2).length ≤ 3)
    (hat : (at' = i ∧ c0 = lo) ∨ (at' = i + 1 ∧ c0 = hi ∧ is2 = [])) (hc : c0.c = 0) (hcc : 1 ≤ lo.c + hi.c ∧ lo.c + hi.c ≤ 3) (hf : ∀ x ∈ ks1 ++ ks2, Fit x) :
    Calls Tryz.prog 216 #[.pointer (some ⟨b, 0, none⟩), .int .i64 at'] w fun e w' => MendEnd base w0 K0 b h (inter (is1 ++ m :: is2) ((ks1 ++ lo :: hi :: ks2).map Kid.L)) (is1 ++ m :: is2).length l2 e w' := by
  obtain ⟨N, hN⟩ : ∃ N, (ks1 ++ lo :: hi :: ks2).length = N := ⟨_, rfl⟩
  obtain ⟨n0, hn0⟩ : ∃ n0, (is1 ++ m :: is2).length = n0 := ⟨_, rfl⟩
  have r1 : w.ownsRow base 128 1 v1 N ((ks1 ++ lo :: hi :: ks2).map fun y => ptrV y.b) := by rw [← hN]; exact H.rowAt (by simp [rowN])
  have r0 : w.ownsRow base 190 3 v0 n0 (flat (is1 ++ m :: is2)) := by rw [← hn0]; exact H.rowAt (by simp [rowI])
  have hNn : N = n0 + 1 := by rw [← hN, ← hn0]; simp; omega
  have hin : i < n0 := by rw [← hn0, List.length_append, hi1]; simp
  have hatn : at' < N := by rcases hat with ⟨h1, _⟩ | ⟨h1, _⟩ <;> omega
  obtain ⟨g1, cap1, rfl, hc1, hm1⟩ := row_shape r1 (by omega)
  obtain ⟨g0, cap0, rfl, hc0, hm0⟩ := row_shape r0 (by omega)
  have hkc : (ks1 ++ lo :: hi :: ks2)[at']? = some c0 := by
    rcases hat with ⟨h1, h2⟩ | ⟨h1, h2, _⟩
    · rw [h1, h2, ← hk1]; simp
    · rw [h1, h2, ← hk1]; simp
  have p1 := ptr_cell r1 (j := at') (k := c0) hkc
  have q0 : w.cell? ⟨b, 0, none⟩ = some (.slice (some ⟨g0, 0, none⟩) n0 cap0) := H.cellAt (t := 188) (vs := [.slice (some ⟨g0, 0, none⟩) n0 cap0, .slice (some ⟨g1, 0, none⟩) N cap1]) (by simp [nodeR]) rfl
  have q1 : w.cell? ⟨b, 1, none⟩ = some (.slice (some ⟨g1, 0, none⟩) N cap1) := H.cellAt (t := 188) (vs := [.slice (some ⟨g0, 0, none⟩) n0 cap0, .slice (some ⟨g1, 0, none⟩) N cap1]) (by simp [nodeR]) rfl
  have hcs : ∃ u0 p cu, w.cell? ⟨c0.b, 0, none⟩ = some u0 ∧ u0 = .slice p 0 cu := by
    have hsub : Sub base w h c0 := H.sat (.subs h (ks1 ++ lo :: hi :: ks2)) (by simp) c0 (List.mem_of_getElem? hkc)
    obtain ⟨its, kids, u0, u1, hn, _, _⟩ := hsub.open
    have hi0 := hn.items
    rw [← hn.c, hc] at hi0
    refine ⟨u0, ?_⟩
    rcases hi0.2 with ⟨h1, _⟩ | ⟨g, cap, cur, h1, _⟩
    · exact ⟨none, 0, by rw [cell_of_row w c0.b 0 _ 188 (0, 0) hn.cell]; rfl, h1⟩
    · exact ⟨_, cap, by rw [cell_of_row w c0.b 0 _ 188 (0, 0) hn.cell]; rfl, h1⟩
  obtain ⟨u0, pu, cu, q2, rfl⟩ := hcs
  have e1 := join_calls base w0 K0 w b h i is1 is2 m ks1 ks2 lo hi _ _ l2 H hi1 hk1 (by omega) (by simp only [List.length_append, List.length_cons] at hl; omega) (by omega) (by omega)
  have E1 := hide e1
  have hmin : min (at' : Int) ((n0 : Int) - 1) = (i : Int) := by
    rcases hat with ⟨h1, _⟩ | ⟨h1, _, h3⟩
    · omega
    · have : n0 = i + 1 := by rw [← hn0, List.length_append, hi1, h3]; simp
      omega
  have haz : (at' : Int) < (N : Int) := by omega
  have Hmin := hide hmin
  have HN := hide hN
  have Hn0 := hide hn0
  have Hi1 := hide hi1
  have Hk1 := hide hk1
  have Hk2 := hide hk2
  have Hf := hide hf
  have hn03 : n0 ≤ 3 := by rw [← hn0]; exact hl
  clear e1 H r0 r1 hkc hmin hN hn0 hi1 hk1 hk2 hf hat hc hl
  go_enter Tryz.func216, Tryz.ntmps216
  go_wp2_with fail
  rw [unhide Hmin]
  refine (unhide E1).mono ?_
  rintro e w2 ⟨rfl, c, V0, V1, hcL, hccc, H2⟩
  have hN2 : (ks1 ++ c :: ks2).length = N - 1 := by have := unhide HN; simp at this ⊢; omega
  have r1 : w2.ownsRow base 128 1 V1 (N - 1) ((ks1 ++ c :: ks2).map fun y => ptrV y.b) := by rw [← hN2]; exact H2.rowAt (by simp [rowN])
  obtain ⟨g2, cap2, rfl, _, _⟩ := row_shape r1 (by omega)
  have p2 := ptr_cell r1 (j := i) (k := c) (by rw [← unhide Hk1]; simp)
  have q3 : w2.cell? ⟨b, 1, none⟩ = some (.slice (some ⟨g2, 0, none⟩) (N - 1) cap2) := H2.cellAt (t := 188) (vs := [V0, .slice (some ⟨g2, 0, none⟩) (N - 1) cap2]) (by simp [nodeR]) rfl
  have hov : ∃ o0 on oxs, w2.cell? ⟨c.b, 0, none⟩ = some o0 ∧ w2.ownsRow base 190 3 o0 on oxs ∧ c.c = on := by
    have hsub : Sub base w2 h c := H2.sat (.subs h (ks1 ++ c :: ks2)) (by simp) c (by simp)
    obtain ⟨its, kids, u0, u1, hn, _, _⟩ := hsub.open
    exact ⟨u0, _, _, by rw [cell_of_row w2 c.b 0 _ 188 (0, 0) hn.cell]; rfl, hn.items, hn.c⟩
  obtain ⟨o0, on, oxs, o1, o2, o3⟩ := hov
  have e2 := over_calls c.b o0 on w2 o1 base oxs o2 (by omega)
  have E2 := hide e2
  have hl12 : is1.length = (ks1.map Kid.L).length ∧ is2.length = (ks2.map Kid.L).length := by
    have h1 := unhide Hi1; have h2 := unhide Hk1; have h3 := unhide Hk2
    simp only [List.length_map]; omega
  have hinter : inter (is1 ++ m :: is2) ((ks1 ++ lo :: hi :: ks2).map Kid.L) = inter (is1 ++ is2) ((ks1 ++ c :: ks2).map Kid.L) := by
    simp only [List.map_append, List.map_cons]
    rw [inter_up hl12.1 hl12.2, hcL]
  have Hinter := hide hinter
  have Hl12 := hide hl12
  have HH2 := hide H2
  have Hccc := hide hccc
  have hiz2 : (i : Int) < ((N - 1 : Nat) : Int) := by omega
  have Ho3 := hide o3
  clear e2 H2 r1 o1 o2 hcL hN2 hl12 hinter E1 q0 q1 q2 p1 o3 hNn
  by_cases hov4 : 3 < on
  · have hd : decide (3 < on) = true := by simp [hov4]
    rw [hd] at E2
    have e3 := split_calls base w0 K0 w2 b h i is1 is2 ks1 ks2 c V0 (.slice (some ⟨g2, 0, none⟩) (N - 1) cap2) l2 (unhide HH2) (unhide Hi1) (unhide Hk1) (by have := unhide Hn0; simp only [List.length_append, List.length_cons] at this ⊢; omega) (by have h1 := unhide Hk2; have h2 := unhide Hn0; simp only [List.length_append, List.length_cons] at h2; omega) (by have h1 := unhide Ho3; have h2 := unhide Hccc; omega)
    have E3 := hide e3
    clear e3 hd
    go_wp2_with fail
    refine (unhide E2).mono ?_
    rintro e w3 ⟨rfl, rfl⟩
    go_wp2_with fail
    refine (unhide E3).mono ?_
    rintro e w4 ⟨rfl, m', c1, c2, W0, W1, hcL2, f1, f2, H5⟩
    have HH5 := hide H5
    have HcL2 := hide hcL2
    clear H5 hcL2
    go_wp2_with fail
    go_end0
    refine ⟨rfl, is1 ++ m' :: is2, ks1 ++ c1 :: c2 :: ks2, W0, W1, ?_, by simp, by simp, by have h1 := unhide Hi1; have h2 := unhide Hk1; have h3 := unhide Hk2; simp; omega, fun x hx => ?_, unhide HH5⟩
    · rw [unhide Hinter]
      simp only [List.map_append, List.map_cons]
      rw [inter_up (unhide Hl12).1 (unhide Hl12).2, unhide HcL2]
    · simp only [List.mem_append, List.mem_cons] at hx
      rcases hx with hx | rfl | rfl | hx
      · exact unhide Hf x (by simp [hx])
      · exact f1
      · exact f2
      · exact unhide Hf x (by simp [hx])
  · have hd : decide (3 < on) = false := by simp [hov4]
    rw [hd] at E2
    clear hd
    go_wp2_with fail
    refine (unhide E2).mono ?_
    rintro e w3 ⟨rfl, rfl⟩
    go_wp2_with fail
    go_end0
    refine ⟨rfl, is1 ++ is2, ks1 ++ c :: ks2, V0, .slice (some ⟨g2, 0, none⟩) (N - 1) cap2, (unhide Hinter).symm, by simp, by simp; omega, by have h1 := unhide Hi1; have h2 := unhide Hk1; have h3 := unhide Hk2; simp; omega, fun x hx => ?_, unhide HH2⟩
    simp only [List.mem_append, List.mem_cons] at hx
    rcases hx with hx | rfl | hx
    · exact unhide Hf x (by simp [hx])
    · have h1 := unhide Ho3; have h2 := unhide Hccc
      exact ⟨by omega, by omega⟩
    · exact unhide Hf x (by simp [hx])
theorem mend_none (base : Nat) (w0 : World) (K0 : Nat → Nat) (w : World) (b h at' : Nat) (its : List Item) (kids : List Kid) (c : Kid) (v0 v1 : Value) (l2 : List Res)
    (H : Hold base w0 K0 w (nodeR b v0 v1 :: rowI v0 its :: rowN v1 kids :: .subs h kids :: l2)) (hk : kids[at']? = some c) (hc : 1 ≤ c.c) (hc4 : c.c ≤ 4) (hl : kids.length ≤ 10) :
    Calls Tryz.prog 216 #[.pointer (some ⟨b, 0, none⟩), .int .i64 at'] w fun e w' => e = .returned (.tuple #[]) ∧ w' = w := by
  obtain ⟨N, hN⟩ : ∃ N, kids.length = N := ⟨_, rfl⟩
  have r1 : w.ownsRow base 128 1 v1 N (kids.map fun y => ptrV y.b) := by rw [← hN]; exact H.rowAt (by simp [rowN])
  have hatn : at' < N := by rw [← hN]; exact (List.getElem?_eq_some_iff.1 hk).1
  obtain ⟨g1, cap1, rfl, hc1, hm1⟩ := row_shape r1 (by omega)
  have p1 := ptr_cell r1 (j := at') (k := c) hk
  have q1 : w.cell? ⟨b, 1, none⟩ = some (.slice (some ⟨g1, 0, none⟩) N cap1) := H.cellAt (t := 188) (vs := [v0, .slice (some ⟨g1, 0, none⟩) N cap1]) (by simp [nodeR]) rfl
  have hcs : ∃ u0 p cu, w.cell? ⟨c.b, 0, none⟩ = some u0 ∧ u0 = .slice p c.c cu := by
    have hsub : Sub base w h c := H.sat (.subs h kids) (by simp) c (List.mem_of_getElem? hk)
    obtain ⟨its, kids, u0, u1, hn, _, _⟩ := hsub.open
    have hi0 := hn.items
    rw [← hn.c] at hi0
    refine ⟨u0, ?_⟩
    rcases hi0.2 with ⟨h1, h2⟩ | ⟨g, cap, cur, h1, _⟩
    · omega
    · exact ⟨_, cap, by rw [cell_of_row w c.b 0 _ 188 (0, 0) hn.cell]; rfl, h1⟩
  obtain ⟨u0, pu, cu, q2, rfl⟩ := hcs
  have haz : (at' : Int) < (N : Int) := by omega
  have hcz : (1 : Int) ≤ (c.c : Int) := by omega
  clear H r1 hk hN hl
  go_enter Tryz.func216, Tryz.ntmps216
  go_wp2_with fail
  refine bodyPost_ret (results_none rfl _ _ _) rfl ?_
  exact ⟨rfl, rfl⟩
theorem mend_calls (base : Nat) (w0 : World) (K0 : Nat → Nat) (w : World) (b h at' : Nat) (its : List Item) (kids : List Kid) (c : Kid) (v0 v1 : Value) (l2 : List Res)
    (H : Hold base w0 K0 w (nodeR b v0 v1 :: rowI v0 its :: rowN v1 kids :: .subs h kids :: l2)) (hkl : kids.length = its.length + 1) (hl1 : 1 ≤ its.length) (hl3 : its.length ≤ 3) (hk : kids[at']? = some c) (hc : c.c ≤ 3) (hf : ∀ j x, kids[j]? = some x → j ≠ at' → Fit x) :
    Calls Tryz.prog 216 #[.pointer (some ⟨b, 0, none⟩), .int .i64 at'] w fun e w' => MendEnd base w0 K0 b h (inter its (kids.map Kid.L)) its.length l2 e w' := by
  have hat : at' < kids.length := (List.getElem?_eq_some_iff.1 hk).1
  rcases Nat.eq_zero_or_pos c.c with h0 | h0
  · by_cases hlt : at' < its.length
    · -- the one behind serves
      have e1 : its = its.take at' ++ its[at'] :: its.drop (at' + 1) := by rw [← List.drop_eq_getElem_cons hlt, List.take_append_drop]
      have hat1 : at' + 1 < kids.length := by omega
      have e2 : kids = kids.take at' ++ c :: kids[at' + 1] :: kids.drop (at' + 1 + 1) := by
        obtain ⟨h1, h2⟩ := List.getElem?_eq_some_iff.1 hk
        rw [← List.drop_eq_getElem_cons hat1, ← h2, ← List.drop_eq_getElem_cons h1, List.take_append_drop]
      have hfh : Fit kids[at' + 1] := hf (at' + 1) _ (List.getElem?_eq_getElem hat1) (by omega)
      rw [e1, e2] at H
      have key := mend_two base w0 K0 w b h at' at' (its.take at') (its.drop (at' + 1)) its[at'] (kids.take at') (kids.drop (at' + 1 + 1)) c kids[at' + 1] c v0 v1 l2 H (by rw [List.length_take]; omega) (by rw [List.length_take]; omega) (by simp; omega) (by rw [← e1]; exact hl3) (.inl ⟨rfl, rfl⟩) h0 (by have := hfh.1; have := hfh.2; omega) (fun x hx => by
        rcases List.mem_append.1 hx with h1 | h1
        · obtain ⟨j, hj, rfl⟩ := List.mem_iff_getElem.1 h1
          rw [List.length_take] at hj
          exact hf j _ (by rw [List.getElem_take]; exact List.getElem?_eq_getElem (by omega)) (by omega)
        · obtain ⟨j, hj, rfl⟩ := List.mem_iff_getElem.1 h1
          rw [List.length_drop] at hj
          exact hf (at' + 1 + 1 + j) _ (by rw [List.getElem_drop]; exact List.getElem?_eq_getElem (by omega)) (by omega))
      rw [← e1, ← e2] at key
      exact key
    · -- the last one: the one ahead serves
      have hatl : at' = its.length := by omega
      obtain ⟨i, hi⟩ : ∃ i, at' = i + 1 := ⟨at' - 1, by omega⟩
      have hil : i < its.length := by omega
      have e1 : its = its.take i ++ its[i] :: its.drop (i + 1) := by rw [← List.drop_eq_getElem_cons hil, List.take_append_drop]
      have hik : i < kids.length := by omega
      have hik1 : i + 1 < kids.length := by omega
      have e2 : kids = kids.take i ++ kids[i] :: c :: kids.drop (i + 1 + 1) := by
        obtain ⟨h1, h2⟩ := List.getElem?_eq_some_iff.1 hk
        have h3 : kids[i + 1] = c := by rw [← h2]; congr 1; omega
        rw [← h3, ← List.drop_eq_getElem_cons hik1, ← List.drop_eq_getElem_cons hik, List.take_append_drop]
      have hfh : Fit kids[i] := hf i _ (List.getElem?_eq_getElem hik) (by omega)
      rw [e1, e2] at H
      have key := mend_two base w0 K0 w b h i at' (its.take i) (its.drop (i + 1)) its[i] (kids.take i) (kids.drop (i + 1 + 1)) kids[i] c c v0 v1 l2 H (by rw [List.length_take]; omega) (by rw [List.length_take]; omega) (by simp; omega) (by rw [← e1]; exact hl3) (.inr ⟨hi, rfl, List.drop_eq_nil_of_le (by omega)⟩) h0 (by have := hfh.1; have := hfh.2; omega) (fun x hx => by
        rcases List.mem_append.1 hx with h1 | h1
        · obtain ⟨j, hj, rfl⟩ := List.mem_iff_getElem.1 h1
          rw [List.length_take] at hj
          exact hf j _ (by rw [List.getElem_take]; exact List.getElem?_eq_getElem (by omega)) (by omega)
        · rw [List.drop_eq_nil_of_le (by omega)] at h1
          simp at h1)
      rw [← e1, ← e2] at key
      exact key
  · refine (mend_none base w0 K0 w b h at' its kids c v0 v1 l2 H hk h0 (by omega) (by omega)).mono ?_
    rintro e w' ⟨rfl, rfl⟩
    refine ⟨rfl, its, kids, v0, v1, rfl, Nat.le_refl _, Nat.le_succ _, hkl, fun x hx => ?_, H⟩
    obtain ⟨j, hj, rfl⟩ := List.mem_iff_getElem.1 hx
    by_cases hja : j = at'
    · subst hja
      have h1 : some kids[j] = some c := by rw [← hk]; exact (List.getElem?_eq_getElem hj).symm
      have h2 := Option.some.inj h1
      rw [h2]
      exact ⟨h0, hc⟩
    · exact hf j _ (List.getElem?_eq_getElem hj) hja
end Go.Proofs.YtjpmomklkkifjaaGreatDoor.T
namespace Go.Proofs.YtjpmomklkkifjaaGreatDoor.T
open Go.RowKit Go.Lib
def DropLastEnd (base : Nat) (w0 : World) (K0 : Nat → Nat) (h : Nat) (k : Kid) (l2 : List Res) (e : Ending) (w' : World) : Prop :=
  ∃ (x : Item) (k' : Kid), e = .returned (.agg #[.string x.key, .string x.name, .int .i64 x.node]) ∧ k'.b = k.b ∧ k.L = k'.L ++ [x] ∧ k'.c ≤ k.c ∧ k.c ≤ k'.c + 1 ∧ Hold base w0 K0 w' (.sub h k' :: l2)
def DropLastSpec (h : Nat) : Prop := ∀ (base : Nat) (w0 : World) (K0 : Nat → Nat) (w : World) (k : Kid) (l2 : List Res), Hold base w0 K0 w (.sub h k :: l2) → 1 ≤ k.c → k.c ≤ 3 →
  Calls Tryz.prog 215 #[.pointer (some ⟨k.b, 0, none⟩)] w fun e w' => DropLastEnd base w0 K0 h k l2 e w'
theorem results_item {fn : Func} {p : Tmp} (h : fn.results = #[.cell p 190]) (tmps : Array Value) (w : World) (g : Nat) (t : TypeId) (a b c : Value)
    (hp : tmps.getD p undef = .pointer (some ⟨g, 0, none⟩)) (hg : w.heap[g]? = some (.cells #[a, b, c] t (0, 0))) :
    (results fn tmps).run Tryz.prog w = .ok (.agg #[a, b, c]) w :=
  results_cell_row h tmps w g t #[a, b, c] (0, 0) _ hp hg Tryz.underlying190 rfl (by kernel_rfl)
def zItem : List Value := [.string ⟨#[]⟩, .string ⟨#[]⟩, .int .i64 0]
set_option maxRecDepth 100000 in
set_option maxHeartbeats 4000000 in
theorem dropLast_leaf (base : Nat) (w0 : World) (K0 : Nat → Nat) (w : World) (k : Kid) (l2 : List Res) (H : Hold base w0 K0 w (.sub 0 k :: l2)) (hc1 : 1 ≤ k.c) (hc3 : k.c ≤ 3) :
    Calls Tryz.prog 215 #[.pointer (some ⟨k.b, 0, none⟩)] w fun e w' => DropLastEnd base w0 K0 0 k l2 e w' := by
  obtain ⟨its, kids, v0, v1, hcc, hL, hsh, hfit, H1⟩ := H.open []
  simp only [List.nil_append] at H1
  have hk0 : kids = [] := by rcases hsh with ⟨_, h⟩ | ⟨h, _⟩; exact h; omega
  subst hk0
  obtain ⟨b, hb⟩ : ∃ b, k.b = b := ⟨_, rfl⟩
  rw [hb] at H1 ⊢
  obtain ⟨a, x, hits⟩ : ∃ a x, its = a ++ [x] := ⟨its.dropLast, its.getLast (by intro h; rw [h] at hcc; simp at hcc; omega), (List.dropLast_concat_getLast _).symm⟩
  subst hits
  obtain ⟨i, hi⟩ : ∃ i, a.length = i := ⟨_, rfl⟩
  obtain ⟨n, hn⟩ : ∃ n, (a ++ [x]).length = n := ⟨_, rfl⟩
  have hni : n = i + 1 := by rw [← hn]; simp [hi]
  have hbw : base ≤ w.heap.size := H1.low (b := b) (t := 188) (vs := [v0, v1]) (by simp [nodeR])
  have H2 := H1.made hbw 190 zItem
  obtain ⟨rb, hrb⟩ : ∃ rb, w.heap.size = rb := ⟨_, rfl⟩
  have r0 : w.ownsRow base 190 3 v0 n (flat (a ++ [x])) := by rw [← hn]; exact H1.rowAt (by simp [rowI])
  obtain ⟨g0, cap0, rfl, hc0, hm0⟩ := row_shape r0 (by omega)
  generalize hw1 : w.alloc (.cells zItem.toArray 190) = w1 at H2
  rw [hrb] at H2
  have q0 : w1.cell? ⟨b, 0, none⟩ = some (.slice (some ⟨g0, 0, none⟩) n cap0) := H2.cellAt (t := 188) (vs := [.slice (some ⟨g0, 0, none⟩) n cap0, v1]) (by simp [nodeR]) rfl
  have q1 : w1.cell? ⟨b, 1, none⟩ = some v1 := H2.cellAt (t := 188) (vs := [.slice (some ⟨g0, 0, none⟩) n cap0, v1]) (by simp [nodeR]) rfl
  have e1 := leaf_calls b (.slice none 0 0) v1 0 w1 q1 base [] (H2.rowAt (by simp [rowN])) (by omega)
  have rr : w1.ownsRow base 190 3 (.slice (some ⟨g0, 0, none⟩) n cap0) n (flat (a ++ [x])) := by rw [← hn]; exact H2.rowAt (by simp [rowI, hn])
  obtain ⟨s1, s2, s3⟩ := item_cell rr (j := i) (x := x) (by rw [← hi]; simp)
  have E1 := hide e1
  have HH2 := hide H2
  have zq : (n : Int) - 1 = (i : Int) := by omega
  have hiz : (i : Int) < (n : Int) := by omega
  have hn3 : n ≤ 3 := by omega
  have hca : ∀ o, (w1.alloc o).cell? ⟨b, 0, none⟩ = some (.slice (some ⟨g0, 0, none⟩) n cap0) := fun o => Lib.cell?_alloc_some _ q0
  have Hn := hide hn
  have Hni := hide hni
  have Hi := hide hi
  have HL := hide hL
  have Hcc := hide hcc
  have Hb := hide hb
  have hw1' : w.alloc (Obj.cells #[Value.string ⟨#[]⟩, Value.string ⟨#[]⟩, Value.int IntKind.i64 0] 190) = w1 := hw1
  clear e1 H H1 H2 hn hni hi hL hcc hb hsh hfit r0 rr hw1
  go_enter Tryz.func215, Tryz.ntmps215
  go_wp2_with fail
  clear hw1' hrb
  refine (unhide E1).mono ?_
  rintro e w2 ⟨rfl, rfl⟩
  simp only [decide_true]
  go_wp2_with fail
  have hbw2 : base ≤ w2.heap.size := (unhide HH2).low (b := rb) (t := 190) (vs := zItem) (by simp)
  have H3 := (unhide HH2).made hbw2 190 (cellsOf x)
  have e3 := hold_deleteI [.cell w2.heap.size 190 (cellsOf x), .cell rb 190 zItem, nodeR b (.slice (some ⟨g0, 0, none⟩) n cap0) v1] (a := a) (m := x) (c := []) H3 (unhide Hi) (unhide Hn) (by omega)
  rw [show ((i : Int) + 1) = (n : Int) from by have := unhide Hni; omega] at e3
  generalize hlb : w2.heap.size = lb at e3 ⊢
  refine e3.mono ?_
  clear e3 H3 hlb
  rintro e w4 ⟨g4, cap4, rfl, hc4, hm4, H4⟩
  simp only [List.cons_append, List.nil_append, List.append_nil] at H4
  have k0 : w4.cell? ⟨b, 0, none⟩ = some (.slice (some ⟨g0, 0, none⟩) n cap0) := H4.cellAt (t := 188) (vs := [.slice (some ⟨g0, 0, none⟩) n cap0, v1]) (by simp [nodeR]) rfl
  have kf : w4.frozen? ⟨b, 0, none⟩ = false := H4.frozenAt (t := 188) (vs := [.slice (some ⟨g0, 0, none⟩) n cap0, v1]) (by simp [nodeR]) 0
  have H5 := H4.store [.cell lb 190 (cellsOf x), .cell rb 190 zItem] 0 (.slice (some ⟨g4, 0, none⟩) (n - 1) cap4) _ rfl
  simp only [List.cons_append, List.nil_append, List.set_cons_zero] at H5
  obtain ⟨w5, hw5⟩ : ∃ w5, w4.setCell ⟨b, 0, none⟩ (.slice (some ⟨g4, 0, none⟩) (n - 1) cap4) = w5 := ⟨_, rfl⟩
  rw [hw5] at H5
  have l0 : w5.cell? ⟨lb, 0, none⟩ = some (.string x.key) := H5.cellAt (t := 190) (vs := cellsOf x) (by simp) rfl
  have l1 : w5.cell? ⟨lb, 1, none⟩ = some (.string x.name) := H5.cellAt (t := 190) (vs := cellsOf x) (by simp) rfl
  have l2' : w5.cell? ⟨lb, 2, none⟩ = some (.int .i64 x.node) := H5.cellAt (t := 190) (vs := cellsOf x) (by simp) rfl
  have m0 : w5.cell? ⟨rb, 0, none⟩ = some (.string ⟨#[]⟩) := H5.cellAt (t := 190) (vs := zItem) (by simp) rfl
  have m1 : w5.cell? ⟨rb, 1, none⟩ = some (.string ⟨#[]⟩) := H5.cellAt (t := 190) (vs := zItem) (by simp) rfl
  have m2 : w5.cell? ⟨rb, 2, none⟩ = some (.int .i64 0) := H5.cellAt (t := 190) (vs := zItem) (by simp) rfl
  have f0 : w5.frozen? ⟨rb, 0, none⟩ = false := H5.frozenAt (t := 190) (vs := zItem) (by simp) 0
  have f1 : w5.frozen? ⟨rb, 1, none⟩ = false := H5.frozenAt (t := 190) (vs := zItem) (by simp) 1
  have f2 : w5.frozen? ⟨rb, 2, none⟩ = false := H5.frozenAt (t := 190) (vs := zItem) (by simp) 2
  have H6 := hide (((H5.store [.cell lb 190 (cellsOf x)] 0 (.string x.key) _ rfl).store [.cell lb 190 (cellsOf x)] 1 (.string x.name) _ rfl).store [.cell lb 190 (cellsOf x)] 2 (.int .i64 x.node) _ rfl)
  clear H4 H5 HH2 E1 q0 q1 s1 s2 s3 hca
  go_wp2_with fail
  have h6 := unhide H6
  simp only [List.cons_append, List.nil_append, List.set_cons_zero, List.set_cons_succ, zItem] at h6
  refine bodyPost_ret (results_item (p := 2) rfl _ _ rb 190 (.string x.key) (.string x.name) (.int .i64 x.node) rfl (h6.sat (.cell rb 190 [.string x.key, .string x.name, .int .i64 x.node]) (by simp)).2) rfl ?_
  have h7 := (h6.forget []).forget []
  obtain ⟨k', b1, n1, L1, h8⟩ := h7.shut [] (h := 0) (.inl ⟨rfl, rfl⟩) (by simp)
  refine ⟨x, k', rfl, by rw [b1]; exact (unhide Hb).symm, ?_, ?_, ?_, h8⟩
  · rw [unhide HL, L1]
    simp [inter_nil]
  · rw [n1, unhide Hcc]; simp
  · rw [n1, unhide Hcc]; simp
set_option maxRecDepth 100000 in
set_option maxHeartbeats 4000000 in
theorem dropLast_inner (h : Nat) (ih : DropLastSpec h) (base : Nat) (w0 : World) (K0 : Nat → Nat) (w : World) (k : Kid) (l2 : List Res) (H : Hold base w0 K0 w (.sub (h + 1) k :: l2)) (hc1 : 1 ≤ k.c) (hc3 : k.c ≤ 3) :
    Calls Tryz.prog 215 #[.pointer (some ⟨k.b, 0, none⟩)] w fun e w' => DropLastEnd base w0 K0 (h + 1) k l2 e w' := by
  obtain ⟨its, kids, v0, v1, hcc, hL, hsh, hfit, H1⟩ := H.open []
  simp only [List.nil_append, Nat.add_sub_cancel] at H1
  have hk0 : kids.length = its.length + 1 := by rcases hsh with ⟨h, _⟩ | ⟨_, h⟩; omega; exact h
  obtain ⟨b, hb⟩ : ∃ b, k.b = b := ⟨_, rfl⟩
  rw [hb] at H1 ⊢
  obtain ⟨ks, kk, hkids⟩ : ∃ ks kk, kids = ks ++ [kk] := ⟨kids.dropLast, kids.getLast (by intro h; rw [h] at hk0; simp at hk0), (List.dropLast_concat_getLast _).symm⟩
  subst hkids
  obtain ⟨n, hn⟩ : ∃ n, its.length = n := ⟨_, rfl⟩
  have hks : ks.length = n := by simp at hk0; omega
  have hbw : base ≤ w.heap.size := H1.low (b := b) (t := 188) (vs := [v0, v1]) (by simp [nodeR])
  have H2 := H1.made hbw 190 zItem
  obtain ⟨rb, hrb⟩ : ∃ rb, w.heap.size = rb := ⟨_, rfl⟩
  have r0 : w.ownsRow base 190 3 v0 n (flat its) := by rw [← hn]; exact H1.rowAt (by simp [rowI])
  obtain ⟨g0, cap0, rfl, hc0, hm0⟩ := row_shape r0 (by omega)
  generalize hw1 : w.alloc (.cells zItem.toArray 190) = w1 at H2
  rw [hrb] at H2
  have r1 : w1.ownsRow base 128 1 v1 (n + 1) ((ks ++ [kk]).map fun y => ptrV y.b) := by rw [show n + 1 = (ks ++ [kk]).length by simp [hks]]; exact H2.rowAt (by simp [rowN])
  obtain ⟨g1, cap1, rfl, hcp1, hm1⟩ := row_shape r1 (by omega)
  have p1 := ptr_cell r1 (j := n) (k := kk) (by rw [← hks]; simp)
  have q0 : w1.cell? ⟨b, 0, none⟩ = some (.slice (some ⟨g0, 0, none⟩) n cap0) := H2.cellAt (t := 188) (vs := [.slice (some ⟨g0, 0, none⟩) n cap0, .slice (some ⟨g1, 0, none⟩) (n + 1) cap1]) (by simp [nodeR]) rfl
  have q1 : w1.cell? ⟨b, 1, none⟩ = some (.slice (some ⟨g1, 0, none⟩) (n + 1) cap1) := H2.cellAt (t := 188) (vs := [.slice (some ⟨g0, 0, none⟩) n cap0, .slice (some ⟨g1, 0, none⟩) (n + 1) cap1]) (by simp [nodeR]) rfl
  have e1 := leaf_calls b (.slice none 0 0) _ (n + 1) w1 q1 base _ r1 (by omega)
  rw [show decide (n + 1 = 0) = false from by simp] at e1
  have hfk : Fit kk := hfit kk (by simp)
  have h3 := (H2.take [.cell rb 190 zItem, nodeR b (.slice (some ⟨g0, 0, none⟩) n cap0) (.slice (some ⟨g1, 0, none⟩) (n + 1) cap1), rowI (.slice (some ⟨g0, 0, none⟩) n cap0) its, rowN (.slice (some ⟨g1, 0, none⟩) (n + 1) cap1) (ks ++ [kk])]).front [.cell rb 190 zItem, nodeR b (.slice (some ⟨g0, 0, none⟩) n cap0) (.slice (some ⟨g1, 0, none⟩) (n + 1) cap1), rowI (.slice (some ⟨g0, 0, none⟩) n cap0) its, rowN (.slice (some ⟨g1, 0, none⟩) (n + 1) cap1) (ks ++ [kk])]
  simp only [List.cons_append, List.nil_append] at h3
  have e2 := ih base w0 K0 w1 kk _ h3 hfk.1 hfk.2
  have E1 := hide e1
  have E2 := hide e2
  have hn3 : n ≤ 3 := by omega
  have hn1 : 1 ≤ n := by omega
  have hnz : (n : Int) < (n : Int) + 1 := by omega
  have Hn := hide hn
  have Hks := hide hks
  have HL := hide hL
  have Hcc := hide hcc
  have Hb := hide hb
  have Hfit := hide hfit
  have hfk3 := hfk.2
  have hw1' : w.alloc (Obj.cells #[Value.string ⟨#[]⟩, Value.string ⟨#[]⟩, Value.int IntKind.i64 0] 190) = w1 := hw1
  clear e1 e2 H H1 H2 hn hks hL hcc hb hsh hfit r0 r1 hw1 ih h3 hk0 hfk
  go_enter Tryz.func215, Tryz.ntmps215
  go_wp2_with fail
  clear hw1' hrb
  refine (unhide E1).mono ?_
  rintro e w2 ⟨rfl, rfl⟩
  go_wp2_with fail
  refine (unhide E2).mono ?_
  rintro e w3 ⟨x, kk', rfl, hb2, hLx, hcx1, hcx2, H4⟩
  have H5 : Hold base w0 K0 w3 (.cell rb 190 zItem :: nodeR b (.slice (some ⟨g0, 0, none⟩) n cap0) (.slice (some ⟨g1, 0, none⟩) (n + 1) cap1) :: rowI (.slice (some ⟨g0, 0, none⟩) n cap0) its :: rowN (.slice (some ⟨g1, 0, none⟩) (n + 1) cap1) (ks ++ [kk']) :: .subs h (ks ++ [kk']) :: l2) := by
    have e : rowN (.slice (some ⟨g1, 0, none⟩) (n + 1) cap1) (ks ++ [kk]) = rowN (.slice (some ⟨g1, 0, none⟩) (n + 1) cap1) (ks ++ [kk']) := rowN_congr (by simp [hb2])
    rw [e] at H4
    have h5 := (((H4.front [_, _, _, _]).front [_, _, _, _]).front [_, _, _, _]).front [_, _, _, _]
    have h6 := h5.give [_, _, _, _] (h := h) ks []
    exact h6
  have hb3 : base ≤ w3.heap.size := H5.low (b := rb) (t := 190) (vs := zItem) (by simp)
  have H6 := H5.made hb3 190 (cellsOf x)
  generalize hlb : w3.heap.size = lb at H6 ⊢
  generalize hw4 : w3.alloc (.cells (cellsOf x).toArray 190) = w4 at H6
  have hw4' : w3.alloc (Obj.cells #[Value.string x.key, Value.string x.name, Value.int IntKind.i64 x.node] 190) = w4 := hw4
  have e5 := mend_calls base w0 K0 w4 b h n its (ks ++ [kk']) kk' (.slice (some ⟨g0, 0, none⟩) n cap0) (.slice (some ⟨g1, 0, none⟩) (n + 1) cap1) (.cell lb 190 (cellsOf x) :: .cell rb 190 zItem :: l2) (H6.conv (fun y => by simp only [total_cons]; omega) (fun r hr => H6.sat r (by
      simp only [List.mem_cons] at hr ⊢
      rcases hr with h | h | h | h | h | h | h
      · exact .inr (.inr (.inl h))
      · exact .inr (.inr (.inr (.inl h)))
      · exact .inr (.inr (.inr (.inr (.inl h))))
      · exact .inr (.inr (.inr (.inr (.inr (.inl h)))))
      · exact .inl h
      · exact .inr (.inl h)
      · exact .inr (.inr (.inr (.inr (.inr (.inr h)))))))) (by have h1 := unhide Hks; have h2 := unhide Hn; simp; omega) (by have := unhide Hn; omega) (by have := unhide Hn; omega) (by rw [← unhide Hks]; simp) (by omega) (fun j y hj hjn => by
      have h1 : j < ks.length := by
        have h2 := (List.getElem?_eq_some_iff.1 hj).1
        have h3 := unhide Hks
        simp at h2; omega
      rw [List.getElem?_append_left h1] at hj
      exact unhide Hfit y (by simp [List.mem_of_getElem? hj]))
  have E5 := hide e5
  have HLx := hide hLx
  clear e5 H4 H5 H6 E1 E2 hw4 hLx q0 q1 p1
  go_wp2_with fail
  refine (unhide E5).mono ?_
  clear hw4' hlb
  rintro e w6 ⟨rfl, its', kids', V0, V1, hM, hlen1, hlen2, hkl, hfit', H7⟩
  have l0 : w6.cell? ⟨lb, 0, none⟩ = some (.string x.key) := H7.cellAt (t := 190) (vs := cellsOf x) (by simp) rfl
  have l1 : w6.cell? ⟨lb, 1, none⟩ = some (.string x.name) := H7.cellAt (t := 190) (vs := cellsOf x) (by simp) rfl
  have l2' : w6.cell? ⟨lb, 2, none⟩ = some (.int .i64 x.node) := H7.cellAt (t := 190) (vs := cellsOf x) (by simp) rfl
  have m0 : w6.cell? ⟨rb, 0, none⟩ = some (.string ⟨#[]⟩) := H7.cellAt (t := 190) (vs := zItem) (by simp) rfl
  have m1 : w6.cell? ⟨rb, 1, none⟩ = some (.string ⟨#[]⟩) := H7.cellAt (t := 190) (vs := zItem) (by simp) rfl
  have m2 : w6.cell? ⟨rb, 2, none⟩ = some (.int .i64 0) := H7.cellAt (t := 190) (vs := zItem) (by simp) rfl
  have f0 : w6.frozen? ⟨rb, 0, none⟩ = false := H7.frozenAt (t := 190) (vs := zItem) (by simp) 0
  have f1 : w6.frozen? ⟨rb, 1, none⟩ = false := H7.frozenAt (t := 190) (vs := zItem) (by simp) 1
  have f2 : w6.frozen? ⟨rb, 2, none⟩ = false := H7.frozenAt (t := 190) (vs := zItem) (by simp) 2
  have H8 := (((H7.store [nodeR b V0 V1, rowI V0 its', rowN V1 kids', .subs h kids', .cell lb 190 (cellsOf x)] 0 (.string x.key) _ rfl).store [nodeR b V0 V1, rowI V0 its', rowN V1 kids', .subs h kids', .cell lb 190 (cellsOf x)] 1 (.string x.name) _ rfl).store [nodeR b V0 V1, rowI V0 its', rowN V1 kids', .subs h kids', .cell lb 190 (cellsOf x)] 2 (.int .i64 x.node) _ rfl)
  have HH8 := hide H8
  have HM := hide hM
  have Hl1 := hide hlen1
  have Hl2 := hide hlen2
  have Hkl := hide hkl
  have Hfit2 := hide hfit'
  clear H7 H8 hM hlen1 hlen2 hkl hfit' E5
  go_wp2_with fail
  have h6 := unhide HH8
  simp only [List.cons_append, List.nil_append, List.set_cons_zero, List.set_cons_succ, zItem] at h6
  refine bodyPost_ret (results_item (p := 2) rfl _ _ rb 190 (.string x.key) (.string x.name) (.int .i64 x.node) rfl (h6.sat (.cell rb 190 [.string x.key, .string x.name, .int .i64 x.node]) (by simp)).2) rfl ?_
  have h7 := (h6.forget [nodeR b V0 V1, rowI V0 its', rowN V1 kids', .subs h kids']).forget [nodeR b V0 V1, rowI V0 its', rowN V1 kids', .subs h kids']
  obtain ⟨k', b1, n1, L1, h8⟩ := h7.shut [] (h := h + 1) (.inr ⟨by omega, unhide Hkl⟩) (unhide Hfit2)
  refine ⟨x, k', rfl, by rw [b1]; exact (unhide Hb).symm, ?_, ?_, ?_, h8⟩
  · rw [unhide HL, L1, unhide HM]
    have hl : its.length = (ks.map Kid.L).length := by have h1 := unhide Hn; have h2 := unhide Hks; simp; omega
    have e1 := inter_split its (ks.map Kid.L) [] kk.L [] hl rfl
    have e2 := inter_split its (ks.map Kid.L) [] kk'.L [] hl rfl
    simp only [List.append_nil] at e1 e2
    simp only [List.map_append, List.map_cons, List.map_nil]
    rw [e1, e2, unhide HLx]
    simp [post]
  · rw [n1, unhide Hcc]; exact unhide Hl1
  · rw [n1, unhide Hcc]; exact unhide Hl2
theorem dropLast_spec : ∀ h, DropLastSpec h
  | 0 => fun base w0 K0 w k l2 H h1 h3 => dropLast_leaf base w0 K0 w k l2 H h1 h3
  | h + 1 => fun base w0 K0 w k l2 H h1 h3 => dropLast_inner h (dropLast_spec h) base w0 K0 w k l2 H h1 h3
end Go.Proofs.YtjpmomklkkifjaaGreatDoor.T
