/-
  The contract of Tree.Drop, over the seat's program.
-/
import Derived.Test.YtklnonmmamdecabDrop
namespace Go.Proofs.Ytklnonmmamdecab
open Go.RowKit Go.Lib
set_option linter.unusedVariables false
set_option linter.unusedSimpArgs false

/-- How Drop ends. -/
def TreeDropEnd (base : Nat) (w0 : World) (K0 : Nat → Nat) (tb : Nat) (L : List Item) (key : ByteArray) (l2 : List Res) (e : Ending) (w' : World) : Prop :=
  e = .returned (.bool (getL L key).isSome) ∧ TreeIn base w0 K0 w' tb (dropL L key) l2

set_option maxRecDepth 100000 in
set_option maxHeartbeats 4000000 in
theorem treeDrop_calls (base : Nat) (w0 : World) (K0 : Nat → Nat) (w : World) (tb : Nat) (L : List Item) (l2 : List Res) (key : ByteArray) (HT : TreeIn base w0 K0 w tb L l2) :
    Calls Try.prog 12 #[.pointer (some ⟨tb, 0, none⟩), .string key] w fun e w' => TreeDropEnd base w0 K0 tb L key l2 e w' := by
  obtain ⟨hs, h, k, hL, hc, hc1, H⟩ := HT
  have q0 : w.cell? ⟨tb, 0, none⟩ = some (.pointer (some ⟨k.b, 0, none⟩)) := H.cellAt (t := 55) (vs := [ptrV k.b]) (by simp) rfl
  have e1 := drop_spec h base w0 K0 w k key _ (H.front [_]) (by rw [hL]; exact hs) hc1 hc
  obtain ⟨r, hr⟩ : ∃ r, (getL k.L key).isSome = r := ⟨_, rfl⟩
  have E1 := hide e1
  have HL := hide hL
  have HS := hide hs
  have Hc1 := hide hc1
  have Hr := hide hr
  clear e1 H hL hs hc1 hr
  go_enter Try.func12, Try.ntmps12
  go_wp2_with fail
  refine (unhide E1).mono ?_
  rintro e w2 ⟨rfl, k2, hb2, hL2, hc2, hc3, H2⟩
  rw [unhide Hr]
  simp only [List.cons_append, List.nil_append] at H2
  rw [← hb2] at H2
  obtain ⟨its, kids, u0, u1, hcc, hkL, hsh, hfit, H3⟩ := H2.open []
  simp only [List.nil_append] at H3
  have q1 : w2.cell? ⟨tb, 0, none⟩ = some (.pointer (some ⟨k.b, 0, none⟩)) := by rw [← hb2]; exact H3.cellAt (t := 55) (vs := [ptrV k2.b]) (by simp) rfl
  have f1 : w2.frozen? ⟨tb, 0, none⟩ = false := H3.frozenAt (t := 55) (vs := [ptrV k2.b]) (by simp) 0
  have q2 : w2.cell? ⟨k.b, 0, none⟩ = some u0 := by rw [← hb2]; exact H3.cellAt (t := 53) (vs := [u0, u1]) (by simp [nodeR]) rfl
  have q3 : w2.cell? ⟨k.b, 1, none⟩ = some u1 := by rw [← hb2]; exact H3.cellAt (t := 53) (vs := [u0, u1]) (by simp [nodeR]) rfl
  have r0 : w2.ownsRow base 58 3 u0 its.length (flat its) := H3.rowAt (by simp [rowI])
  have r1 : w2.ownsRow base 49 1 u1 kids.length (kids.map fun y => ptrV y.b) := H3.rowAt (by simp [rowN])
  obtain ⟨n, hn⟩ : ∃ n, its.length = n := ⟨_, rfl⟩
  rw [hn] at r0
  obtain ⟨p0, cap0, rfl⟩ := row_len r0
  have e2 := leaf_calls k.b (.slice none 0 0) u1 kids.length w2 q3 base _ r1 (by rcases hsh with ⟨_, h0⟩ | ⟨_, h0⟩; rw [h0]; simp; omega)
  have E2 := hide e2
  have hLf : k2.L = dropL L key := by rw [hL2, unhide HL]
  have hgf : r = (getL L key).isSome := by rw [← unhide Hr, unhide HL]
  have hsf : Sorted (dropL L key) := dropL_sorted (unhide HS)
  have HH2 := hide H2
  have HLf := hide hLf
  have Hgf := hide hgf
  have Hsf := hide hsf
  have Hcc := hide hcc
  have Hn := hide hn
  by_cases hn0 : n = 0
  · subst hn0
    rcases hsh with ⟨h0, hk0⟩ | ⟨h0, hk0⟩
    · have hd : decide (kids.length = 0) = true := by rw [hk0]; rfl
      rw [hd] at E2
      clear e2 hd hk0 r0 r1 H3 H2 hkL hfit hcc hn hLf hgf hsf E1 hL2
      go_wp2_with fail
      refine (unhide E2).mono ?_
      rintro e w3 ⟨rfl, rfl⟩
      go_wp2_with fail
      go_ret
      exact ⟨by rw [← unhide Hgf]; rfl, unhide Hsf, h, k2, unhide HLf, by omega, .inl h0, (unhide HH2).front [_]⟩
    · have hd : decide (kids.length = 0) = false := by rw [hk0]; simp
      rw [hd] at E2
      have hits : its = [] := List.length_eq_zero_iff.1 hn
      subst hits
      obtain ⟨c, hkids⟩ : ∃ c, kids = [c] := by
        match kids, hk0 with
        | [c], _ => exact ⟨c, rfl⟩
      subst hkids
      simp only [List.length_cons, List.length_nil] at r1
      obtain ⟨g1, cap1, rfl, _, _⟩ := row_shape r1 (by omega)
      have p1 := ptr_cell r1 (j := 0) (k := c) rfl
      have hfc : Fit c := hfit c (by simp)
      have hcL : c.L = dropL L key := by rw [← hLf, hkL]; simp [inter]
      have h5 := (((H3.forget []).forget []).forget [])
      have h6 := h5.take [] (a := []) (d := [])
      have h7 := h6.forget [.sub (h - 1) c]
      have h8 := h7.store [.sub (h - 1) c] 0 (ptrV c.b) _ rfl
      simp only [List.cons_append, List.nil_append, List.set_cons_zero] at h8
      have H8 := hide h8
      have HcL := hide hcL
      clear e2 hd hk0 r0 r1 H3 H2 hkL hfit hcc hLf hgf hsf E1 hL2 h5 h6 h7 h8 hcL
      go_wp2_with fail
      refine (unhide E2).mono ?_
      rintro e w3 ⟨rfl, rfl⟩
      go_wp2_with fail
      go_ret
      exact ⟨by rw [← unhide Hgf]; rfl, unhide Hsf, h - 1, c, unhide HcL, hfc.2, .inr hfc.1, (unhide H8).front [_]⟩
  · have hnz : ((n : Int) == 0) = false := by rw [beq_eq_false_iff_ne]; omega
    have hk2c : 1 ≤ k2.c := by omega
    clear e2 r0 r1 H3 H2 hkL hfit hcc hn hLf hgf hsf E1 hL2 hsh E2
    go_wp2_with fail
    go_ret
    exact ⟨by rw [← unhide Hgf]; rfl, unhide Hsf, h, k2, unhide HLf, by omega, .inr hk2c, (unhide HH2).front [_]⟩

#print axioms treeDrop_calls
end Go.Proofs.Ytklnonmmamdecab
