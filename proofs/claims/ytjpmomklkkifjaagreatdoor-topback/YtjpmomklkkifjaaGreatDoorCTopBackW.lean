/-
  The walk of TopBack: what goes to another place and back is as it was.
-/
import Derived.Test.YtjpmomklkkifjaaGreatDoorCISameFs
import Derived.Test.YtjpmomklkkifjaaGreatDoorCIBack3
import Derived.Test.YtjpmomklkkifjaaGreatDoorCIChanges
import Derived.Test.YtjpmomklkkifjaaGreatDoorCISort
import Derived.Test.YtjpmomklkkifjaaGreatDoorCBWalkA
import Derived.Test.YtjpmomklkkifjaaGreatDoorCIRowF
namespace Go.Proofs.YtjpmomklkkifjaaGreatDoor.T
open Go.RowKit
set_option maxRecDepth 100000
set_option linter.unusedVariables false
set_option linter.unusedSimpArgs false

theorem findRetB_ok (u : NV) : findRet (.ok u) = .tuple #[.agg #[.int .i64 u.id, .int .i64 u.kind, .int .i64 u.up, .int .i64 u.links, .string u.text], .nilIface] := rfl
theorem findRetB_error (k : Int) : findRet (.error k) = .tuple #[.agg #[.int .i64 0, .int .i64 0, .int .i64 0, .int .i64 0, .string ⟨#[]⟩], .iface 86 (.int .i64 k)] := rfl
theorem FSIn.five33 {w0 w : World} {fb mb : Nat} {N : List NV} {F : Forest} {next : Int} {l2 : List Res} (h : FSIn w0 w fb mb N F next l2) {b : Nat} {a0 a1 a2 a3 a4 : Value} (hm : Res.cell b 33 [a0, a1, a2, a3, a4] ∈ l2) : w.cell? ⟨b, 0, none⟩ = some a0 ∧ w.cell? ⟨b, 1, none⟩ = some a1 ∧ w.cell? ⟨b, 2, none⟩ = some a2 ∧ w.cell? ⟨b, 3, none⟩ = some a3 ∧ w.cell? ⟨b, 4, none⟩ = some a4 :=
  ⟨h.cellAt hm (j := 0) rfl, h.cellAt hm (j := 1) rfl, h.cellAt hm (j := 2) rfl, h.cellAt hm (j := 3) rfl, h.cellAt hm (j := 4) rfl⟩
def Near (w : World) (base : Nat) (v1 v2 : Value) : Prop := ∃ A B c d n, w.ownsRow base 69 3 v1 n (flatC (A ++ c :: B)) ∧ w.ownsRow base 69 3 v2 n (flatC (A ++ d :: B)) ∧ c.key = d.key ∧ c.gone = d.gone ∧ (A ++ c :: B).length = n ∧ n ≤ 1000

set_option maxHeartbeats 16000000 in
theorem topBack_walk (va : Value) (na : Nat) (fa : Nat → ActD) (a b : ByteArray) (W : World) (hR : Ready W) (hA : ActsOk W va na fa) :
    Calls Tryz.prog 7 #[va, .string a, .string b] W fun e w' => e = .returned (.bool true) ∧ Below W.heap.size W w' := by
  have hmade := made_calls hR (H0.start W) (Nat.le_refl _)
  have hgr := fun w1 (h1 : H0 W w1 []) => grown_calls hR h1 va na fa hA
  have HMd := hide hmade
  have HGr := hide hgr
  have HR := hide hR
  clear hmade hgr hA hR
  go_enter Tryz.func7, Tryz.ntmps7
  go_wp2_with fail
  refine (unhide HMd).mono ?_
  rintro e w1 ⟨rfl, h1⟩
  have H1 := hide h1
  clear h1 HMd
  go_wp2_with fail
  refine (unhide HGr w1 (unhide H1)).mono ?_
  rintro e w2 (⟨rfl, h2⟩ | ⟨fb, mb, N, F, next, rfl, h2, hG⟩)
  · have H2 := hide h2
    clear h2 HGr H1
    go_wp2_with fail
    go_ret
    exact ⟨rfl, H0.below (unhide H2)⟩
  clear HGr H1
  by_cases hs : 150 < a.size
  · have hsz : (150 : Int) < (a.size : Int) := by omega
    have H2 := hide h2
    clear h2 hG
    go_wp2_with fail
    go_ret
    exact ⟨rfl, (unhide H2).below⟩
  have hsz : ¬ (150 : Int) < (a.size : Int) := by omega
  by_cases hr : 150 < b.size
  · have hrz : (150 : Int) < (b.size : Int) := by omega
    have H2 := hide h2
    clear h2 hG
    go_wp2_with fail
    go_ret
    exact ⟨rfl, (unhide H2).below⟩
  have hrz : ¬ (150 : Int) < (b.size : Int) := by omega
  have hcp := copyFs_calls h2 hG.fits hG.whole.linked.nodup
  have HCp := hide hcp
  have HG := hide hG
  clear h2 hcp hG
  go_wp2_with fail
  refine (unhide HCp).mono ?_
  rintro e w3 ⟨gb, gm, N', F', acc, rs', rfl, hp, ht, hd, hF', h3⟩
  have HT := hide (And.intro hp (And.intro ht (And.intro hd hF')))
  have Hsame : Hid (∀ wx, FSIn W wx fb mb N F next (gR gb gm N' next rs' []) → Calls Tryz.prog 28 #[.pointer (some ⟨fb, 0, none⟩), .pointer (some ⟨gb, 0, none⟩)] wx fun e w' => e = .returned (.bool true) ∧ Below W.heap.size W w') := fun wx hx => same_calls (unhide HR) hx hF' ((unhide HG).rows (by decide)) hp ht hd
  have hfd := fsFind_calls W w3 fb mb N F next _ (unhide HR) h3 (unhide HG).fits b (by omega)
  clear hp ht hd hF' h3 HCp
  cases hf : findP N F b with
  | ok u =>
    rw [hf, findRetB_ok] at hfd
    have HFd := hide hfd
    clear hfd hf Hsame HT
    go_wp2_with fail
    refine (unhide HFd).mono ?_
    rintro e w5 ⟨rfl, h5⟩
    have H5 := hide h5
    clear h5 HFd
    go_wp2_with fail
    go_ret
    exact ⟨rfl, ((unhide H5).alloc _).below⟩
  | error kb =>
  rw [hf, findRetB_error] at hfd
  have HFd := hide hfd
  have Hfb : Hid (∀ u, findP N F b ≠ .ok u) := fun u e => by rw [hf] at e; cases e
  clear hfd hf
  go_wp2_with fail
  refine (unhide HFd).mono ?_
  rintro e w5 ⟨rfl, h5⟩
  have h6 := h5.alloc (.cells #[.int .i64 0, .int .i64 0, .int .i64 0, .int .i64 0, .string ⟨#[]⟩] 33)
  have hrn := rename_calls W _ fb mb N F next _ (unhide HR) h6 (unhide HG).fits ((unhide HG).million (by decide)) a b (by omega) (by omega)
  clear h5 HFd h6
  cases hro : (renameP N F a b).1 with
  | some k =>
    obtain ⟨e1, e2⟩ : (renameP N F a b).2.1 = N ∧ (renameP N F a b).2.2 = F := by
      rcases (rename_step (next := next) (unhide HG).fits a b).2 with h | h
      · rw [hro] at h; cases h
      · exact h
    rw [hro, e1, e2] at hrn
    simp only [errV] at hrn
    have HRn := hide hrn
    clear hrn hro e1 e2 HT Hfb
    go_wp2_with fail
    refine (unhide HRn).mono ?_
    rintro e w7 ⟨rfl, h7⟩
    have hs7 := unhide Hsame _ h7
    have HS7 := hide hs7
    clear h7 hs7 HRn Hsame
    go_wp2_with fail
    refine (unhide HS7).mono ?_
    rintro e w8 ⟨rfl, hb⟩
    have Hb := hide hb
    clear hb HS7
    go_wp2_with fail
    go_ret
    exact ⟨rfl, unhide Hb⟩
  | none =>
  have hG1 : Good 61 (renameP N F a b).2.1 (renameP N F a b).2.2 next := ⟨(unhide HG).goo.rename (by decide) a b, (unhide HG).whole.rename (unhide HG).fits a b⟩
  have HBk : Hid (upP a = false → upP b = false → ∃ (p : PL) (it : Item) (x : NV) (F2 : Forest), PlaceOk N F p ∧ getL (lookF F p.tb) p.key = some it ∧ renameP (renameP N F a b).2.1 (renameP N F a b).2.2 b a = (none, N, F2) ∧ findP N F a = .ok x ∧ findP N F2 a = .ok x ∧
      lookF F2 p.tb = putL (dropL (lookF F p.tb) p.key) ⟨p.key, p.name, it.node⟩ ∧ ∀ t, t ≠ p.tb → lookF F2 t = lookF F t) := fun h1 h2 => rename_back (unhide HG).whole (unhide HG).fits h1 h2 (unhide Hfb) hro
  rw [hro] at hrn
  simp only [errV] at hrn
  generalize (renameP N F a b).2.1 = N1 at hrn hG1 HBk
  generalize (renameP N F a b).2.2 = F1 at hrn hG1 HBk
  have HRn := hide hrn
  have HG1 := hide hG1
  clear hrn hG1 hro Hsame Hfb
  go_wp2_with fail
  refine (unhide HRn).mono ?_
  rintro e w7 ⟨rfl, h7⟩
  have hfa := fsFind_calls W w7 fb mb N1 F1 next _ (unhide HR) h7 (unhide HG1).fits a (by omega)
  clear h7 HRn
  cases hf : findP N1 F1 a with
  | ok u =>
    rw [hf, findRetB_ok] at hfa
    have HFa := hide hfa
    clear hfa hf HT HBk
    go_wp2_with fail
    refine (unhide HFa).mono ?_
    rintro e w8 ⟨rfl, h8⟩
    have H8 := hide h8
    clear h8 HFa
    go_wp2_with fail
    go_ret
    exact ⟨rfl, (unhide H8).below⟩
  | error ka =>
  rw [hf, findRetB_error] at hfa
  have HFa := hide hfa
  have HUp : Hid (∀ s : ByteArray, s.size ≤ 150 → ∀ wx, FSIn W wx fb mb N1 F1 next (gR gb gm N' next rs' []) → Calls Tryz.prog 29 #[.string s] wx fun e w' => e = .returned (.bool (upP s)) ∧ FSIn W w' fb mb N1 F1 next (gR gb gm N' next rs' [])) := fun s hs wx hx => (up_calls s wx (hx.ready (unhide HR)) (by omega)).mono fun e w' ⟨he, hb⟩ => ⟨he, hx.step hb⟩
  clear hfa hf
  go_wp2_with fail
  refine (unhide HFa).mono ?_
  rintro e w8 ⟨rfl, h8⟩
  have hu8 := unhide HUp a (by omega) w8 h8
  clear h8 HFa
  cases hua : upP a with
  | true =>
    rw [hua] at hu8
    have HU8 := hide hu8
    clear hu8 hua HT HBk HUp
    go_wp2_with fail
    refine (unhide HU8).mono ?_
    rintro e w9 ⟨rfl, h9⟩
    have H9 := hide h9
    clear h9 HU8
    go_wp2_with fail
    go_ret
    exact ⟨rfl, (unhide H9).below⟩
  | false =>
  rw [hua] at hu8
  have HU8 := hide hu8
  have Hua := hide hua
  clear hu8 hua
  go_wp2_with fail
  refine (unhide HU8).mono ?_
  rintro e w9 ⟨rfl, h9⟩
  have hu9 := unhide HUp b (by omega) w9 h9
  clear h9 HU8 HUp
  cases hub : upP b with
  | true =>
    rw [hub] at hu9
    have HU9 := hide hu9
    clear hu9 hub HT HBk
    go_wp2_with fail
    refine (unhide HU9).mono ?_
    rintro e w10 ⟨rfl, h10⟩
    have H10 := hide h10
    clear h10 HU9
    go_wp2_with fail
    go_ret
    exact ⟨rfl, (unhide H10).below⟩
  | false =>
  rw [hub] at hu9
  have HU9 := hide hu9
  obtain ⟨p, it, x, F2, hpo, hit, hren2, hfx, hfx2, hl1, hl2⟩ := unhide HBk (unhide Hua) hub
  have hG2 : Good 62 N F2 next := by
    have h1 := (unhide HG1).goo.rename (by decide) b a
    have h2 := (unhide HG1).whole.rename (unhide HG1).fits b a
    rw [hren2] at h1 h2
    exact ⟨h1, h2⟩
  obtain ⟨P, Q, c, d, r1, r2, hck, hcg⟩ := back_rows (next := next) (unhide HG).whole hpo hit hl1 hl2
  have hO := (unhide HG).rows (by decide)
  have hO2 : RowsOk N F2 next := hG2.rowsMany (by decide) (by
    have h1 := hO.many
    have h2 := congrArg List.length r1
    have h3 := congrArg List.length r2
    simp only [List.length_append, List.length_cons] at h2 h3
    omega)
  have hO' := hO.copy (unhide HT).1 (unhide HT).2.1 (unhide HT).2.2.1
  obtain ⟨x', hfx', htw⟩ := find_twin (unhide HG).whole.linked.nodup (unhide HT).1 (unhide HT).2.1 hfx
  have hR2P : (rowsOf F' next N').Perm (rowsOf F next N) := by rw [twins_rows (unhide HT).2.1]; exact rowsOf_perm (unhide HT).1
  have HForF' := hide (unhide HT).2.2.2
  -- the two rows
  have HRows : Hid (∀ wx l rs0, ForR F' rs0 → FSIn W wx fb mb N F2 next (gR gb gm N' next rs0 l) → Calls Tryz.prog 31 #[.pointer (some ⟨fb, 0, none⟩)] wx fun e w' => ∃ v1, e = .returned v1 ∧ (∃ p n c, v1 = .slice p n c) ∧ Calls Tryz.prog 31 #[.pointer (some ⟨gb, 0, none⟩)] w' fun e2 w'' => ∃ v2, e2 = .returned v2 ∧ (∃ p n c, v2 = .slice p n c) ∧ Below W.heap.size W w'' ∧ Near w'' W.heap.size v1 v2) := fun wx l rs0 hrs0 hx => by
    refine (rows_calls (unhide HR) hx hO2).mono ?_
    rintro e w' ⟨v1, R1, rfl, p1, s1, h1⟩
    refine ⟨v1, rfl, (by obtain ⟨q1, q2, q3⟩ := row_cut (h1.rowAt (e := 69) (k := 3) (.head _)); exact ⟨q1, _, q2, q3⟩), ?_⟩
    obtain ⟨rs, hrs, h2⟩ := FSIn.swap hrs0 (h1.perm gR_front)
    refine (rows_calls (unhide HR) h2 hO').mono ?_
    rintro e w'' ⟨v2, R2, rfl, p2, s2, h3⟩
    have o1 : w''.ownsRow W.heap.size 69 3 v1 R1.length (flatC R1) := h3.rowAt (v := v1) (e := 69) (k := 3) (by simp [rowCh])
    have o2 : w''.ownsRow W.heap.size 69 3 v2 R2.length (flatC R2) := h3.rowAt (v := v2) (e := 69) (k := 3) (.head _)
    refine ⟨v2, rfl, (by obtain ⟨q1, q2, q3⟩ := row_cut o2; exact ⟨q1, _, q2, q3⟩), h3.below, ?_⟩
    rw [r2] at p1
    have p2' := p2.trans hR2P
    rw [r1] at p2'
    have hkeys := hO2.keys
    rw [r2] at hkeys
    obtain ⟨A, B, e1, e2⟩ := sorted_mid hck.symm p1 p2' s1 s2 hkeys
    have hl : (A ++ d :: B).length = R1.length := by rw [e1]
    have hl2 : R2.length = R1.length := by rw [e1, e2]; simp
    refine ⟨A, B, d, c, R1.length, by rw [← e1]; exact o1, by rw [← e2, ← hl2]; exact o2, hck.symm, hcg.symm, hl, ?_⟩
    rw [p1.length_eq, ← r2]
    exact hO2.many
  have HF2 := hide hG2
  have HO' := hide hO'
  have Hren2 := hide hren2
  have Hfx2 := hide hfx2
  have Hfx' := hide hfx'
  have Htw := hide htw
  clear hu9 hub HT HBk hpo hit hfx hl1 hl2 r1 r2 hck hcg hO hO2 hR2P hG2 hO' hren2 hfx2 hfx' htw
  go_wp2_with fail
  refine (unhide HU9).mono ?_
  rintro e w10 ⟨rfl, h10⟩
  have hrn := rename_calls W w10 fb mb N1 F1 next _ (unhide HR) h10 (unhide HG1).fits ((unhide HG1).million (by decide)) b a (by omega) (by omega)
  rw [unhide Hren2] at hrn
  simp only [errV] at hrn
  have HRn := hide hrn
  clear h10 HU9 hrn
  go_wp2_with fail
  refine (unhide HRn).mono ?_
  rintro e w11 ⟨rfl, h11⟩
  have hfa := fsFind_calls W w11 fb mb N F2 next _ (unhide HR) h11 (unhide HF2).fits a (by omega)
  rw [unhide Hfx2, findRetB_ok] at hfa
  have HFa := hide hfa
  clear h11 HRn hfa
  go_wp2_with fail
  refine (unhide HFa).mono ?_
  rintro e w12 ⟨rfl, h12⟩
  obtain ⟨X, hX⟩ : ∃ X, w12.heap.size = X := ⟨_, rfl⟩
  have h13 := h12.made 33 [.int .i64 x.id, .int .i64 x.kind, .int .i64 x.up, .int .i64 x.links, .string x.text]
  rw [hX] at h13
  obtain ⟨w13, hw13⟩ : ∃ w13, w12.alloc (.cells [.int .i64 x.id, .int .i64 x.kind, .int .i64 x.up, .int .i64 x.links, .string x.text].toArray 33) = w13 := ⟨_, rfl⟩
  rw [hw13] at h13
  have hw13' : w12.alloc (.cells #[.int .i64 x.id, .int .i64 x.kind, .int .i64 x.up, .int .i64 x.links, .string x.text] 33) = w13 := hw13
  obtain ⟨rs, hrs, h14⟩ := FSIn.swap (unhide HForF') (h13.perm gR_front)
  have hfg := fsFind_calls W w13 gb gm N' F' next _ (unhide HR) h14 (unhide HO').fits a (by omega)
  rw [unhide Hfx', findRetB_ok, (unhide Htw).id, (unhide Htw).kind, (unhide Htw).up, (unhide Htw).links, (unhide Htw).text] at hfg
  have HFg := hide hfg
  have Hrs := hide hrs
  clear h12 h13 h14 hfg hrs HFa hw13
  go_wp2_with fail
  refine (unhide HFg).mono ?_
  rintro e w15 ⟨rfl, h15⟩
  obtain ⟨Y, hY⟩ : ∃ Y, w15.heap.size = Y := ⟨_, rfl⟩
  have h16 := h15.made 33 [.int .i64 x.id, .int .i64 x.kind, .int .i64 x.up, .int .i64 x.links, .string x.text]
  rw [hY] at h16
  obtain ⟨w16, hw16⟩ : ∃ w16, w15.alloc (.cells [.int .i64 x.id, .int .i64 x.kind, .int .i64 x.up, .int .i64 x.links, .string x.text].toArray 33) = w16 := ⟨_, rfl⟩
  rw [hw16] at h16
  have hw16' : w15.alloc (.cells #[.int .i64 x.id, .int .i64 x.kind, .int .i64 x.up, .int .i64 x.links, .string x.text] 33) = w16 := hw16
  obtain ⟨y0, y1, y2, y3, y4⟩ := h16.five33 (b := Y) (.head _)
  obtain ⟨rs2, hrs2, h17⟩ := FSIn.swap (unhide Hrs) (h16.perm gR_front)
  obtain ⟨x0, x1, x2, x3, x4⟩ := h17.five33 (b := X) (a0 := .int .i64 x.id) (a1 := .int .i64 x.kind) (a2 := .int .i64 x.up) (a3 := .int .i64 x.links) (a4 := .string x.text) (by simp)
  have hrw := unhide HRows w16 _ rs2 hrs2 h17
  have HRw := hide hrw
  obtain ⟨xi, hxi⟩ : ∃ xi, x.id = xi := ⟨_, rfl⟩
  obtain ⟨xk, hxk⟩ : ∃ xk, x.kind = xk := ⟨_, rfl⟩
  obtain ⟨xu, hxu⟩ : ∃ xu, x.up = xu := ⟨_, rfl⟩
  obtain ⟨xl, hxl⟩ : ∃ xl, x.links = xl := ⟨_, rfl⟩
  obtain ⟨xt, hxt⟩ : ∃ xt, x.text = xt := ⟨_, rfl⟩
  rw [hxi] at x0 y0 hw16'
  rw [hxk] at x1 y1 hw16'
  rw [hxu] at x2 y2 hw16'
  rw [hxl] at x3 y3 hw16'
  rw [hxt] at x4 y4 hw16'
  rw [hxi, hxk, hxu, hxl, hxt]
  clear hrw h15 h16 h17 hrs2 HFg Hrs HRows HForF' HO' HF2 Hren2 Hfx2 Hfx' Htw HG HG1 hxi hxk hxu hxl hxt hw16
  go_wp2_with fail
  refine (unhide HRw).mono ?_
  rintro e w17 ⟨v1, rfl, ⟨q1, q2, q3, rfl⟩, hc2⟩
  have HC2 := hide hc2
  clear hc2 HRw
  go_wp2_with fail
  refine (unhide HC2).mono ?_
  rintro e w18 ⟨v2, rfl, ⟨q4, q5, q6, rfl⟩, hb, A, B, c2, d2, n, o1, o2, k1, k2, k3, k4⟩
  have hch := changes_calls o1 o2 k1 k2 k3 k4
  have HCh := hide hch
  have Hb := hide hb
  clear hch hb o1 o2 k1 k2 k3 k4 HC2
  go_wp2_with fail
  refine (unhide HCh).mono ?_
  rintro e w19 ⟨q7, m, q8, rfl, hm, hb19⟩
  have hmz : (m : Int) ≤ 1 := by omega
  have Hb2 : Hid (Below W.heap.size W w19) := (unhide Hb).trans (hb19.mono (unhide Hb).size)
  clear hb19 Hb HCh
  go_wp2_with fail
  go_ret
  exact ⟨by simp [hmz], unhide Hb2⟩
end Go.Proofs.YtjpmomklkkifjaaGreatDoor.T
