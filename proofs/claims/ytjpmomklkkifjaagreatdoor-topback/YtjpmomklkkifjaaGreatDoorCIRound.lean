/-
  The contract of up: does a path go up, or stay? A folder that is to go into itself. Plain facts.
-/
import Derived.Test.YtjpmomklkkifjaaGreatDoorCFWalk
import Derived.Test.YtjpmomklkkifjaaGreatDoorCISort
import Derived.Test.YtjpmomklkkifjaaGreatDoorCFRename
namespace Go.Proofs.YtjpmomklkkifjaaGreatDoor.T
open Go.RowKit
set_option maxRecDepth 100000
set_option linter.unusedVariables false
set_option linter.unusedSimpArgs false

def dotsB (p : ByteArray) : Bool := p.toList == [46] || p.toList == [46, 46]
noncomputable def upP (s : ByteArray) : Bool := match partsP s with
  | .error _ => true
  | .ok l => l.any dotsB

set_option maxHeartbeats 4000000 in
theorem up_calls (s : ByteArray) (w : World) (hR : Ready w) (hs : s.size ≤ 4000000000) :
    Calls Tryz.prog 29 #[.string s] w fun e w' => e = .returned (.bool (upP s)) ∧ Below w.heap.size w w' := by
  have hP := parts_calls s w hR hs
  have Hup : Hid (upP s = match partsP s with | .error _ => true | .ok l => l.any dotsB) := rfl
  have Hpo : Hid (∀ l, partsP s = .ok l → (∀ p ∈ l, PartOk p) ∧ l.length ≤ 6) := fun l hl => parts_ok hl
  clear hR hs
  unfold PartsEnd at hP
  cases hr : partsP s with
  | error k =>
    rw [hr] at hP Hup
    have HP := hide hP
    clear hP hr Hpo
    go_enter Tryz.func29, Tryz.ntmps29
    go_wp2_with fail
    refine (unhide HP).mono ?_
    rintro e w2 ⟨hb2, rfl⟩
    have Hb := hide hb2
    clear hb2 HP
    go_wp2_with fail
    go_ret
    exact ⟨by rw [unhide Hup]; rfl, unhide Hb⟩
  | ok l =>
    rw [hr] at hP Hup
    have hle := (unhide Hpo l hr).2
    clear Hpo hr
    cases l with
    | nil =>
      have HP := hide hP
      clear hP hle
      go_enter Tryz.func29, Tryz.ntmps29
      go_wp2_with fail
      refine (unhide HP).mono ?_
      rintro e w2 ⟨hb2, rfl⟩
      have Hb := hide hb2
      clear hb2 HP
      go_wp2_with fail
      go_loopg [5] 1 (fun k vi wr => vi = .int .i64 0 ∧ wr = w2)
      case atStart => exact ⟨rfl, rfl⟩
      case round =>
        obtain ⟨rfl, rfl⟩ := hrel
        go_wp2_with fail
        go_ret
        exact ⟨by rw [unhide Hup]; rfl, unhide Hb⟩
    | cons p0 l0 =>
      obtain ⟨l, hl⟩ : ∃ l, p0 :: l0 = l := ⟨_, rfl⟩
      obtain ⟨n, hn⟩ : ∃ n, l0.length + 1 = n := ⟨_, rfl⟩
      have hln : l.length = n := by rw [← hl, ← hn]; rfl
      have hn6 : n ≤ 6 := by rw [← hln, ← hl]; exact hle
      simp only at hP Hup
      rw [hl, hn] at hP
      rw [hl] at Hup
      have HP := hide hP
      have Hln := hide hln
      clear hP hle hl hn hln
      go_enter Tryz.func29, Tryz.ntmps29
      go_wp2_with fail
      refine (unhide HP).mono ?_
      rintro e w2 ⟨hb2, b, rfl, hbw, hbk⟩
      have Hb := hide hb2
      have Hk := hide hbk
      clear hb2 hbk HP
      go_wp2_with fail
      go_loopg [5] (n + 1) (fun k vi wr => ∃ j : Nat, n - j < k ∧ j ≤ n ∧ vi = .int .i64 j ∧ wr = w2 ∧ Hid (upP s = (l.drop j).any dotsB))
      case atStart => exact ⟨0, by omega, by omega, rfl, rfl, Hup⟩
      case round =>
        obtain ⟨j, hk, hj, rfl, rfl, HU⟩ := hrel
        clear Hup
        by_cases hjn : j < n
        · have hjz : (j : Int) < (n : Int) := by omega
          have hjl : j < l.length := by rw [unhide Hln]; exact hjn
          obtain ⟨p, hp⟩ : ∃ p, l[j]? = some p := ⟨l[j]'hjl, by simp [hjl]⟩
          have c0 : wr.cell? ⟨b, j, none⟩ = some (.string p) := by
            rw [cell_of_row _ _ j _ 9 (0, 0) (unhide Hk)]
            simp [hp]
          have hd : (l.drop j).any dotsB = (dotsB p || (l.drop (j + 1)).any dotsB) := by
            rw [List.drop_eq_getElem_cons hjl, List.any_cons]
            congr 2
            have := List.getElem?_eq_getElem hjl
            rw [hp] at this
            exact (Option.some.inj this).symm
          have Hd := hide hd
          clear hd hp hjl
          cases h1 : (p.toList == [46]) with
          | true =>
            have HX : Hid (dotsB p = true) := by show _ = _; unfold dotsB; rw [h1]; rfl
            go_wp2_with fail
            go_ret
            exact ⟨by rw [unhide HU, unhide Hd, unhide HX]; rfl, unhide Hb⟩
          | false =>
            cases h2 : (p.toList == [46, 46]) with
            | true =>
              have HX : Hid (dotsB p = true) := by show _ = _; unfold dotsB; rw [h1, h2]; rfl
              go_wp2_with fail
              go_ret
              exact ⟨by rw [unhide HU, unhide Hd, unhide HX]; rfl, unhide Hb⟩
            | false =>
              have HX : Hid (dotsB p = false) := by show _ = _; unfold dotsB; rw [h1, h2]; rfl
              go_wp2_with fail
              go_roundg (n - j)
              case measure => omega
              case rel => exact ⟨j + 1, by omega, by omega, by simp, rfl, show _ = _ by rw [unhide HU, unhide Hd, unhide HX]; rfl⟩
        · have hjz : ¬ (j : Int) < (n : Int) := by omega
          have hdn : l.drop j = [] := List.drop_eq_nil_of_le (by have := unhide Hln; omega)
          have Hdn := hide hdn
          clear hdn
          go_wp2_with fail
          go_ret
          exact ⟨by rw [unhide HU, unhide Hdn]; rfl, unhide Hb⟩
end Go.Proofs.YtjpmomklkkifjaaGreatDoor.T
namespace Go.Proofs.YtjpmomklkkifjaaGreatDoor.T
open Go.RowKit
set_option maxRecDepth 100000
set_option linter.unusedVariables false
set_option linter.unusedSimpArgs false

theorem partsE_err {s : ByteArray} {w : World} (hR : Ready w) (hs : s.size ≤ 4000000000) {k : Int} (h : partsP s = .error k) : Calls Tryz.prog 20 #[.string s] w fun e w' => e = .returned (.tuple #[.slice none 0 0, .iface 86 (.int .i64 k)]) ∧ Below w.heap.size w w' :=
  (parts_calls s w hR hs).mono fun e w' ⟨hb, hE⟩ => by rw [h] at hE; exact ⟨hE, hb⟩
theorem partsE_fine {s : ByteArray} {w : World} (hR : Ready w) (hs : s.size ≤ 4000000000) {l : List ByteArray} (h : partsP s = .ok l) : Calls Tryz.prog 20 #[.string s] w fun e w' => ∃ p n c, e = .returned (.tuple #[.slice p n c, .nilIface]) ∧ Below w.heap.size w w' :=
  (parts_calls s w hR hs).mono fun e w' ⟨hb, hE⟩ => by
    rw [h] at hE
    cases l with
    | nil => exact ⟨_, _, _, hE, hb⟩
    | cons p l =>
      obtain ⟨b, he, _⟩ := hE
      exact ⟨_, _, _, he, hb⟩
theorem cutS_snoc {b : List UInt8} (hb : (47 : UInt8) ∉ b) : ∀ l : List UInt8, cutS (l ++ 47 :: b) = cutS l ++ [b]
  | [] => by simp [cutS, cutS_none hb]
  | c :: l => by
    have ih := cutS_snoc hb l
    rw [List.cons_append]
    unfold cutS
    split
    · rw [ih]; rfl
    · rw [ih]
      cases hc : cutS l with
      | nil => exact absurd hc (cutS_ne l)
      | cons a t => rfl
theorem walkP_snoc {N : List NV} {F : Forest} (p : ByteArray) : ∀ (l : List ByteArray) (v : NV), walkP N F v (l ++ [p]) = match walkP N F v l with | .error k => .error k | .ok u => stepP N F u p
  | [], v => by
    show (match stepP N F v p with | .ok u => walkP N F u [] | .error k => .error k) = stepP N F v p
    cases stepP N F v p <;> rfl
  | q :: l, v => by
    show (match stepP N F v q with | .ok u => walkP N F u (l ++ [p]) | .error k => .error k) = match (match stepP N F v q with | .ok u => walkP N F u l | .error k => .error k) with | .error k => .error k | .ok u => stepP N F u p
    cases stepP N F v q with
    | error k => rfl
    | ok u => exact walkP_snoc p l u
theorem last_split {α : Type} (p : α) (l : List α) : p :: l = (p :: l).take l.length ++ [(p :: l).getLast (by simp)] := by
  have h := List.dropLast_concat_getLast (l := p :: l) (by simp)
  rw [List.dropLast_eq_take] at h
  simp only [List.length_cons, Nat.add_sub_cancel] at h
  exact h.symm
theorem step_name {N : List NV} {F : Forest} {v : NV} {p : ByteArray} (hd : Go.Proofs.YtjpmomklkkifjaaGreatDoor.dotsB p = false) {u : NV} (h : stepP N F v p = .ok u) : v.kind = 1 ∧ ∃ it, getL (entsOf F v) (keyS p) = some it ∧ u = atN N it.node := by
  unfold Go.Proofs.YtjpmomklkkifjaaGreatDoor.dotsB at hd
  rw [Bool.or_eq_false_iff] at hd
  unfold stepP at h
  split at h
  · cases h
  rename_i hk
  rw [if_neg (by rw [hd.1]; simp), if_neg (by rw [hd.2]; simp)] at h
  refine ⟨by omega, ?_⟩
  cases hg : getL (entsOf F v) (keyS p) with
  | none => rw [hg] at h; cases h
  | some it => rw [hg] at h; cases h; exact ⟨it, rfl, rfl⟩
theorem taken_of_find {N : List NV} {F : Forest} {s : ByteArray} {p : ByteArray} {l : List ByteArray} (hs : partsP s = .ok (p :: l)) (hd : ∀ q ∈ p :: l, Go.Proofs.YtjpmomklkkifjaaGreatDoor.dotsB q = false) {u : NV} (h : findP N F s = .ok u) :
    ∃ g it, takenP N F s = .ok (g, it) ∧ u = atN N it.node := by
  have hlast := hd ((p :: l).getLast (by simp)) (List.getLast_mem _)
  have h2 : findP N F s = walkP N F (atN N 1) (p :: l) := by unfold findP; rw [hs]
  rw [h2, last_split p l, walkP_snoc] at h
  cases hw : walkP N F (atN N 1) ((p :: l).take l.length) with
  | error k => rw [hw] at h; cases h
  | ok v =>
    rw [hw] at h
    simp only at h
    obtain ⟨hk, it, hg, hu⟩ := step_name hlast h
    have hpl : placeP N F s = .ok ⟨v, keyS ((p :: l).getLast (by simp)), (p :: l).getLast (by simp)⟩ := by
      unfold placeP
      rw [hs]
      simp only
      rw [if_neg (by rw [hlast]; simp), hw]
      simp only
      rw [if_neg (by omega)]
    refine ⟨⟨v, keyS ((p :: l).getLast (by simp)), (p :: l).getLast (by simp)⟩, it, ?_, hu⟩
    unfold takenP
    rw [hpl]
    simp only
    rw [hg]
theorem up_parts {s : ByteArray} (h : upP s = false) : ∃ l, partsP s = .ok l ∧ ∀ q ∈ l, Go.Proofs.YtjpmomklkkifjaaGreatDoor.dotsB q = false := by
  unfold upP at h
  cases hp : partsP s with
  | error k => rw [hp] at h; cases h
  | ok l =>
    rw [hp] at h
    refine ⟨l, rfl, fun q hq => ?_⟩
    have h1 := List.any_eq_false.1 h q hq
    exact eq_false_of_ne_true h1
theorem no47 {s : ByteArray} (h : checkP s = none) : (47 : UInt8) ∉ s.data.toList := by
  obtain ⟨hn, e, _⟩ := name_of_check h
  rw [e]
  have h1 := encL_no47 (Name.no47 hn)
  simpa [encS] using h1
theorem parts_more {s t r : ByteArray} {l l1 : List ByteArray} (hl : l ≠ []) (hs : partsP s = .ok l) (hr : checkP r = none) (ht : t.data.toList = s.data.toList ++ 47 :: r.data.toList) (h1 : partsP t = .ok l1) : l1 = l ++ [r] := by
  rcases partsP_ok hs with ⟨_, h⟩ | ⟨t0, e0, _, m0⟩
  · exact absurd h hl
  · rcases partsP_ok h1 with ⟨e1, _⟩ | ⟨t1, e1, _, m1⟩
    · rw [ht, e0] at e1
      simp at e1
    · rw [ht, e0] at e1
      simp only [List.cons_append, List.cons.injEq, true_and] at e1
      rw [← e1, cutS_snoc (no47 hr), ← m0] at m1
      exact data_inj (by rw [m1]; simp)
theorem round_rename {N : List NV} {F : Forest} {s t r : ByteArray} {u : NV} (hN : N ≠ []) (hup : upP s = false) (hsl : s.data.toList ≠ [47]) (hf : findP N F s = .ok u) (hk : u.kind = 1) (hr : checkP r = none) (ht : t.data.toList = s.data.toList ++ 47 :: r.data.toList) :
    renameP N F s t = (some (match partsP t with | .error k => k | .ok _ => 8), N, F) := by
  obtain ⟨l, hs, hd⟩ := up_parts hup
  have hl : l ≠ [] := by
    rcases partsP_ok hs with ⟨e, _⟩ | ⟨t0, _, _, m0⟩
    · exact absurd e hsl
    · rintro rfl
      exact cutS_ne t0 m0.symm
  obtain ⟨p, l', rfl⟩ : ∃ p l', l = p :: l' := by cases l with | nil => exact absurd rfl hl | cons p l' => exact ⟨p, l', rfl⟩
  obtain ⟨g, it, htk, hu⟩ := taken_of_find hs hd hf
  have hfs : findP N F s = walkP N F (atN N 1) (p :: l') := by unfold findP; rw [hs]
  unfold renameP
  rw [htk]
  simp only
  cases h1 : partsP t with
  | error k =>
    have : placeP N F t = .error k := by unfold placeP; rw [h1]
    rw [this]
  | ok l1 =>
    have e1 := parts_more hl hs hr ht h1
    subst e1
    have hdr := (name_of_check hr).2.2
    have hlast : ((p :: l') ++ [r]).getLast (by simp) = r := List.getLast_concat
    have htake : ((p :: l') ++ [r]).take (l' ++ [r]).length = p :: l' := by
      rw [show (l' ++ [r]).length = (p :: l').length by simp, List.take_left' rfl]
    have hpl : placeP N F t = .ok ⟨u, keyS r, r⟩ := by
      unfold placeP
      rw [h1]
      show (if Go.Proofs.YtjpmomklkkifjaaGreatDoor.dotsB (((p :: l') ++ [r]).getLast (by simp)) = true then .error 3 else match walkP N F (atN N 1) (((p :: l') ++ [r]).take (l' ++ [r]).length) with | .error k => .error k | .ok u => if u.kind ≠ 1 then .error 7 else .ok ⟨u, keyS (((p :: l') ++ [r]).getLast (by simp)), ((p :: l') ++ [r]).getLast (by simp)⟩ : Except Int PL) = _
      rw [hlast, htake, ← hfs, hf, if_neg (by rw [hdr]; simp)]
      simp only
      rw [if_neg (by omega)]
    rw [hpl]
    simp only
    unfold goesP
    rw [← hu]
    have hw : withinP N N.length u.id u.id = true := by
      cases hn : N.length with
      | zero => exact absurd (List.eq_nil_of_length_eq_zero hn) hN
      | succ n => simp [withinP]
    rw [if_pos (by simp only; rw [hw, hk]; rfl)]
end Go.Proofs.YtjpmomklkkifjaaGreatDoor.T
