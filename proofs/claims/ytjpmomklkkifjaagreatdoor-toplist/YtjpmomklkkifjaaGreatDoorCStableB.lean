/-
  The contract of slices.SortStableFunc at up to a thousand marks, over the seat's program.
-/
import Derived.Test.YtjpmomklkkifjaaGreatDoorCStable
namespace Go.Proofs.YtjpmomklkkifjaaGreatDoor
open Go.RowKit Go.Sort Go.Lib
set_option maxRecDepth 100000
set_option linter.unusedVariables false

/-- Marks whose blocks of so many are sorted. -/
inductive Blk (bs : Nat) : List Int → List Int → Prop
  | last (l : List Int) : l.length < bs → Blk bs l (sortM l)
  | more (A B zs : List Int) : A.length = bs → Blk bs B zs → Blk bs (A ++ B) (sortM A ++ zs)
theorem Blk.split {bs : Nat} {R zs : List Int} (h : Blk bs R zs) (hl : bs ≤ R.length) : ∃ A B ys, R = A ++ B ∧ zs = sortM A ++ ys ∧ A.length = bs ∧ Blk bs B ys := by
  cases h with
  | last l h1 => omega
  | more A B ys h1 h2 => exact ⟨A, B, ys, rfl, rfl, h1, h2⟩
theorem Blk.all {bs : Nat} {R zs : List Int} (h : Blk bs R zs) (hb : 0 < bs) (hl : R.length ≤ bs) : zs = sortM R := by
  cases h with
  | last l h1 => rfl
  | more A B ys h1 h2 =>
    have hB : B = [] := List.eq_nil_of_length_eq_zero (by rw [List.length_append] at hl; omega)
    subst hB
    have : ys = [] := by
      generalize hN : ([] : List Int) = N at h2
      cases h2 with
      | last l h3 => rw [← hN]; rfl
      | more A2 B2 ys2 h3 h4 =>
        have := congrArg List.length hN
        rw [List.length_append] at this
        simp at this
        omega
    rw [this]; simp
theorem Blk.length {bs : Nat} {R zs : List Int} (h : Blk bs R zs) : zs.length = R.length := by
  induction h with
  | last l _ => exact sortM_length l
  | more A B zs _ _ ih => rw [List.length_append, List.length_append, sortM_length, ih]

set_option maxHeartbeats 2000000 in
theorem stable_big (w0 : World) (g cap : Nat) (tail : List Value) (ms : List Int) (w : World) (hM : ∀ a ∈ ms, Mark a) (hle : ms.length ≤ 1000) (h : RowAt w0 g tail ms w) :
    Calls Tryz.prog 178 #[.slice (some ⟨g, 0, none⟩) ms.length cap, .int .i64 ms.length, .func (.func 137) #[] #[]] w fun e w' =>
      e = .returned (.tuple #[]) ∧ RowAt w0 g tail (sortM ms) w' := by
  obtain ⟨n, hn⟩ : ∃ n, ms.length = n := ⟨_, rfl⟩
  rw [hn] at hle ⊢
  have HM := hide hM
  have H := hide h
  have Hn := hide hn
  have hnz : (n : Int) ≤ 1000 := by omega
  clear hM h hn
  go_enter Tryz.func178, Tryz.ntmps178
  go_wp2_with fail
  go_loopg [7, 8] (n + 1) (fun k va vb wr => ∃ (a b : Nat) (P R : List Int), n + 1 - a ≤ k ∧ a ≤ n ∧ va = .int .i64 a ∧ vb = .int .i64 b ∧ Hid (b = a + 20) ∧ Hid (P.length = a ∧ a + R.length = n ∧ (∀ r ∈ R, Mark r) ∧ ∀ ys, Blk 20 R ys → Blk 20 ms (P ++ ys)) ∧ Hid (RowAt w0 g tail (P ++ R) wr))
  case atStart => exact ⟨0, 20, [], ms, by omega, by omega, rfl, rfl, rfl, ⟨rfl, by rw [unhide Hn]; omega, unhide HM, fun ys hy => hy⟩, unhide H⟩
  case round =>
    obtain ⟨a, b, P, R, hk, han, rfl, rfl, Hb, HP, HW⟩ := hrel
    clear H
    by_cases hbn : b ≤ n
    · have hbz : (b : Int) ≤ (n : Int) := by omega
      obtain ⟨hp1, hp2, hp3, hp4⟩ := unhide HP
      have hbe := unhide Hb
      obtain ⟨A, B, hAB, hA⟩ : ∃ A B, R = A ++ B ∧ A.length = 20 := ⟨R.take 20, R.drop 20, by simp, by rw [List.length_take]; omega⟩
      have hMA : ∀ x ∈ A, Mark x := fun x hx => hp3 x (by rw [hAB]; simp [hx])
      have hMB : ∀ x ∈ B, Mark x := fun x hx => hp3 x (by rw [hAB]; simp [hx])
      have hlen : (P ++ A ++ B).length = n := by rw [List.append_assoc, ← hAB, List.length_append]; omega
      have hc := ins_row w0 g cap tail P A B wr hMA (by omega) (by rw [List.append_assoc, ← hAB]; exact unhide HW)
      rw [hlen, hp1, hA, ← hbe] at hc
      have Hnew : Hid ((P ++ sortM A).length = b ∧ b + B.length = n ∧ (∀ r ∈ B, Mark r) ∧ ∀ ys, Blk 20 B ys → Blk 20 ms ((P ++ sortM A) ++ ys)) := by
        refine ⟨by rw [List.length_append, sortM_length]; omega, ?_, hMB, fun ys hy => ?_⟩
        · have := congrArg List.length hAB
          rw [List.length_append] at this
          omega
        · rw [List.append_assoc]
          refine hp4 _ ?_
          rw [hAB]
          exact .more A B ys hA hy
      have Hab : Hid (a < b) := by show a < b; omega
      have HC := hide hc
      clear hp1 hp2 hp3 hp4 hbe hAB hA hMA hMB hlen hc HP HW Hb
      go_wp2_with fail
      refine (unhide HC).mono ?_
      rintro e w1 ⟨rfl, h1⟩
      have H1 := hide h1
      clear h1 HC
      go_wp2_with fail
      go_roundg (n - a)
      case measure => omega
      case rel => exact ⟨b, b + 20, P ++ sortM A, B, by have := unhide Hab; omega, hbn, rfl, by simp, rfl, Hnew, unhide H1⟩
    · have hbz : ¬ (b : Int) ≤ (n : Int) := by omega
      obtain ⟨hp1, hp2, hp3, hp4⟩ := unhide HP
      have hbe := unhide Hb
      have hc := ins_row w0 g cap tail P R [] wr hp3 (by rw [List.append_nil, List.length_append]; omega) (by rw [List.append_nil]; exact unhide HW)
      have hlen : (P ++ R ++ []).length = n := by rw [List.append_nil, List.length_append]; omega
      rw [hlen, hp1, hp2, List.append_nil] at hc
      have Hblk : Hid (Blk 20 ms (P ++ sortM R)) := hp4 _ (.last R (by omega))
      have HC := hide hc
      clear hp1 hp2 hp3 hp4 hbe hlen hc HP HW Hb
      go_wp2_with fail
      refine (unhide HC).mono ?_
      rintro e w1 ⟨rfl, h1⟩
      have H1 : Hid (∃ zs, Blk 20 ms zs ∧ RowAt w0 g tail zs w1) := ⟨_, unhide Hblk, h1⟩
      clear h1 HC Hblk hbz hbn han hk
      go_wp2_with fail
      go_loopg [6, 7, 8, 9] (n + 1) (fun k vs va vb vm wr => ∃ bs : Nat, n - bs < k ∧ 20 ≤ bs ∧ bs ≤ 2000 ∧ vs = .int .i64 bs ∧ Hid (∃ zs, Blk bs ms zs ∧ RowAt w0 g tail zs wr))
      case atStart => exact ⟨20, by omega, by omega, by omega, rfl, H1⟩
      case round =>
        obtain ⟨bs, hk, hbs, hbs2, rfl, HZ⟩ := hrel
        clear H1
        by_cases hlt : bs < n
        · have hltz : (bs : Int) < (n : Int) := by omega
          have hbsz : (20 : Int) ≤ (bs : Int) := by omega
          go_wp2_with fail
          go_loopg [7, 8] (n + 1) (fun k2 va vb wr2 => ∃ (a b : Nat) (P R zs : List Int), n + 1 - a ≤ k2 ∧ a ≤ n ∧ b ≤ 4000 ∧ va = .int .i64 a ∧ vb = .int .i64 b ∧ Hid (b = a + 2 * bs) ∧ Hid (P.length = a ∧ a + R.length = n ∧ (∀ r ∈ R, Mark r) ∧ Blk bs R zs ∧ ∀ ys, Blk (2 * bs) R ys → Blk (2 * bs) ms (P ++ ys)) ∧ Hid (RowAt w0 g tail (P ++ zs) wr2))
          case atStart =>
            obtain ⟨zs, hz1, hz2⟩ := unhide HZ
            exact ⟨0, 2 * bs, [], ms, zs, by omega, by omega, by omega, rfl, by simp, by show 2 * bs = 0 + 2 * bs; omega, ⟨rfl, by rw [unhide Hn]; omega, unhide HM, hz1, fun ys hy => hy⟩, hz2⟩
          case round =>
            obtain ⟨a, b, P, R, zs, hk2, han, hb4, rfl, rfl, Hb, HP, HW⟩ := hrel
            clear HZ
            by_cases hbn : b ≤ n
            · have hbz : (b : Int) ≤ (n : Int) := by omega
              have haz : (a : Int) ≤ 1000 := by omega
              obtain ⟨hp1, hp2, hp3, hp4, hp5⟩ := unhide HP
              have hbe := unhide Hb
              obtain ⟨A, R1, z1, rfl, rfl, hA, hB1⟩ := hp4.split (by omega)
              rw [List.length_append] at hp2
              obtain ⟨B, C, zc, rfl, rfl, hB, hC⟩ := hB1.split (by omega)
              rw [List.length_append] at hp2
              have hMA : ∀ x ∈ A, Mark x := fun x hx => hp3 x (by simp [hx])
              have hMB : ∀ x ∈ B, Mark x := fun x hx => hp3 x (by simp [hx])
              have hMC : ∀ x ∈ C, Mark x := fun x hx => hp3 x (by simp [hx])
              have hlA : (sortM A).length = bs := by rw [sortM_length]; exact hA
              have hlB : (sortM B).length = bs := by rw [sortM_length]; exact hB
              have hlC := hC.length
              have hc := (symMerge_all 1000).at (w0 := w0) (g := g) (cap := cap) (tail := tail) (P := P) (L := sortM A) (R := sortM B) (S := zc) (zs := P ++ (sortM A ++ (sortM B ++ zc))) (ys := (P ++ sortM (A ++ B)) ++ zc) (N := n) (a := a) (m := a + bs) (b := b) (by omega)
                (by intro e; rw [e] at hlA; simp at hlA; omega) (by intro e; rw [e] at hlB; simp at hlB; omega) (srt_sortM hMA) (srt_sortM hMB) (by simp only [List.length_append]; omega) (by omega) (by simp) (by rw [sortM_parts]) hp1 (by omega) (by omega) _ (unhide HW)
              rw [show ((a + bs : Nat) : Int) = (a : Int) + (bs : Int) by omega] at hc
              have Hnew : Hid ((P ++ sortM (A ++ B)).length = b ∧ b + C.length = n ∧ (∀ r ∈ C, Mark r) ∧ Blk bs C zc ∧ ∀ ys, Blk (2 * bs) C ys → Blk (2 * bs) ms ((P ++ sortM (A ++ B)) ++ ys)) := by
                refine ⟨by rw [List.length_append, sortM_length, List.length_append]; omega, by omega, hMC, hC, fun ys hy => ?_⟩
                rw [List.append_assoc]
                refine hp5 _ ?_
                rw [← List.append_assoc]
                exact .more (A ++ B) C ys (by rw [List.length_append]; omega) hy
              have Hab : Hid (a < b) := by show a < b; omega
              have HC := hide hc
              clear hp1 hp2 hp3 hp4 hp5 hbe hA hB hB1 hC hMA hMB hMC hlA hlB hlC hc HP HW Hb
              go_wp2_with fail
              refine (unhide HC).mono ?_
              rintro e w3 ⟨rfl, h3⟩
              have H3 := hide h3
              clear h3 HC
              go_wp2_with fail
              go_roundg (n - a)
              case measure => omega
              case rel => exact ⟨b, b + 2 * bs, P ++ sortM (A ++ B), C, zc, by have := unhide Hab; omega, hbn, by omega, rfl, by simp, rfl, Hnew, unhide H3⟩
            · have hbz : ¬ (b : Int) ≤ (n : Int) := by omega
              have haz : (a : Int) ≤ 1000 := by omega
              by_cases hm : a + bs < n
              · have hmz : (a : Int) + (bs : Int) < (n : Int) := by omega
                obtain ⟨hp1, hp2, hp3, hp4, hp5⟩ := unhide HP
                have hbe := unhide Hb
                obtain ⟨A, B, z1, rfl, rfl, hA, hB1⟩ := hp4.split (by omega)
                rw [List.length_append] at hp2
                have hz1 := hB1.all (by omega) (by omega)
                subst hz1
                have hMA : ∀ x ∈ A, Mark x := fun x hx => hp3 x (by simp [hx])
                have hMB : ∀ x ∈ B, Mark x := fun x hx => hp3 x (by simp [hx])
                have hlA : (sortM A).length = bs := by rw [sortM_length]; exact hA
                have hlB : (sortM B).length = B.length := sortM_length B
                have hc := (symMerge_all 1000).at (w0 := w0) (g := g) (cap := cap) (tail := tail) (P := P) (L := sortM A) (R := sortM B) (S := []) (zs := P ++ (sortM A ++ sortM B)) (ys := P ++ sortM (A ++ B)) (N := n) (a := a) (m := a + bs) (b := n) (by omega)
                  (by intro e; rw [e] at hlA; simp at hlA; omega) (by intro e; rw [e] at hlB; simp at hlB; omega) (srt_sortM hMA) (srt_sortM hMB) (by simp only [List.length_append]; omega) (by omega) (by simp) (by rw [sortM_parts]; simp) hp1 (by omega) (by omega) _ (unhide HW)
                rw [show ((a + bs : Nat) : Int) = (a : Int) + (bs : Int) by omega] at hc
                have Hnew : Hid (Blk (2 * bs) ms (P ++ sortM (A ++ B))) := hp5 _ (.last _ (by rw [List.length_append]; omega))
                have HC := hide hc
                clear hp1 hp2 hp3 hp4 hp5 hbe hA hB1 hMA hMB hlA hlB hc HP HW Hb
                go_wp2_with fail
                refine (unhide HC).mono ?_
                rintro e w3 ⟨rfl, h3⟩
                have H3 := hide h3
                clear h3 HC
                go_wp2_with fail
                go_roundg (n - bs)
                case measure => omega
                case rel => exact ⟨bs * 2, by omega, by omega, by omega, by simp, _, by rw [Nat.mul_comm]; exact unhide Hnew, unhide H3⟩
              · have hmz : ¬ (a : Int) + (bs : Int) < (n : Int) := by omega
                obtain ⟨hp1, hp2, hp3, hp4, hp5⟩ := unhide HP
                have hbe := unhide Hb
                have hz1 := hp4.all (by omega) (by omega)
                subst hz1
                have Hnew : Hid (Blk (2 * bs) ms (P ++ sortM R)) := hp5 _ (.last _ (by omega))
                clear hp1 hp2 hp3 hp4 hp5 hbe HP Hb
                go_wp2_with fail
                go_roundg (n - bs)
                case measure => omega
                case rel => exact ⟨bs * 2, by omega, by omega, by omega, by simp, _, by rw [Nat.mul_comm]; exact unhide Hnew, unhide HW⟩
        · have hltz : ¬ (bs : Int) < (n : Int) := by omega
          go_wp2_with fail
          go_end0
          obtain ⟨zs, hz1, hz2⟩ := unhide HZ
          refine ⟨rfl, ?_⟩
          rw [← hz1.all (by omega) (by rw [unhide Hn]; omega)]
          exact hz2

theorem sort_big (w0 : World) (g cap : Nat) (tail : List Value) (ms : List Int) (w : World) (hM : ∀ a ∈ ms, Mark a) (hle : ms.length ≤ 1000) (h : RowAt w0 g tail ms w) :
    Calls Tryz.prog 136 #[.slice (some ⟨g, 0, none⟩) ms.length cap, .func (.func 137) #[] #[]] w fun e w' =>
      e = .returned (.tuple #[]) ∧ RowAt w0 g tail (sortM ms) w' := by
  have hi := stable_big w0 g cap tail ms w hM hle h
  generalize sortM ms = T at *
  generalize ms.length = n at *
  clear h hM
  go_enter Tryz.func136, Tryz.ntmps136
  go_wp2_with fail
  refine hi.mono ?_
  rintro e w1 ⟨rfl, hr1⟩
  go_wp2
  go_end0
  exact ⟨rfl, hr1⟩

/-- THE SORT OF A ROW OF MARKS, up to a thousand. -/
theorem sort_owns3 (B : Nat) (ms : List Int) (v : Value) (w : World) (h : w.ownsRow B 21 1 v ms.length (ms.map (Value.int .i32))) (hm : ∀ a ∈ ms, Mark a) (hn : ms.length ≤ 1000) :
    Calls Tryz.prog 136 #[v, .func (.func 137) #[] #[]] w fun e w' => e = .returned (.tuple #[]) ∧ w'.ownsRow B 21 1 v ms.length ((sortM ms).map (Value.int .i32)) ∧ w.grownBy w' v.ownBlock := by
  by_cases h20 : ms.length < 20
  · exact sort_owns B ms v w h hm h20
  · rcases h.2 with ⟨_, hz⟩ | ⟨g, cap, cur, rfl, hbg, hgg, hnc, hcm, hcs, htake⟩
    · omega
    · rw [Nat.mul_one] at htake
      have hcur : cur = (ms.map (Value.int .i32) ++ cur.toList.drop ms.length).toArray := by
        rw [← htake, List.take_append_drop]
      have hR : RowAt w g (cur.toList.drop ms.length) ms w := ⟨by rw [hgg, ← hcur], ⟨rfl, rfl, rfl, Nat.le_refl _, fun _ _ _ => rfl⟩⟩
      refine (sort_big w g cap _ ms w hm hn hR).mono fun e w' ⟨he, hr⟩ => ⟨he, ?_, hr.grow⟩
      refine ⟨by rw [List.length_map, sortM_length]; omega, .inr ⟨g, cap, _, rfl, hbg, hr.blk, hnc, hcm, ?_, ?_⟩⟩
      · rw [← hcs]
        have h9 : cur.size = (ms.map (Value.int .i32) ++ cur.toList.drop ms.length).length := by
          rw [← List.size_toArray, ← hcur]
        rw [h9]
        simp [sortM_length]
      · rw [Nat.mul_one]
        simp [sortM_length]
end Go.Proofs.YtjpmomklkkifjaaGreatDoor
