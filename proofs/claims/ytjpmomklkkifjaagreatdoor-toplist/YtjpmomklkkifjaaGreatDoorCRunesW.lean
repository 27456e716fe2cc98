/-
  The argument 'acts' as it is read: what its cells hold. A text as a slice of signs, and back; the contract of the law's own function 'swapped', over the seat's program. A text as a slice of signs, and back, of signs of any bytes; the contracts of swapped and alikePath.
-/
import Derived.Test.YtjpmomklkkifjaaGreatDoorCFClosed
import Derived.ChangeSlices
import Derived.ChangeArms
import Derived.Deep.Slices
import Derived.OpenShut
import Derived.ProofKit
import Derived.Test.YtjpmomklkkifjaaGreatDoorCFoldW
import Derived.Laws.Cover4
import Derived.Laws.IdiomStrings
import Derived.Outline
import Derived.Test.YtjpmomklkkifjaaGreatDoorCPlainW
namespace Go.Proofs.YtjpmomklkkifjaaGreatDoor.T
open Go.ChangeShapes Go.WideShapes Go.RowKit Go.Deep
set_option maxRecDepth 100000
set_option linter.unusedVariables false
set_option linter.unusedSimpArgs false

theorem cells68 : Tryz.prog.cellsOf 69 = 3 := by kernel_rfl
theorem cells31 : Tryz.prog.cellsOf 64 = 6 := by kernel_rfl
theorem cells9 : Tryz.prog.cellsOf 9 = 1 := by kernel_rfl
theorem cells3 : Tryz.prog.cellsOf 3 = 1 := by kernel_rfl
theorem cells28 : Tryz.prog.cellsOf 62 = 1 := by kernel_rfl
theorem cells29 : Tryz.prog.cellsOf 54 = 1 := by kernel_rfl
theorem cells4 : Tryz.prog.cellsOf 4 = 1 := by kernel_rfl

section
variable {H : Type} {enc : TypeId × Value → H} {W : World} {base : Nat} {held : Bool}

theorem ch_open {fuel : Nat} {v : Value} {x : DataW H × List MemPlace} (h : DataW.trod enc Tryz.prog W base (fun _ => true) held fuel 54 [v] = some x) : ChOk W v := by
  rcases open_slice Tryz.underlying54 h with ⟨h0, _⟩ | ⟨a, len, cap, m, n, D, Pl, hcs, hb, hl, hm, hmm, _, hx⟩
  · simp only [List.cons.injEq, and_true] at h0
    exact .inl ⟨none, 0, h0⟩
  · simp only [List.cons.injEq, and_true] at hcs
    simp only [if_true] at hmm
    rcases Nat.eq_zero_or_pos cap with h0 | h0
    · obtain rfl : len = 0 := by omega
      exact .inl ⟨_, _, hcs⟩
    · obtain ⟨b, o, spot⟩ := a
      have hsp : spot = none := by
        obtain ⟨cs', h1, _⟩ := hx 0 (by omega)
        rw [cells68] at h1
        obtain ⟨_, hlen, hcell⟩ := World.cells?_some h1
        have := hcell 0 (by omega)
        rw [List.getElem?_eq_getElem (by omega)] at this
        simpa [Addr.add] using World.cell?_spot this
      subst hsp
      refine .inr ⟨b, o, len, cap, hcs, by unfold maxLen at hm; omega, fun j hj => ?_⟩
      obtain ⟨cs', h1, h2⟩ := hx j (by omega)
      rw [cells68] at h1
      obtain ⟨_, hlen, hcell⟩ := World.cells?_some h1
      obtain ⟨xs, k, hk, _, _, hxl, hf⟩ := DataW.trod_struct Tryz.underlying69 h2
      match xs, hxl, cs', hlen with
      | [y0, y1, y2], _, [u0, u1, u2], _ =>
        have g0 := hf 0 _ rfl
        have g1 := hf 1 _ rfl
        simp [cells9] at g0 g1
        obtain ⟨s0, e0, _⟩ := DataW.trod_string Tryz.underlying9 g0
        obtain ⟨s1, e1, _⟩ := DataW.trod_string Tryz.underlying9 g1
        simp at e0 e1
        subst e0 e1
        have c0 := hcell 0 (by omega)
        have c1 := hcell 1 (by omega)
        rw [add_add] at c0 c1
        rw [Addr.add_lit] at c0 c1
        exact ⟨s0, s1, by simpa using c0, by simpa [Nat.add_assoc] using c1⟩

instance : Inhabited ActD := ⟨⟨⟨#[]⟩, ⟨#[]⟩, ⟨#[]⟩, 0, .slice none 0 0⟩⟩

theorem acts_open {v : Value} {d : DataW H} {ps : List MemPlace} (hval : ∃ a len cap, v = .slice a len cap) (h : DataW.Trod enc Tryz.prog W base (fun _ => true) held 22 v d ps) : ∃ n f, ActsOk W v n f := by
  obtain ⟨fuel, h⟩ := h
  obtain ⟨a0, l0, c0, rfl⟩ := hval
  rcases open_slice Tryz.underlying22 h with ⟨h0, _⟩ | ⟨a, len, cap, m, n, D, Pl, hcs, hb, hl, hm, hmm, _, hx⟩
  · simp only [Value.cells, List.cons.injEq, and_true] at h0
    exact ⟨0, default, .inl ⟨⟨none, 0, h0⟩, rfl⟩⟩
  · simp only [Value.cells, List.cons.injEq, and_true] at hcs
    simp only [if_true] at hmm
    rcases Nat.eq_zero_or_pos cap with h0 | h0
    · obtain rfl : len = 0 := by omega
      exact ⟨0, default, .inl ⟨⟨_, _, hcs⟩, rfl⟩⟩
    · obtain ⟨b, o, spot⟩ := a
      have hsp : spot = none ∧ b < W.heap.size := by
        obtain ⟨cs', h1, _⟩ := hx 0 (by omega)
        rw [cells31] at h1
        obtain ⟨_, hlen, hcell⟩ := World.cells?_some h1
        have := hcell 0 (by omega)
        rw [List.getElem?_eq_getElem (by omega)] at this
        exact ⟨by simpa [Addr.add] using World.cell?_spot this, by have h2 := World.block_lt_of_cell? _ _ this; simpa [Addr.add] using h2⟩
      obtain ⟨rfl, hlt⟩ := hsp
      have each : ∀ j, j < len → ∃ q : ActD, W.cell? ⟨b, o + j * 6, none⟩ = some (.string q.kind) ∧ W.cell? ⟨b, o + j * 6 + 1, none⟩ = some (.string q.s) ∧ W.cell? ⟨b, o + j * 6 + 2, none⟩ = some (.string q.t) ∧ W.cell? ⟨b, o + j * 6 + 3, none⟩ = some (.int .i64 q.n) ∧ (∃ u, W.cell? ⟨b, o + j * 6 + 4, none⟩ = some (.int .u64 u)) ∧ W.cell? ⟨b, o + j * 6 + 5, none⟩ = some q.ch ∧ ChOk W q.ch := by
        intro j hj
        obtain ⟨cs', h1, h2⟩ := hx j (by omega)
        rw [cells31] at h1
        obtain ⟨_, hlen, hcell⟩ := World.cells?_some h1
        obtain ⟨xs, k, hk, _, _, hxl, hf⟩ := DataW.trod_struct Tryz.underlying64 h2
        match xs, hxl, cs', hlen with
        | [y0, y1, y2, y3, y4, y5], _, [u0, u1, u2, u3, u4, u5], _ =>
          have g0 := hf 0 _ rfl
          have g1 := hf 1 _ rfl
          have g2 := hf 2 _ rfl
          have g3 := hf 3 _ rfl
          have g4 := hf 4 _ rfl
          have g5 := hf 5 _ rfl
          simp [cells9, cells3, cells28, cells29] at g0 g1 g2 g3 g4 g5
          obtain ⟨s0, e0, _⟩ := DataW.trod_string Tryz.underlying9 g0
          obtain ⟨s1, e1, _⟩ := DataW.trod_string Tryz.underlying9 g1
          obtain ⟨s2, e2, _⟩ := DataW.trod_string Tryz.underlying9 g2
          obtain ⟨s3, e3, _⟩ := DataW.trod_int Tryz.underlying3 g3
          obtain ⟨s4, e4, _⟩ := DataW.trod_int Tryz.underlying62 g4
          simp at e0 e1 e2 e3 e4
          subst e0 e1 e2 e3 e4
          have c0 := hcell 0 (by omega)
          have c1 := hcell 1 (by omega)
          have c2 := hcell 2 (by omega)
          have c3 := hcell 3 (by omega)
          have c4 := hcell 4 (by omega)
          have c5 := hcell 5 (by omega)
          rw [add_add, Addr.add_lit] at c0 c1 c2 c3 c4 c5
          exact ⟨⟨s0, s1, s2, s3, u5⟩, by simpa using c0, by simpa [Nat.add_assoc] using c1, by simpa [Nat.add_assoc] using c2, by simpa [Nat.add_assoc] using c3, ⟨s4, by simpa [Nat.add_assoc] using c4⟩, by simpa [Nat.add_assoc] using c5, ch_open g5⟩
      obtain ⟨f, hf⟩ := choose_lt each
      exact ⟨len, f, .inr ⟨b, o, cap, hcs, by unfold maxLen at hm; omega, hlt, hf⟩⟩
end

end Go.Proofs.YtjpmomklkkifjaaGreatDoor.T
namespace Go.Proofs.YtjpmomklkkifjaaGreatDoor
open Go.RowKit
set_option maxRecDepth 100000

theorem encode_small {r : Int} (h : SmallR r) : Utf8.encode r = ⟨(Lib.encodeRune r).toArray⟩ := by
  have h0 := h.1
  have h2 := h.2
  have hv : Utf8.valid r = true := by
    unfold Utf8.valid
    simp
    omega
  unfold Utf8.encode
  rw [hv]
  simp only [if_true]
  rcases Int.lt_or_le r 128 with h1 | h1
  · rw [if_pos (by omega), enc_one h.1 h1]
  · rw [if_neg (by omega), if_pos (by omega), enc_two h1 h.2]
    have e0 : 192 + r.toNat / 64 = (192 + r / 64).toNat := by omega
    have e1 : 128 + r.toNat % 64 = (128 + r % 64).toNat := by omega
    rw [e0, e1]

theorem runes_fold : ∀ (ns : List Int) (s : ByteArray), (∀ r ∈ ns, SmallR r) → ns.foldl (fun r n => r ++ Utf8.encode n) s = ⟨(s.data.toList ++ encL ns).toArray⟩
  | [], s, _ => by simp [encL]
  | n :: ns, s, h => by
    rw [List.foldl_cons, runes_fold ns _ (fun r hr => h r (by simp [hr])), encode_small (h n (by simp)), encL_cons]
    simp
theorem runesBytes_enc (ns : List Int) (h : ∀ r ∈ ns, SmallR r) : runesBytes ns = encS ns := by
  unfold runesBytes
  rw [runes_fold ns _ h]
  rfl

theorem runesFrom_enc (rs : List Int) (hs : ∀ r ∈ rs, SmallR r) : ∀ (rest done : List Int) (f : Nat) (acc : Array Value), rs = done ++ rest → rest.length ≤ f → Conv.runesFrom (encS rs) f (encL done).length acc = acc ++ (rest.map (Value.int .i32)).toArray
  | [], done, f, acc, h, _ => by
    have hn : ¬ (encL done).length < (encS rs).size := by rw [encS_size, h, List.append_nil]; omega
    cases f with
    | zero => simp [Conv.runesFrom]
    | succ f =>
      unfold Conv.runesFrom
      rw [if_neg hn]
      simp
  | r :: rest, done, 0, _, h, hf => by simp at hf
  | r :: rest, done, f + 1, acc, h, hf => by
    have hr := hs r (by rw [h]; simp)
    have hp : (encL done).length < (encS rs).size := by
      rw [encS_size, h, encL_append, encL_cons, List.length_append, List.length_append]
      have := enc_pos hr
      omega
    have hd : Utf8.decode (encS rs) (encL done).length = (r.toNat, (Lib.encodeRune r).length) := by
      rw [h]
      exact decode_at done r rest hr
    have e : (encL done).length + (Lib.encodeRune r).length = (encL (done ++ [r])).length := by rw [encL_append, encL_one, List.length_append]
    unfold Conv.runesFrom
    rw [if_pos hp, hd]
    simp only
    rw [e, runesFrom_enc rs hs rest (done ++ [r]) f _ (by rw [h]; simp) (by simpa using hf)]
    have e2 : Int.ofNat r.toNat = r := Int.toNat_of_nonneg hr.1
    rw [e2]
    simp
theorem runes_enc (rs : List Int) (hs : ∀ r ∈ rs, SmallR r) : Conv.runesFrom (encS rs) (encS rs).size 0 #[] = (rs.map (Value.int .i32)).toArray := by
  have h := runesFrom_enc rs hs rs [] (encS rs).size #[] rfl (by rw [encS_size]; exact (encL_len rs hs).1)
  rw [show (encL []).length = 0 from rfl] at h
  rw [h]
  simp

/-- A text becomes a row of its signs, with room behind it. -/
theorem convert_runes (rs : List Int) (w : World) (hs : ∀ r ∈ rs, SmallR r) (hl : rs.length ≤ 1000) :
    ∃ cap, rs.length ≤ cap ∧ (convert 9 93 (.string (encS rs))).run Tryz.prog w = .ok (.slice (some ⟨w.heap.size, 0, none⟩) rs.length cap) (w.drew.alloc (.cells ((rs.map (Value.int .i32)).toArray ++ Array.replicate (cap - rs.length) (.int .i32 0)) 21)) := by
  have h := run_runes_of_string (P := Tryz.prog) w 9 93 21 (encS rs) Tryz.underlying9 Tryz.underlying93 Tryz.underlying21 (by rw [runes_enc rs hs]; simp; omega)
  rw [runes_enc rs hs] at h
  have e : (rs.map (Value.int .i32)).toArray.size = rs.length := by simp
  rw [e] at h
  exact ⟨_, grownCap_ge w rs.length 0 21, h⟩

/-- A row of signs becomes a text. -/
theorem convert_back (zs : List Int) (w : World) (g cap : Nat) (hs : ∀ r ∈ zs, SmallR r) (hc : ∀ j, j < zs.length → w.cell? ⟨g, j, none⟩ = some (.int .i32 (zs.getD j 0))) :
    (convert 93 9 (.slice (some ⟨g, 0, none⟩) zs.length cap)).run Tryz.prog w = .ok (.string (encS zs)) w := by
  have h := run_convert_runes (P := Tryz.prog) w 93 9 21 ⟨g, 0, none⟩ zs.length cap zs (Nat.le_refl _) Tryz.underlying93 Tryz.underlying21 Tryz.underlying9 (fun j hj => by rw [add_addr]; exact hc j hj)
  rw [List.take_length, runesBytes_enc zs hs] at h
  exact h

/-- The row as far as it is turned. -/
def swapRow (rs : List Int) (j : Nat) : List Int := (rs.take j).map swapZ ++ rs.drop j

theorem swapRow_at {rs : List Int} {j : Nat} (hj : j < rs.length) : (swapRow rs j)[j]? = rs[j]? := by
  unfold swapRow
  rw [List.getElem?_append_right (by simp; omega)]
  simp [Nat.min_eq_left (Nat.le_of_lt hj)]
theorem swapRow_len (rs : List Int) (j : Nat) (hj : j ≤ rs.length) : (swapRow rs j).length = rs.length := by
  unfold swapRow
  simp
  omega
theorem swapRow_next {rs : List Int} {j : Nat} {x : Int} (hx : rs[j]? = some x) : swapRow rs (j + 1) = (swapRow rs j).set j (swapZ x) := by
  have hj : j < rs.length := (List.getElem?_eq_some_iff.1 hx).1
  unfold swapRow
  rw [List.set_append_right _ _ (by simp; omega)]
  have e1 : j - ((rs.take j).map swapZ).length = 0 := by simp; omega
  have e2 : rs.drop j = x :: rs.drop (j + 1) := by
    rw [List.drop_eq_getElem_cons hj]
    congr 1
    have := List.getElem?_eq_getElem hj
    rw [hx] at this
    exact (Option.some.inj this).symm
  rw [e1, e2, List.set_cons_zero, List.take_add_one, hx, List.map_append]
  simp
theorem swapRow_same {rs : List Int} {j : Nat} {x : Int} (hx : rs[j]? = some x) (h : swapZ x = x) : swapRow rs (j + 1) = swapRow rs j := by
  rw [swapRow_next hx, h]
  have hj : j < rs.length := (List.getElem?_eq_some_iff.1 hx).1
  apply List.ext_getElem?
  intro k
  rw [List.getElem?_set]
  split
  · rename_i e
    subst e
    rw [swapRow_at hj, hx]
    simp [swapRow_len rs j (Nat.le_of_lt hj), hj]
  · rfl

theorem swapRow_zero (rs : List Int) : swapRow rs 0 = rs := by simp [swapRow]
theorem swapRow_all (rs : List Int) : swapRow rs rs.length = rs.map swapZ := by simp [swapRow]
theorem swapZ_small {x : Int} (h : SmallR x) : SmallR (swapZ x) := by
  have h0 := h.1
  have h1 := h.2
  unfold swapZ
  split
  · exact ⟨by omega, by omega⟩
  split
  · exact ⟨by omega, by omega⟩
  exact h

/-- What the round keeps of the row. -/
def SwapAt (g : Nat) (zs : List Int) (w : World) : Prop := (∀ k, k < zs.length → w.cell? ⟨g, k, none⟩ = some (.int .i32 (zs.getD k 0))) ∧ (∀ k, w.frozen? ⟨g, k, none⟩ = false)

theorem SwapAt.set {g : Nat} {zs : List Int} {w : World} (h : SwapAt g zs w) {j : Nat} (hj : j < zs.length) (z : Int) : SwapAt g (zs.set j z) (w.setCell ⟨g, j, none⟩ (.int .i32 z)) := by
  refine ⟨fun k hk => ?_, fun k => by rw [World.frozen?_setCell]; exact h.2 k⟩
  rw [List.length_set] at hk
  by_cases e : j = k
  · subst e
    rw [World.cell?_setCell_same _ _ _ (h.1 j hj)]
    simp [hj]
  · rw [World.cell?_setCell_other _ _ _ _ (by intro h; cases h; exact e rfl), h.1 k hk]
    simp [e]

set_option maxRecDepth 100000 in
theorem swapped_calls (rs : List Int) (w : World) (hs : ∀ r ∈ rs, SmallR r) (hl : rs.length ≤ 1000) :
    Calls Tryz.prog 23 #[.string (encS rs)] w fun e w' => e = .returned (.string (encS (rs.map swapZ))) ∧ Below w.heap.size w w' := by
  obtain ⟨cap, hcap, hcv⟩ := convert_runes rs w hs hl
  have Hs := hide hs
  clear hs
  go_enter Tryz.func23, Tryz.ntmps23
  go_wp2_with fail
  go_loopg [4] (rs.length + 1) (fun k i wr => ∃ j : Nat, j ≤ rs.length ∧ k = rs.length + 1 - j ∧ i = .int .i64 j ∧ Below w.heap.size w wr ∧ Hid (SwapAt w.heap.size (swapRow rs j) wr))
  case atStart =>
    refine ⟨0, by omega, rfl, rfl, below_drewN (Below.alloc (Below.refl _ _) (Nat.le_refl _) _) 1, ?_⟩
    rw [swapRow_zero]
    have hg : (w.alloc (.cells ((rs.map (Value.int .i32)).toArray ++ Array.replicate (cap - rs.length) (.int .i32 0)) 21)).drew.heap[w.heap.size]? = some (.cells ((rs.map (Value.int .i32)).toArray ++ Array.replicate (cap - rs.length) (.int .i32 0)) 21) := heap_alloc_new _ _
    refine ⟨fun k hk => ?_, fun k => frozen_of_row _ _ _ _ _ hg⟩
    rw [cell_of_row _ _ _ _ _ _ hg, Array.getElem?_append_left (by simpa using hk)]
    simp [hk]
  case round =>
    obtain ⟨j, hj, hk, rfl, hB, H⟩ := hrel
    by_cases hjn : j < rs.length
    · obtain ⟨x, hx⟩ : ∃ x, rs[j]? = some x := ⟨_, List.getElem?_eq_getElem hjn⟩
      have hxs : SmallR x := Hs.out x (List.mem_of_getElem? hx)
      have hx0 := hxs.1
      have hx1 := hxs.2
      have hlen := swapRow_len rs j hj
      have c0 : wr.cell? ⟨w.heap.size, j, none⟩ = some (.int .i32 x) := by
        rw [H.out.1 j (by omega), List.getD_eq_getElem?_getD, swapRow_at hjn, hx]
        rfl
      have f0 : wr.frozen? ⟨w.heap.size, j, none⟩ = false := H.out.2 j
      have Hx := hide hx
      have Hnext : Hid (swapRow rs (j + 1) = (swapRow rs j).set j (swapZ x)) := swapRow_next hx
      have Hsame : Hid (swapZ x = x → swapRow rs (j + 1) = swapRow rs j) := fun h => swapRow_same hx h
      clear hx hxs hlen
      by_cases ha : 97 ≤ x ∧ x ≤ 122
      · obtain ⟨ha1, ha2⟩ := ha
        go_wp2_with fail
        go_roundg (rs.length - j)
        case measure => omega
        case rel =>
          refine ⟨j + 1, by omega, by omega, by simp, hB.setCell (Nat.le_refl _) _, ?_⟩
          rw [Hnext.out, show swapZ x = x - 97 + 65 by unfold swapZ; rw [if_pos ⟨ha1, ha2⟩]; omega]
          exact SwapAt.set H.out (by rw [swapRow_len rs j hj]; exact hjn) _
      · by_cases hb : 65 ≤ x ∧ x ≤ 90
        · obtain ⟨hb1, hb2⟩ := hb
          have ha1 : ¬ 97 ≤ x := by omega
          clear ha
          go_wp2_with fail
          go_roundg (rs.length - j)
          case measure => omega
          case rel =>
            refine ⟨j + 1, by omega, by omega, by simp, hB.setCell (Nat.le_refl _) _, ?_⟩
            rw [Hnext.out, show swapZ x = x - 65 + 97 by unfold swapZ; rw [if_neg (by omega), if_pos ⟨hb1, hb2⟩]; omega]
            exact SwapAt.set H.out (by rw [swapRow_len rs j hj]; exact hjn) _
        · have hsz : swapZ x = x := by unfold swapZ; rw [if_neg ha, if_neg hb]
          have Hr := hide (Hsame.out hsz)
          clear hsz
          by_cases a1 : 97 ≤ x
          · have a2 : ¬ x ≤ 122 := by omega
            have b1 : 65 ≤ x := by omega
            have b2 : ¬ x ≤ 90 := by omega
            clear ha hb
            go_wp2_with fail
            go_roundg (rs.length - j)
            case measure => omega
            case rel => exact ⟨j + 1, by omega, by omega, by simp, hB, by rw [Hr.out]; exact H.out⟩
          · by_cases b1 : 65 ≤ x
            · have b2 : ¬ x ≤ 90 := by omega
              clear ha hb
              go_wp2_with fail
              go_roundg (rs.length - j)
              case measure => omega
              case rel => exact ⟨j + 1, by omega, by omega, by simp, hB, by rw [Hr.out]; exact H.out⟩
            · clear ha hb
              go_wp2_with fail
              go_roundg (rs.length - j)
              case measure => omega
              case rel => exact ⟨j + 1, by omega, by omega, by simp, hB, by rw [Hr.out]; exact H.out⟩
    · obtain rfl : j = rs.length := by omega
      have hcb : (convert 93 9 (.slice (some ⟨w.heap.size, 0, none⟩) rs.length cap)).run Tryz.prog wr = .ok (.string (encS (rs.map swapZ))) wr := by
        have h := convert_back (rs.map swapZ) wr w.heap.size cap (fun r hr => by obtain ⟨q, hq, rfl⟩ := List.mem_map.1 hr; exact swapZ_small (Hs.out q hq)) (fun j hj => by have := H.out.1 j (by rw [swapRow_all]; exact hj); rw [swapRow_all] at this; exact this)
        rw [List.length_map] at h
        exact h
      go_wp2_with fail
      go_ret
      exact ⟨rfl, hB⟩
end Go.Proofs.YtjpmomklkkifjaaGreatDoor
namespace Go.Proofs.YtjpmomklkkifjaaGreatDoor
open Go.RowKit
set_option maxRecDepth 100000

theorem encode_wide {r : Int} (h : WideR r) : Utf8.encode r = ⟨(Lib.encodeRune r).toArray⟩ := by
  obtain ⟨h0, h2, h3⟩ := h
  have hv : Utf8.valid r = true := by
    unfold Utf8.valid
    simp
    omega
  unfold Utf8.encode
  rw [hv]
  simp only [if_true]
  rcases Int.lt_or_le r 128 with h1 | h1
  · rw [if_pos (by omega), enc_one h0 h1]
  rcases Int.lt_or_le r 2048 with h4 | h4
  · rw [if_neg (by omega), if_pos (by omega), enc_two h1 h4]
    have e0 : 192 + r.toNat / 64 = (192 + r / 64).toNat := by omega
    have e1 : 128 + r.toNat % 64 = (128 + r % 64).toNat := by omega
    rw [e0, e1]
  rcases Int.lt_or_le r 65536 with h5 | h5
  · rw [if_neg (by omega), if_neg (by omega), if_pos (by omega), enc_three (by omega)]
    have e0 : 224 + r.toNat / 4096 = (224 + r / 4096).toNat := by omega
    have e1 : 128 + r.toNat / 64 % 64 = (128 + r / 64 % 64).toNat := by omega
    have e2 : 128 + r.toNat % 64 = (128 + r % 64).toNat := by omega
    rw [e0, e1, e2]
  · rw [if_neg (by omega), if_neg (by omega), if_neg (by omega), enc_four h5 h2]
    have e0 : 240 + r.toNat / 262144 = (240 + r / 262144).toNat := by omega
    have e1 : 128 + r.toNat / 4096 % 64 = (128 + r / 4096 % 64).toNat := by omega
    have e2 : 128 + r.toNat / 64 % 64 = (128 + r / 64 % 64).toNat := by omega
    have e3 : 128 + r.toNat % 64 = (128 + r % 64).toNat := by omega
    rw [e0, e1, e2, e3]
theorem decode_atW (a : List Int) (r : Int) (b : List Int) (h : WideR r) : Utf8.decode (encS (a ++ r :: b)) (encL a).length = (r.toNat, (Lib.encodeRune r).length) := by
  rw [← Lib.decodeL_drop]
  show Lib.decodeL (((encL (a ++ r :: b)).toArray.toList).drop _) = _
  rw [List.toList_toArray, drop_enc, encL_cons, decode_encW h]
theorem enc_posW (r : Int) : 0 < (Lib.encodeRune r).length := by have := enc_lenW r; omega

theorem runes_foldW : ∀ (ns : List Int) (s : ByteArray), (∀ r ∈ ns, WideR r) → ns.foldl (fun r n => r ++ Utf8.encode n) s = ⟨(s.data.toList ++ encL ns).toArray⟩
  | [], s, _ => by simp [encL]
  | n :: ns, s, h => by
    rw [List.foldl_cons, runes_foldW ns _ (fun r hr => h r (by simp [hr])), encode_wide (h n (by simp)), encL_cons]
    simp
theorem runesBytes_encW (ns : List Int) (h : ∀ r ∈ ns, WideR r) : runesBytes ns = encS ns := by
  unfold runesBytes
  rw [runes_foldW ns _ h]
  rfl

theorem runesFrom_encW (rs : List Int) (hs : ∀ r ∈ rs, WideR r) : ∀ (rest done : List Int) (f : Nat) (acc : Array Value), rs = done ++ rest → rest.length ≤ f → Conv.runesFrom (encS rs) f (encL done).length acc = acc ++ (rest.map (Value.int .i32)).toArray
  | [], done, f, acc, h, _ => by
    have hn : ¬ (encL done).length < (encS rs).size := by rw [encS_size, h, List.append_nil]; omega
    cases f with
    | zero => simp [Conv.runesFrom]
    | succ f =>
      unfold Conv.runesFrom
      rw [if_neg hn]
      simp
  | r :: rest, done, 0, _, h, hf => by simp at hf
  | r :: rest, done, f + 1, acc, h, hf => by
    have hr := hs r (by rw [h]; simp)
    have hp : (encL done).length < (encS rs).size := by
      rw [encS_size, h, encL_append, encL_cons, List.length_append, List.length_append]
      have := enc_posW r
      omega
    have hd : Utf8.decode (encS rs) (encL done).length = (r.toNat, (Lib.encodeRune r).length) := by
      rw [h]
      exact decode_atW done r rest hr
    have e : (encL done).length + (Lib.encodeRune r).length = (encL (done ++ [r])).length := by rw [encL_append, encL_one, List.length_append]
    unfold Conv.runesFrom
    rw [if_pos hp, hd]
    simp only
    rw [e, runesFrom_encW rs hs rest (done ++ [r]) f _ (by rw [h]; simp) (by simpa using hf)]
    have e2 : Int.ofNat r.toNat = r := Int.toNat_of_nonneg hr.1
    rw [e2]
    simp
theorem runes_encW (rs : List Int) (hs : ∀ r ∈ rs, WideR r) : Conv.runesFrom (encS rs) (encS rs).size 0 #[] = (rs.map (Value.int .i32)).toArray := by
  have h := runesFrom_encW rs hs rs [] (encS rs).size #[] rfl (by rw [encS_size]; exact (encL_lenW rs).1)
  rw [show (encL []).length = 0 from rfl] at h
  rw [h]
  simp

/-- A text becomes a row of its signs, with room behind it. -/
theorem convert_runesW (rs : List Int) (w : World) (hs : ∀ r ∈ rs, WideR r) (hl : rs.length ≤ 1000) :
    ∃ cap, rs.length ≤ cap ∧ (convert 9 93 (.string (encS rs))).run Tryz.prog w = .ok (.slice (some ⟨w.heap.size, 0, none⟩) rs.length cap) (w.drew.alloc (.cells ((rs.map (Value.int .i32)).toArray ++ Array.replicate (cap - rs.length) (.int .i32 0)) 21)) := by
  have h := run_runes_of_string (P := Tryz.prog) w 9 93 21 (encS rs) Tryz.underlying9 Tryz.underlying93 Tryz.underlying21 (by rw [runes_encW rs hs]; simp; omega)
  rw [runes_encW rs hs] at h
  have e : (rs.map (Value.int .i32)).toArray.size = rs.length := by simp
  rw [e] at h
  exact ⟨_, grownCap_ge w rs.length 0 21, h⟩

/-- A row of signs becomes a text. -/
theorem convert_backW (zs : List Int) (w : World) (g cap : Nat) (hs : ∀ r ∈ zs, WideR r) (hc : ∀ j, j < zs.length → w.cell? ⟨g, j, none⟩ = some (.int .i32 (zs.getD j 0))) :
    (convert 93 9 (.slice (some ⟨g, 0, none⟩) zs.length cap)).run Tryz.prog w = .ok (.string (encS zs)) w := by
  have h := run_convert_runes (P := Tryz.prog) w 93 9 21 ⟨g, 0, none⟩ zs.length cap zs (Nat.le_refl _) Tryz.underlying93 Tryz.underlying21 Tryz.underlying9 (fun j hj => by rw [add_addr]; exact hc j hj)
  rw [List.take_length, runesBytes_encW zs hs] at h
  exact h

theorem swapZ_wide {x : Int} (h : WideR x) : WideR (swapZ x) := by
  obtain ⟨h0, h1, h2⟩ := h
  unfold swapZ
  split
  · exact ⟨by omega, by omega, by omega⟩
  split
  · exact ⟨by omega, by omega, by omega⟩
  exact ⟨h0, h1, h2⟩

set_option maxRecDepth 100000 in
theorem swapped_callsW (rs : List Int) (w : World) (hs : ∀ r ∈ rs, WideR r) (hl : rs.length ≤ 1000) :
    Calls Tryz.prog 23 #[.string (encS rs)] w fun e w' => e = .returned (.string (encS (rs.map swapZ))) ∧ Below w.heap.size w w' := by
  obtain ⟨cap, hcap, hcv⟩ := convert_runesW rs w hs hl
  have Hs := hide hs
  clear hs
  go_enter Tryz.func23, Tryz.ntmps23
  go_wp2_with fail
  go_loopg [4] (rs.length + 1) (fun k i wr => ∃ j : Nat, j ≤ rs.length ∧ k = rs.length + 1 - j ∧ i = .int .i64 j ∧ Below w.heap.size w wr ∧ Hid (SwapAt w.heap.size (swapRow rs j) wr))
  case atStart =>
    refine ⟨0, by omega, rfl, rfl, below_drewN (Below.alloc (Below.refl _ _) (Nat.le_refl _) _) 1, ?_⟩
    rw [swapRow_zero]
    have hg : (w.alloc (.cells ((rs.map (Value.int .i32)).toArray ++ Array.replicate (cap - rs.length) (.int .i32 0)) 21)).drew.heap[w.heap.size]? = some (.cells ((rs.map (Value.int .i32)).toArray ++ Array.replicate (cap - rs.length) (.int .i32 0)) 21) := heap_alloc_new _ _
    refine ⟨fun k hk => ?_, fun k => frozen_of_row _ _ _ _ _ hg⟩
    rw [cell_of_row _ _ _ _ _ _ hg, Array.getElem?_append_left (by simpa using hk)]
    simp [hk]
  case round =>
    obtain ⟨j, hj, hk, rfl, hB, H⟩ := hrel
    by_cases hjn : j < rs.length
    · obtain ⟨x, hx⟩ : ∃ x, rs[j]? = some x := ⟨_, List.getElem?_eq_getElem hjn⟩
      have hxs : WideR x := Hs.out x (List.mem_of_getElem? hx)
      have hx0 := hxs.1
      have hx1 := hxs.2.1
      have hlen := swapRow_len rs j hj
      have c0 : wr.cell? ⟨w.heap.size, j, none⟩ = some (.int .i32 x) := by
        rw [H.out.1 j (by omega), List.getD_eq_getElem?_getD, swapRow_at hjn, hx]
        rfl
      have f0 : wr.frozen? ⟨w.heap.size, j, none⟩ = false := H.out.2 j
      have Hx := hide hx
      have Hnext : Hid (swapRow rs (j + 1) = (swapRow rs j).set j (swapZ x)) := swapRow_next hx
      have Hsame : Hid (swapZ x = x → swapRow rs (j + 1) = swapRow rs j) := fun h => swapRow_same hx h
      clear hx hxs hlen
      by_cases ha : 97 ≤ x ∧ x ≤ 122
      · obtain ⟨ha1, ha2⟩ := ha
        go_wp2_with fail
        go_roundg (rs.length - j)
        case measure => omega
        case rel =>
          refine ⟨j + 1, by omega, by omega, by simp, hB.setCell (Nat.le_refl _) _, ?_⟩
          rw [Hnext.out, show swapZ x = x - 97 + 65 by unfold swapZ; rw [if_pos ⟨ha1, ha2⟩]; omega]
          exact SwapAt.set H.out (by rw [swapRow_len rs j hj]; exact hjn) _
      · by_cases hb : 65 ≤ x ∧ x ≤ 90
        · obtain ⟨hb1, hb2⟩ := hb
          have ha1 : ¬ 97 ≤ x := by omega
          clear ha
          go_wp2_with fail
          go_roundg (rs.length - j)
          case measure => omega
          case rel =>
            refine ⟨j + 1, by omega, by omega, by simp, hB.setCell (Nat.le_refl _) _, ?_⟩
            rw [Hnext.out, show swapZ x = x - 65 + 97 by unfold swapZ; rw [if_neg (by omega), if_pos ⟨hb1, hb2⟩]; omega]
            exact SwapAt.set H.out (by rw [swapRow_len rs j hj]; exact hjn) _
        · have hsz : swapZ x = x := by unfold swapZ; rw [if_neg ha, if_neg hb]
          have Hr := hide (Hsame.out hsz)
          clear hsz
          by_cases a1 : 97 ≤ x
          · have a2 : ¬ x ≤ 122 := by omega
            have b1 : 65 ≤ x := by omega
            have b2 : ¬ x ≤ 90 := by omega
            clear ha hb
            go_wp2_with fail
            go_roundg (rs.length - j)
            case measure => omega
            case rel => exact ⟨j + 1, by omega, by omega, by simp, hB, by rw [Hr.out]; exact H.out⟩
          · by_cases b1 : 65 ≤ x
            · have b2 : ¬ x ≤ 90 := by omega
              clear ha hb
              go_wp2_with fail
              go_roundg (rs.length - j)
              case measure => omega
              case rel => exact ⟨j + 1, by omega, by omega, by simp, hB, by rw [Hr.out]; exact H.out⟩
            · clear ha hb
              go_wp2_with fail
              go_roundg (rs.length - j)
              case measure => omega
              case rel => exact ⟨j + 1, by omega, by omega, by simp, hB, by rw [Hr.out]; exact H.out⟩
    · obtain rfl : j = rs.length := by omega
      have hcb : (convert 93 9 (.slice (some ⟨w.heap.size, 0, none⟩) rs.length cap)).run Tryz.prog wr = .ok (.string (encS (rs.map swapZ))) wr := by
        have h := convert_backW (rs.map swapZ) wr w.heap.size cap (fun r hr => by obtain ⟨q, hq, rfl⟩ := List.mem_map.1 hr; exact swapZ_wide (Hs.out q hq)) (fun j hj => by have := H.out.1 j (by rw [swapRow_all]; exact hj); rw [swapRow_all] at this; exact this)
        rw [List.length_map] at h
        exact h
      go_wp2_with fail
      go_ret
      exact ⟨rfl, hB⟩

/-- A path written otherwise: some text, whatever the bytes; of signs that are read, just these. -/
theorem alikePath_calls (s : ByteArray) (rs : List Int) (w : World) (hRd : Reads s.data.toList rs) (hR : Ready w) (hs : ∀ r ∈ rs, WideR r) (hl : rs.length ≤ 400) (hm : marks (partsL rs) ≤ 900) :
    Calls Tryz.prog 19 #[.string s] w fun e w' => e = .returned (.string (encS ((splitL rs).map swapZ))) ∧ Below w.heap.size w w' := by
  have hsp := plainSplitW_calls s rs w hRd hR.tab hs (by omega) hm
  have hlen : (splitL rs).length ≤ 1000 := by
    rw [splitL_length]
    have := partsL_len rs
    omega
  have hws := fun wx => swapped_callsW (splitL rs) wx (fun p hp => partsL_wide hs p (splitL_mem p hp)) hlen
  generalize (splitL rs).map swapZ = ts at hws ⊢
  generalize encS (splitL rs) = u at hsp hws
  generalize encS ts = v at hws ⊢
  have HW := hide hws
  clear hws hRd hR hs hl hm hlen
  go_enter Tryz.func19, Tryz.ntmps19
  go_wp2_with fail
  refine hsp.mono ?_
  rintro e w2 ⟨rfl, hb2⟩
  clear hsp
  go_wp2_with fail
  refine (unhide HW w2).mono ?_
  rintro e w3 ⟨rfl, hb3⟩
  have hb : Below w.heap.size w w3 := hb2.trans (hb3.mono hb2.size)
  clear hb2 hb3 HW
  go_wp2_with fail
  go_ret
  exact ⟨rfl, hb⟩
end Go.Proofs.YtjpmomklkkifjaaGreatDoor
