/-
  The argument 'acts' as it is read: what its cells hold. The contract of a disk's Read, over the seat's program. The contract of disk.New, over the seat's program.
-/
import Derived.Test.YtcjfhfalffngjaaCLight
import Derived.ChangeSlices
import Derived.ChangeArms
import Derived.Deep.Slices
import Derived.OpenShut
import Derived.ProofKit
import Derived.Test.YtcjfhfalffngjaaCDSmall
import Derived.Laws.BytesArg
import Derived.KernelRfl
namespace Go.Proofs.Ytcjfhfalffngjaa
open Go.ChangeShapes Go.WideShapes Go.RowKit Go.Deep
set_option linter.unusedVariables false
set_option maxRecDepth 100000
set_option linter.unusedSimpArgs false

theorem cells54 : Try.prog.cellsOf 54 = 3 := by kernel_rfl
theorem cells38 : Try.prog.cellsOf 38 = 6 := by kernel_rfl
theorem cells9 : Try.prog.cellsOf 9 = 1 := by kernel_rfl
theorem cells3 : Try.prog.cellsOf 3 = 1 := by kernel_rfl
theorem cells35 : Try.prog.cellsOf 35 = 1 := by kernel_rfl
theorem cells36 : Try.prog.cellsOf 36 = 1 := by kernel_rfl
theorem cells4 : Try.prog.cellsOf 4 = 1 := by kernel_rfl

section
variable {H : Type} {enc : TypeId × Value → H} {W : World} {base : Nat} {held : Bool}

theorem choose_nat {α : Type} [Inhabited α] {n : Nat} {P : Nat → α → Prop} (h : ∀ j, j < n → ∃ x, P j x) : ∃ f : Nat → α, ∀ j, j < n → P j (f j) := by
  classical
  exact ⟨fun j => if hj : j < n then Classical.choose (h j hj) else default, fun j hj => by simp only [hj, dif_pos]; exact Classical.choose_spec (h j hj)⟩
instance : Inhabited ChD := ⟨⟨⟨#[]⟩, ⟨#[]⟩, false⟩⟩
theorem ch_open {fuel : Nat} {v : Value} {x : DataW H × List MemPlace} (h : DataW.trod enc Try.prog W base (fun _ => true) held fuel 36 [v] = some x) : ∃ n f, ChOk W v n f := by
  rcases open_slice Try.underlying36 h with ⟨h0, _⟩ | ⟨a, len, cap, m, n, D, Pl, hcs, hb, hl, hm, hmm, _, hx⟩
  · simp only [List.cons.injEq, and_true] at h0
    exact ⟨0, default, .inl ⟨⟨none, 0, h0⟩, rfl⟩⟩
  · simp only [List.cons.injEq, and_true] at hcs
    simp only [if_true] at hmm
    rcases Nat.eq_zero_or_pos cap with h0 | h0
    · obtain rfl : len = 0 := by omega
      exact ⟨0, default, .inl ⟨⟨_, _, hcs⟩, rfl⟩⟩
    · obtain ⟨b, o, spot⟩ := a
      have hsp : spot = none ∧ b < W.heap.size := by
        obtain ⟨cs', h1, _⟩ := hx 0 (by omega)
        rw [cells54] at h1
        obtain ⟨_, hlen, hcell⟩ := World.cells?_some h1
        have := hcell 0 (by omega)
        rw [List.getElem?_eq_getElem (by omega)] at this
        exact ⟨by simpa [Addr.add] using World.cell?_spot this, by have h3 := World.block_lt_of_cell? _ _ this; simpa [Addr.add] using h3⟩
      obtain ⟨hsp, hlt⟩ := hsp
      subst hsp
      have each : ∀ j, j < len → ∃ c : ChD, W.cell? ⟨b, o + j * 3, none⟩ = some (.string c.key) ∧ W.cell? ⟨b, o + j * 3 + 1, none⟩ = some (.string c.val) ∧ W.cell? ⟨b, o + j * 3 + 2, none⟩ = some (.bool c.gone) := fun j hj => by
        obtain ⟨cs', h1, h2⟩ := hx j (by omega)
        rw [cells54] at h1
        obtain ⟨_, hlen, hcell⟩ := World.cells?_some h1
        obtain ⟨xs, k, hk, _, _, hxl, hf⟩ := DataW.trod_struct Try.underlying54 h2
        match xs, hxl, cs', hlen with
        | [y0, y1, y2], _, [u0, u1, u2], _ =>
          have g0 := hf 0 _ rfl
          have g1 := hf 1 _ rfl
          have g2 := hf 2 _ rfl
          simp [cells9, cells4] at g0 g1 g2
          obtain ⟨s0, e0, _⟩ := DataW.trod_string Try.underlying9 g0
          obtain ⟨s1, e1, _⟩ := DataW.trod_string Try.underlying9 g1
          obtain ⟨s2, e2, _⟩ := DataW.trod_bool Try.underlying4 g2
          simp at e0 e1 e2
          subst e0 e1 e2
          have c0 := hcell 0 (by omega)
          have c1 := hcell 1 (by omega)
          have c2 := hcell 2 (by omega)
          rw [add_add] at c0 c1 c2
          rw [Addr.add_lit] at c0 c1 c2
          exact ⟨⟨s0, s1, s2⟩, by simpa using c0, by simpa [Nat.add_assoc] using c1, by simpa [Nat.add_assoc] using c2⟩
      obtain ⟨f, hf⟩ := choose_nat each
      exact ⟨len, f, .inr ⟨b, o, cap, hcs, by unfold maxLen at hm; omega, hlt, hf⟩⟩

instance : Inhabited ActD := ⟨⟨⟨#[]⟩, ⟨#[]⟩, ⟨#[]⟩, 0, 0, .slice none 0 0, 0, default⟩⟩

theorem acts_open {v : Value} {d : DataW H} {ps : List MemPlace} (hval : ∃ a len cap, v = .slice a len cap) (h : DataW.Trod enc Try.prog W base (fun _ => true) held 22 v d ps) : ∃ n f, ActsOk W v n f := by
  obtain ⟨fuel, h⟩ := h
  obtain ⟨a0, l0, c0, rfl⟩ := hval
  rcases open_slice Try.underlying22 h with ⟨h0, _⟩ | ⟨a, len, cap, m, n, D, Pl, hcs, hb, hl, hm, hmm, _, hx⟩
  · simp only [Value.cells, List.cons.injEq, and_true] at h0
    exact ⟨0, default, .inl ⟨⟨none, 0, h0⟩, rfl⟩⟩
  · simp only [Value.cells, List.cons.injEq, and_true] at hcs
    simp only [if_true] at hmm
    rcases Nat.eq_zero_or_pos cap with h0 | h0
    · obtain rfl : len = 0 := by omega
      exact ⟨0, default, .inl ⟨⟨_, _, hcs⟩, rfl⟩⟩
    · obtain ⟨b, o, spot⟩ := a
      have hsp : spot = none ∧ b < W.heap.size := by
        obtain ⟨cs', h1, _⟩ := hx 0 (by omega)
        rw [cells38] at h1
        obtain ⟨_, hlen, hcell⟩ := World.cells?_some h1
        have := hcell 0 (by omega)
        rw [List.getElem?_eq_getElem (by omega)] at this
        exact ⟨by simpa [Addr.add] using World.cell?_spot this, by have h2 := World.block_lt_of_cell? _ _ this; simpa [Addr.add] using h2⟩
      obtain ⟨rfl, hlt⟩ := hsp
      have each : ∀ j, j < len → ∃ q : ActD, W.cell? ⟨b, o + j * 6, none⟩ = some (.string q.kind) ∧ W.cell? ⟨b, o + j * 6 + 1, none⟩ = some (.string q.s) ∧ W.cell? ⟨b, o + j * 6 + 2, none⟩ = some (.string q.t) ∧ W.cell? ⟨b, o + j * 6 + 3, none⟩ = some (.int .i64 q.n) ∧ W.cell? ⟨b, o + j * 6 + 4, none⟩ = some (.int .u64 (q.k : Int)) ∧ W.cell? ⟨b, o + j * 6 + 5, none⟩ = some q.ch ∧ ChOk W q.ch q.cn q.cf ∧ (-9223372036854775808 ≤ q.n ∧ q.n ≤ 9223372036854775807) ∧ q.k < 18446744073709551616 := by
        intro j hj
        obtain ⟨cs', h1, h2⟩ := hx j (by omega)
        rw [cells38] at h1
        obtain ⟨_, hlen, hcell⟩ := World.cells?_some h1
        obtain ⟨xs, k, hk, _, _, hxl, hf⟩ := DataW.trod_struct Try.underlying38 h2
        match xs, hxl, cs', hlen with
        | [y0, y1, y2, y3, y4, y5], _, [u0, u1, u2, u3, u4, u5], _ =>
          have g0 := hf 0 _ rfl
          have g1 := hf 1 _ rfl
          have g2 := hf 2 _ rfl
          have g3 := hf 3 _ rfl
          have g4 := hf 4 _ rfl
          have g5 := hf 5 _ rfl
          simp [cells9, cells3, cells35, cells36] at g0 g1 g2 g3 g4 g5
          obtain ⟨s0, e0, _⟩ := DataW.trod_string Try.underlying9 g0
          obtain ⟨s1, e1, _⟩ := DataW.trod_string Try.underlying9 g1
          obtain ⟨s2, e2, _⟩ := DataW.trod_string Try.underlying9 g2
          obtain ⟨s3, e3, _, wf3⟩ := DataW.trod_int Try.underlying3 g3
          obtain ⟨s4, e4, _, wf4⟩ := DataW.trod_int Try.underlying35 g4
          simp at e0 e1 e2 e3 e4
          subst e0 e1 e2 e3 e4
          have c0 := hcell 0 (by omega)
          have c1 := hcell 1 (by omega)
          have c2 := hcell 2 (by omega)
          have c3 := hcell 3 (by omega)
          have c4 := hcell 4 (by omega)
          have c5 := hcell 5 (by omega)
          rw [add_add, Addr.add_lit] at c0 c1 c2 c3 c4 c5
          obtain ⟨cn, cf, hch⟩ := ch_open g5
          have b3 := bounds_i64 wf3
          have b4 := bounds_u64 wf4
          exact ⟨⟨s0, s1, s2, s3, s4.toNat, u5, cn, cf⟩, by simpa using c0, by simpa [Nat.add_assoc] using c1, by simpa [Nat.add_assoc] using c2, by simpa [Nat.add_assoc] using c3, by rw [show ((s4.toNat : Nat) : Int) = s4 from Int.toNat_of_nonneg b4.1]; simpa [Nat.add_assoc] using c4, by simpa [Nat.add_assoc] using c5, hch, by omega, by simp only; omega⟩
      obtain ⟨f, hf⟩ := choose_lt each
      exact ⟨len, f, .inr ⟨b, o, cap, hcs, by unfold maxLen at hm; omega, hlt, hf⟩⟩
end

#print axioms acts_open
end Go.Proofs.Ytcjfhfalffngjaa
namespace Go.Proofs.Ytcjfhfalffngjaa
open Go.RowKit
set_option maxRecDepth 100000
set_option linter.unusedSimpArgs false
set_option linter.unusedVariables false

/-- Bytes in memory, as a text. -/
theorem conv_bytes (w : World) (b off : Nat) (S : List UInt8) (n cap : Nat) (hn : S.length = n) (hc : ∀ j v, (secV S)[j]? = some v → w.cell? ⟨b, off + j, none⟩ = some v) :
    (convert 105 9 (.slice (some ⟨b, off, none⟩) n cap)).run Try.prog w = .ok (.string ⟨S.toArray⟩) w := by
  have := run_convert_bytes_arg (P := Try.prog) w 105 5 Try.underlying105 Try.underlying5 b off n cap (S.map fun b => (b.toNat : Int)) (by simpa using hn) (fun i hi => by
    have hi' : i < S.length := by omega
    rw [hc i (.int .u8 (S[i].toNat : Int)) (by simp [secV, List.getElem?_map, List.getElem?_eq_getElem hi'])]
    simp [List.getD, List.getElem?_map, List.getElem?_eq_getElem hi']) 9 Try.underlying9
  rw [this]
  congr 2
  have e : strOfNums (S.map fun b => (b.toNat : Int)) = ⟨((S.map fun b => (b.toNat : Int)).map fun n => UInt8.ofNat n.toNat).toArray⟩ := rfl
  rw [e]
  congr 2
  rw [List.map_map]
  have : ((fun n : Int => UInt8.ofNat n.toNat) ∘ fun b : UInt8 => (b.toNat : Int)) = id := by
    funext b
    simp
  rw [this, List.map_id]

/-- The bytes of a sector. -/
theorem sec_cells {w0 w : World} {rs : List Res} (H : Hold w0 w rs) {g n cap : Nat} {l : List (List UInt8)} (hn : l.length = n) (hm : rowS (.slice (some ⟨g, 0, none⟩) n cap) l ∈ rs) (hs : Secs l) {i : Nat} {s : List UInt8} (hi : l[i]? = some s) : ∀ j v, (secV s)[j]? = some v → w.cell? ⟨g, i * 140 + j, none⟩ = some v := fun j v hv => by
  subst hn
  exact H.rowCell hm (flatS_get hs hi hv)

variable (w0 w : World) (db : Nat) (d : DK) (l2 : List Res)

def ReadEnd (i : Int) (e : Ending) (w' : World) : Prop := e = .returned (.tuple #[.string ⟨(d.readB i).toArray⟩, errV (d.readE i)]) ∧ w' = w

theorem read_calls (h : DiskIn w0 w db d l2) (i : Int) :
    Calls Try.prog 18 #[.pointer (some ⟨db, 0, none⟩), .int .i64 i] w fun e w' => ReadEnd w d i e w' := by
  have e1 := has_calls w0 w db d l2 h i
  obtain ⟨g0, c0, g1, c1, v2, hc0, hc01, hc1, hc11, H⟩ := h.mem
  have q1 : w.cell? ⟨db, 1, none⟩ = some (.slice (some ⟨g1, 0, none⟩) d.now.length c1) := H.cellAt (.head _) rfl
  have q3 : w.cell? ⟨db, 3, none⟩ = some (.bool d.down) := H.cellAt (.head _) rfl
  unfold ReadEnd DK.readE DK.readB
  cases hdn : d.down with
  | true =>
    rw [hdn] at q3
    clear e1 q1 H h hc0 hc01 hc1 hc11
    go_enter Try.func18, Try.ntmps18
    go_wp2_with fail
    go_ret2
    exact ⟨rfl, rfl⟩
  | false =>
    rw [hdn] at q3
    cases hh : d.has i with
    | false =>
      rw [hh] at e1
      have E1 := hide e1
      clear e1 H h hc0 hc01 hc1 hc11 hdn hh
      go_enter Try.func18, Try.ntmps18
      go_wp2_with fail
      refine (unhide E1).mono ?_
      rintro e w1 ⟨rfl, rfl⟩
      go_wp2_with fail
      go_ret2
      exact ⟨rfl, rfl⟩
    | true =>
      rw [hh] at e1
      have hi : 0 ≤ i ∧ i < (d.now.length : Int) := by simpa [DK.has] using hh
      obtain ⟨k, rfl⟩ : ∃ k : Nat, i = k := ⟨i.toNat, by omega⟩
      have hk : k < d.now.length := by omega
      have hkz : (k : Int) < (d.now.length : Int) := by omega
      obtain ⟨s, hs⟩ : ∃ s, d.now[k]? = some s := ⟨_, List.getElem?_eq_getElem hk⟩
      have hsl : s.length = 140 := h.ok.now s (List.mem_of_getElem? hs)
      have hcv := fun cap => conv_bytes w g1 (k * 140) s 140 cap hsl (sec_cells H rfl (.tail _ (.tail _ (.head _))) h.ok.now hs)
      have hrd : d.now.getD (k : Int).toNat [] = s := by simp [List.getD, hs]
      simp only [Bool.not_true, Bool.or_self, Bool.false_eq_true, if_false]
      rw [hrd]
      obtain ⟨n, hn⟩ : ∃ n, d.now.length = n := ⟨_, rfl⟩
      rw [hn] at q1 hk hkz
      have E1 := hide e1
      clear e1 H h hc0 hc01 hc1 hc11 hdn hh hs hsl hrd hi hn
      go_enter Try.func18, Try.ntmps18
      go_wp2_with fail
      refine (unhide E1).mono ?_
      rintro e w1 ⟨rfl, rfl⟩
      go_wp2_with fail
      go_ret2
      exact ⟨rfl, rfl⟩
#print axioms read_calls
end Go.Proofs.Ytcjfhfalffngjaa
namespace Go.Proofs.Ytcjfhfalffngjaa
open Go.RowKit
set_option maxRecDepth 100000
set_option linter.unusedSimpArgs false
set_option linter.unusedVariables false

def nought140 : Array Value := (List.replicate 140 (Value.int .u8 0)).toArray
theorem size140 : nought140.size = 140 := by unfold nought140; rw [List.size_toArray, List.length_replicate]
theorem nought_at (j : Nat) (h : j < nought140.size) : nought140[j] = .int .u8 0 := by
  have h1 : nought140[j] ∈ nought140.toList := Array.getElem_mem_toList h
  exact (List.mem_replicate.1 (show nought140[j] ∈ List.replicate 140 (Value.int .u8 0) from h1)).2
theorem info102 : ∃ i z, Try.prog.info? 102 = some i ∧ i.zero = some z ∧ i.size = 140 ∧ i.bytes = 140 ∧ z.cells = nought140 := by
  have h : (Try.prog.info? 102).map (fun i => (i.zero.map Value.cells, i.size, i.bytes)) = some (some nought140, 140, 140) := by kernel_rfl
  cases hq : Try.prog.info? 102 with
  | none => rw [hq] at h; cases h
  | some i =>
    rw [hq] at h
    simp only [Option.map_some, Option.some.injEq, Prod.mk.injEq] at h
    obtain ⟨h1, h2, h3⟩ := h
    cases hz : i.zero with
    | none => rw [hz] at h1; cases h1
    | some z =>
      rw [hz] at h1
      exact ⟨i, z, rfl, hz, h2, h3, Option.some.inj h1⟩

theorem flatS_nought (n : Nat) : flatS (List.replicate n nought) = List.replicate (n * 140) (.int .u8 0) := by
  unfold flatS
  rw [List.map_replicate]
  apply List.eq_replicate_iff.2
  refine ⟨by rw [chunk_len (k := 140) (fun x hx => by rw [(List.mem_replicate.1 hx).2, secV_length, nought_length]), List.length_replicate], fun b hb => ?_⟩
  obtain ⟨c, hc, hb⟩ := List.mem_flatten.1 hb
  rw [(List.mem_replicate.1 hc).2] at hb
  obtain ⟨x, hx, rfl⟩ := List.mem_map.1 hb
  rw [(List.mem_replicate.1 hx).2]
  rfl
theorem made_noughts (n : Nat) : madeCells nought140 (n * 140) = (flatS (List.replicate n nought)).toArray := by
  rw [flatS_nought]
  unfold madeCells
  apply Array.ext
  · rw [Array.size_map, Array.size_range, List.size_toArray, List.length_replicate]
  · intro i h1 h2
    have hi : i % nought140.size < nought140.size := Nat.mod_lt _ (by rw [size140]; omega)
    simp only [Array.getElem_map, Array.getElem_range, List.getElem_toArray, List.getElem_replicate]
    rw [getElem!_pos nought140 _ hi]
    exact nought_at _ hi
theorem make_run (n : Nat) (hn : n ≤ 130) (w : World) : (Instr.makeSlice 94 (.int .i64 n) (.int .i64 n)).run Try.prog w = .ok (.slice (some ⟨w.heap.size, 0, none⟩) n n) (w.alloc (.cells (flatS (List.replicate n nought)).toArray 102)) := by
  obtain ⟨i, z, h1, h2, h3, h4, h5⟩ := info102
  have := run_make (P := Try.prog) w 94 102 i z Try.underlying94 h1 h2 .i64 .i64 n n (by omega) (Int.le_refl _) (by rw [h4]; omega) (by omega)
  rw [h3, h5, Int.toNat_natCast, made_noughts] at this
  exact this

variable (w0 w : World) (l2 : List Res)

theorem new_bad (n : Int) (hn : n < 1 ∨ 130 < n) :
    Calls Try.prog 12 #[.int .i64 n] w fun e w' => e = .returned (.tuple #[.pointer none, .iface 93 (.int .i64 1)]) ∧ w' = w := by
  by_cases h1 : n < 1
  · go_enter Try.func12, Try.ntmps12
    go_wp2_with fail
    go_ret2
    exact ⟨rfl, rfl⟩
  · have h2 : 130 < n := hn.resolve_left h1
    go_enter Try.func12, Try.ntmps12
    go_wp2_with fail
    go_ret2
    exact ⟨rfl, rfl⟩

def NewEnd (m : Nat) (e : Ending) (w' : World) : Prop := ∃ db, e = .returned (.tuple #[.pointer (some ⟨db, 0, none⟩), .nilIface]) ∧ DiskIn w0 w' db (newP m) l2

set_option maxHeartbeats 1000000 in
theorem new_calls (h : Hold w0 w l2) (m : Nat) (h1 : 0 < m) (h2 : m ≤ 130) :
    Calls Try.prog 12 #[.int .i64 m] w fun e w' => NewEnd w0 l2 m e w' := by
  have hmk := make_run m (by omega)
  obtain ⟨Z, hZ⟩ : ∃ Z, flatS (List.replicate m nought) = Z := ⟨_, rfl⟩
  rw [hZ] at hmk
  have HH := hide h
  have HZ := hide hZ
  have z1 : ¬ (m : Int) < 1 := by omega
  have z2 : ¬ 130 < (m : Int) := by omega
  clear hZ h
  go_enter Try.func12, Try.ntmps12
  go_wp2_with fail
  have h3 := ((unhide HH).nilRow 104 141).lit 102 140 m Z (by rw [← unhide HZ, flatS_nought, List.length_replicate]) (by omega)
  have h4 := h3.lit 102 140 m Z (by rw [← unhide HZ, flatS_nought, List.length_replicate]) (by omega)
  rw [World.size_alloc] at h4
  have h5 := h4.made 97 [.slice (some ⟨w.heap.size, 0, none⟩) m m, .slice (some ⟨w.heap.size + 1, 0, none⟩) m m, .slice none 0 0, .bool false, .int .i64 (-1)]
  have h6 := h4.made 97 [.slice (some ⟨w.heap.size + 1, 0, none⟩) m m, .slice (some ⟨w.heap.size, 0, none⟩) m m, .slice none 0 0, .bool false, .int .i64 (-1)]
  rw [World.size_alloc, World.size_alloc] at h5 h6
  have H5 := hide h5
  have H6 := hide h6
  have hlen : (newP m).now.length = m := by simp [newP]
  have hrow : ∀ v, rowS v (List.replicate m nought) = .row v 102 140 m Z := fun v => by unfold rowS; rw [unhide HZ, List.length_replicate]
  have Hl := hide hlen
  have Hrow := hide hrow
  clear h3 h4 h5 h6 hlen hrow
  go_region
  · go_wp2_with fail
    go_ret2
    refine ⟨_, rfl, newP_ok h1 h2, w.heap.size, m, w.heap.size + 1, m, .slice none 0 0, ?_⟩
    rw [unhide Hl]
    refine ⟨Nat.le_refl _, by omega, Nat.le_refl _, by omega, ?_⟩
    have h7 := (((unhide H5).front [_, _]).front [_]).drew
    show Hold w0 _ (_ :: rowS _ (List.replicate m nought) :: rowS _ (List.replicate m nought) :: _)
    rw [unhide Hrow, unhide Hrow]
    exact h7
  · go_wp2_with fail
    go_ret2
    refine ⟨_, rfl, newP_ok h1 h2, w.heap.size + 1, m, w.heap.size, m, .slice none 0 0, ?_⟩
    rw [unhide Hl]
    refine ⟨Nat.le_refl _, by omega, Nat.le_refl _, by omega, ?_⟩
    have h7 := (unhide H6).drew
    show Hold w0 _ (_ :: rowS _ (List.replicate m nought) :: rowS _ (List.replicate m nought) :: _)
    rw [unhide Hrow, unhide Hrow]
    exact h7
#print axioms new_calls
end Go.Proofs.Ytcjfhfalffngjaa
