/-
  The contract of a disk's Read, over the seat's program.
-/
import Derived.Test.YtcjfhfalffngjaaDSmall
import Derived.Laws.BytesArg
namespace Go.Proofs.Ytcjfhfalffngjaa
open Go.RowKit
set_option maxRecDepth 100000
set_option linter.unusedSimpArgs false
set_option linter.unusedVariables false

/-- Bytes in memory, as a text. -/
theorem conv_bytes (w : World) (b off : Nat) (S : List UInt8) (n cap : Nat) (hn : S.length = n) (hc : ∀ j v, (secV S)[j]? = some v → w.cell? ⟨b, off + j, none⟩ = some v) :
    (convert 105 9 (.slice (some ⟨b, off, none⟩) n cap)).run Try.prog w = .ok (.string ⟨S.toArray⟩) w := by
  have := run_convert_bytes_arg (P := Try.prog) w 105 5 Try.underlying105 Try.underlying5 b off n cap (S.map fun b => (b.toNat : Int)) (by simpa using hn) (fun i hi => by
    have hi' : i < S.length := by omega
    rw [hc i (.int .u8 (S[i].toNat : Int)) (by simp [secV, List.getElem?_map, List.getElem?_eq_getElem hi'])]
    simp [List.getD, List.getElem?_map, List.getElem?_eq_getElem hi']) 9 Try.underlying9
  rw [this]
  congr 2
  have e : strOfNums (S.map fun b => (b.toNat : Int)) = ⟨((S.map fun b => (b.toNat : Int)).map fun n => UInt8.ofNat n.toNat).toArray⟩ := rfl
  rw [e]
  congr 2
  rw [List.map_map]
  have : ((fun n : Int => UInt8.ofNat n.toNat) ∘ fun b : UInt8 => (b.toNat : Int)) = id := by
    funext b
    simp
  rw [this, List.map_id]

/-- The bytes of a sector. -/
theorem sec_cells {w0 w : World} {rs : List Res} (H : Hold w0 w rs) {g n cap : Nat} {l : List (List UInt8)} (hn : l.length = n) (hm : rowS (.slice (some ⟨g, 0, none⟩) n cap) l ∈ rs) (hs : Secs l) {i : Nat} {s : List UInt8} (hi : l[i]? = some s) : ∀ j v, (secV s)[j]? = some v → w.cell? ⟨g, i * 140 + j, none⟩ = some v := fun j v hv => by
  subst hn
  exact H.rowCell hm (flatS_get hs hi hv)

variable (w0 w : World) (db : Nat) (d : DK) (l2 : List Res)

def ReadEnd (i : Int) (e : Ending) (w' : World) : Prop := e = .returned (.tuple #[.string ⟨(d.readB i).toArray⟩, errV (d.readE i)]) ∧ w' = w

theorem read_calls (h : DiskIn w0 w db d l2) (i : Int) :
    Calls Try.prog 18 #[.pointer (some ⟨db, 0, none⟩), .int .i64 i] w fun e w' => ReadEnd w d i e w' := by
  have e1 := has_calls w0 w db d l2 h i
  obtain ⟨g0, c0, g1, c1, v2, hc0, hc01, hc1, hc11, H⟩ := h.mem
  have q1 : w.cell? ⟨db, 1, none⟩ = some (.slice (some ⟨g1, 0, none⟩) d.now.length c1) := H.cellAt (.head _) rfl
  have q3 : w.cell? ⟨db, 3, none⟩ = some (.bool d.down) := H.cellAt (.head _) rfl
  unfold ReadEnd DK.readE DK.readB
  cases hdn : d.down with
  | true =>
    rw [hdn] at q3
    clear e1 q1 H h hc0 hc01 hc1 hc11
    go_enter Try.func18, Try.ntmps18
    go_wp2_with fail
    go_ret2
    exact ⟨rfl, rfl⟩
  | false =>
    rw [hdn] at q3
    cases hh : d.has i with
    | false =>
      rw [hh] at e1
      have E1 := hide e1
      clear e1 H h hc0 hc01 hc1 hc11 hdn hh
      go_enter Try.func18, Try.ntmps18
      go_wp2_with fail
      refine (unhide E1).mono ?_
      rintro e w1 ⟨rfl, rfl⟩
      go_wp2_with fail
      go_ret2
      exact ⟨rfl, rfl⟩
    | true =>
      rw [hh] at e1
      have hi : 0 ≤ i ∧ i < (d.now.length : Int) := by simpa [DK.has] using hh
      obtain ⟨k, rfl⟩ : ∃ k : Nat, i = k := ⟨i.toNat, by omega⟩
      have hk : k < d.now.length := by omega
      have hkz : (k : Int) < (d.now.length : Int) := by omega
      obtain ⟨s, hs⟩ : ∃ s, d.now[k]? = some s := ⟨_, List.getElem?_eq_getElem hk⟩
      have hsl : s.length = 140 := h.ok.now s (List.mem_of_getElem? hs)
      have hcv := fun cap => conv_bytes w g1 (k * 140) s 140 cap hsl (sec_cells H rfl (.tail _ (.tail _ (.head _))) h.ok.now hs)
      have hrd : d.now.getD (k : Int).toNat [] = s := by simp [List.getD, hs]
      simp only [Bool.not_true, Bool.or_self, Bool.false_eq_true, if_false]
      rw [hrd]
      obtain ⟨n, hn⟩ : ∃ n, d.now.length = n := ⟨_, rfl⟩
      rw [hn] at q1 hk hkz
      have E1 := hide e1
      clear e1 H h hc0 hc01 hc1 hc11 hdn hh hs hsl hrd hi hn
      go_enter Try.func18, Try.ntmps18
      go_wp2_with fail
      refine (unhide E1).mono ?_
      rintro e w1 ⟨rfl, rfl⟩
      go_wp2_with fail
      go_ret2
      exact ⟨rfl, rfl⟩
#print axioms read_calls
end Go.Proofs.Ytcjfhfalffngjaa
