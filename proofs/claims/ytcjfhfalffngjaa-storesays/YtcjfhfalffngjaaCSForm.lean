/-
  The contracts of the store's Format and Checkpoint.
-/
import Derived.Test.YtcjfhfalffngjaaCSLay
import Derived.Test.YtcjfhfalffngjaaCSCrash
namespace Go.Proofs.Ytcjfhfalffngjaa
open Go.RowKit Go.Lib
set_option maxRecDepth 100000
set_option linter.unusedVariables false
set_option linter.unusedSimpArgs false

theorem four_perm {α : Type} (a b c e : α) (l : List α) : (c :: e :: b :: a :: l).Perm (a :: b :: c :: e :: l) :=
  ((List.perm_append_comm (l₁ := [c, e]) (l₂ := [b, a])).append_right l).trans (List.Perm.swap a b _)
theorem chl_nil (w : World) : ChL w (.slice none 0 0) [] := .inl ⟨⟨_, _, rfl⟩, rfl⟩

def FormatEnd (w0 : World) (db : Nat) (d : DK) (l2 : List Res) (e : Ending) (w' : World) : Prop :=
  (d.now.length < 104 ∧ e = .returned (.iface 93 (.int .i64 9)) ∧ DiskIn w0 w' db d l2) ∨ (104 ≤ d.now.length ∧ e = .returned (errV (layD d 0 (textL []) (emptyF d 1 - 1)).1) ∧ DiskIn w0 w' db (layD d 0 (textL []) (emptyF d 1 - 1)).2 l2)

set_option maxHeartbeats 1000000 in
theorem format_calls {w0 w : World} {db : Nat} {d : DK} {l2 : List Res} (h : DiskIn w0 w db d l2) (hdn : d.down = false) (hwr : d.wr.length ≤ 1000) :
    Calls Try.prog 47 #[.pointer (some ⟨db, 0, none⟩)] w fun e w' => FormatEnd w0 db d l2 e w' := by
  have es := sectors_calls w0 w db d l2 h
  obtain ⟨n, hn⟩ : ∃ n, d.now.length = n := ⟨_, rfl⟩
  unfold FormatEnd
  by_cases h104 : n < 104
  · rw [hn] at es ⊢
    have hz : (n : Int) < 104 := by omega
    have ES := hide es
    have HD := hide h
    clear es h hn
    go_enter Try.func47, Try.ntmps47
    go_wp2_with fail
    refine (unhide ES).mono ?_
    rintro e w1 ⟨rfl, rfl⟩
    go_wp2_with fail
    go_ret
    exact .inl ⟨h104, rfl, unhide HD⟩
  · have hz : ¬ (n : Int) < 104 := by omega
    have el := lay75_calls h hdn (by omega) hwr (.slice none 0 0) [] (fun w' _ => chl_nil w') (by decide) (fun c hc => by cases hc) 0 (by decide) 1 (by decide) (by decide)
    unfold LaidEnd at el
    rw [hn] at es el ⊢
    have ES := hide es
    clear es h
    obtain ⟨x, hx⟩ : ∃ x, layD d 0 (textL []) (emptyF d 1 - 1) = x := ⟨_, rfl⟩
    rw [hx] at el ⊢
    obtain ⟨e1, d1⟩ := x
    have EL := hide el
    have h104' : 104 ≤ n := by omega
    clear el hx hn
    go_enter Try.func47, Try.ntmps47
    go_wp2_with fail
    refine (unhide ES).mono ?_
    rintro e w1 ⟨rfl, rfl⟩
    cases e1 with
    | none =>
      go_wp2_with fail
      refine (unhide EL).mono ?_
      rintro e w2 ⟨sb, lb, rfl, hD⟩
      have HD := hide hD
      clear hD
      go_wp2_with fail
      go_ret
      exact .inr ⟨h104', rfl, DiskIn.lose [_, _] (unhide HD)⟩
    | some k =>
      go_wp2_with fail
      refine (unhide EL).mono ?_
      rintro e w2 ⟨rfl, hD⟩
      have HD := hide hD
      clear hD
      go_wp2_with fail
      go_ret
      exact .inr ⟨h104', rfl, unhide HD⟩
#print axioms format_calls

/-- The store in memory. -/
def storeL (sb db half : Nat) (v : Value) (L : List ChD) (lb many first used : Nat) (l2 : List Res) : List Res := storeR sb db half v lb :: rowI v L :: logR lb db 90 many first used :: l2
def CheckEnd (w0 : World) (db sb half : Nat) (v : Value) (L : List ChD) (lb many first used : Nat) (l2 : List Res) (d : DK) (e : Ending) (w' : World) : Prop :=
  match layD d (1 - half) (textL L) (emptyF d (first + many) - 1) with
  | (none, d') => e = .returned .nilIface ∧ ∃ lb', DiskIn w0 w' db d' (storeL sb db (1 - half) v L lb' many (emptyF d (first + many)) 0 l2)
  | (some k, d') => e = .returned (.iface 93 (.int .i64 k)) ∧ DiskIn w0 w' db d' (storeL sb db half v L lb many first used l2)

set_option maxHeartbeats 4000000 in
theorem check_store {w0 w : World} {db sb half lb many first used : Nat} {v : Value} {d : DK} {L : List ChD} {l2 : List Res} (h : DiskIn w0 w db d (storeL sb db half v L lb many first used l2)) (hdn : d.down = false) (hlen : 104 ≤ d.now.length) (hwr : d.wr.length ≤ 1000) (hh : half ≤ 1) (hm : many = d.now.length - 90) (hf0 : 1 ≤ first) (hf : first ≤ 800000) (hn : L.length ≤ 64) (hc : ∀ c ∈ L, checkP c = none) :
    Calls Try.prog 50 #[.pointer (some ⟨sb, 0, none⟩)] w fun e w' => CheckEnd w0 db sb half v L lb many first used l2 d e w' := by
  have hfew := h.ok.few
  obtain ⟨pv, cv, hv⟩ := ChOk.slice (chl_of_row h.hold (v := v) (L := L) (.tail _ (.head _)))
  have el := fun (wx : World) (hx : DiskIn w0 wx db d (storeL sb db half v L lb many first used l2)) => lay75_calls hx hdn hlen hwr v L (fun w' hw' => chl_of_row hw' (v := v) (L := L) (.tail _ (.head _))) hn hc (1 - half) (by omega) (first + many) (by omega) (by omega)
  have hwz : IntKind.i64.wrap (1 - (half : Int)) = ((1 - half : Nat) : Int) := by rw [wrap_in _ (by omega)]; omega
  rw [← hwz] at el
  have en : ∀ wx : World, DiskIn w0 wx db d (storeL sb db half v L lb many first used l2) → Calls Try.prog 43 #[.pointer (some ⟨lb, 0, none⟩)] wx fun e w' => e = .returned (.int .i64 ((first + many : Nat) : Int)) ∧ DiskIn w0 w' db d (storeL sb db half v L lb many first used l2) := fun wx hx => (next_calls lb many first wx (by omega) (by omega) (hx.cellAt (.tail _ (.tail _ (.head _))) rfl) (hx.cellAt (.tail _ (.tail _ (.head _))) rfl)).mono fun e w' hw => ⟨hw.1, by obtain ⟨n, hn⟩ := hw.2; rw [hn]; exact hx.drewN n⟩
  have cells : ∀ (wx : World) (dx : DK), DiskIn w0 wx db dx (storeL sb db half v L lb many first used l2) → wx.cell? ⟨sb, 0, none⟩ = some (.pointer (some ⟨db, 0, none⟩)) ∧ wx.cell? ⟨sb, 1, none⟩ = some (.int .i64 half) ∧ wx.cell? ⟨sb, 2, none⟩ = some v ∧ wx.cell? ⟨sb, 3, none⟩ = some (.pointer (some ⟨lb, 0, none⟩)) := fun wx dx hx => ⟨hx.cellAt (.head _) rfl, hx.cellAt (.head _) rfl, hx.cellAt (.head _) rfl, hx.cellAt (.head _) rfl⟩
  unfold LaidEnd at el
  unfold CheckEnd
  obtain ⟨nx, hnx⟩ : ∃ nx, first + many = nx := ⟨_, rfl⟩
  rw [hnx] at el en ⊢
  obtain ⟨g, hg⟩ : ∃ g, emptyF d nx = g := ⟨_, rfl⟩
  rw [hg] at el ⊢
  obtain ⟨x, hx⟩ : ∃ x, layD d (1 - half) (textL L) (g - 1) = x := ⟨_, rfl⟩
  rw [hx] at el ⊢
  obtain ⟨e1, d1⟩ := x
  rw [← hm] at el
  clear hm hnx
  subst hv
  have HC := hide cells
  have EN := hide en
  have HD0 := hide h.drew
  have HS0 := hide (cells _ _ h.drew)
  cases e1 with
  | some k =>
    simp only at el ⊢
    have EL := hide el
    clear hx hg el cells en hwz h
    go_enter Try.func50, Try.ntmps50
    go_wp2_with fail
    go_region_held (fun w' => w'.cell? ⟨sb, 0, none⟩ = some (.pointer (some ⟨db, 0, none⟩)) ∧ w'.cell? ⟨sb, 1, none⟩ = some (.int .i64 half) ∧ w'.cell? ⟨sb, 2, none⟩ = some (.slice pv L.length cv) ∧ w'.cell? ⟨sb, 3, none⟩ = some (.pointer (some ⟨lb, 0, none⟩))) (first | exact unhide HS7 | exact unhide HS6 | exact unhide HS0) ((first | (go_at_call 43; refine (unhide EN _ (unhide HD0)).mono ?_; rintro e w6 ⟨rfl, hD6⟩; have HS6 := hide (unhide HC _ _ hD6); have HD6 := hide hD6; clear hD6) | (go_at_call 75; refine (unhide EL _ (unhide HD6)).mono ?_; rintro e w7 ⟨rfl, hD7⟩; have HS7 := hide (unhide HC _ _ hD7); have HD7 := hide hD7; clear hD7)))
    all_goals
      go_wp2_with fail
      go_ret
      exact ⟨rfl, unhide HD7⟩
  | none =>
    simp only at el ⊢
    obtain ⟨hf1, hhf1⟩ : ∃ hf1, 1 - half = hf1 := ⟨_, rfl⟩
    rw [hhf1] at el ⊢
    clear hhf1
    have EL := hide el
    clear hx hg el cells en hwz h
    go_enter Try.func50, Try.ntmps50
    go_wp2_with fail
    go_region_held (fun w' => w'.cell? ⟨sb, 0, none⟩ = some (.pointer (some ⟨db, 0, none⟩)) ∧ w'.cell? ⟨sb, 1, none⟩ = some (.int .i64 half) ∧ w'.cell? ⟨sb, 2, none⟩ = some (.slice pv L.length cv) ∧ w'.cell? ⟨sb, 3, none⟩ = some (.pointer (some ⟨lb, 0, none⟩))) (first | exact unhide HS7 | exact unhide HS6 | exact unhide HS0) ((first | (go_at_call 43; refine (unhide EN _ (unhide HD0)).mono ?_; rintro e w6 ⟨rfl, hD6⟩; have HS6 := hide (unhide HC _ _ hD6); have HD6 := hide hD6; clear hD6) | (go_at_call 75; refine (unhide EL _ (unhide HD6)).mono ?_; rintro e w7 ⟨sb2, lb2, rfl, hD7⟩; have HS7 := hide (unhide HC _ _ (DiskIn.lose [_, _] hD7)); have HD7 := hide hD7; clear hD7)))
    have h0 : w7.cell? ⟨sb2, 0, none⟩ = some (.pointer (some ⟨db, 0, none⟩)) := (unhide HD7).cellAt (.head _) rfl
    have h1 : w7.cell? ⟨sb2, 1, none⟩ = some (.int .i64 hf1) := (unhide HD7).cellAt (.head _) rfl
    have h2 : w7.cell? ⟨sb2, 2, none⟩ = some (.slice pv L.length cv) := (unhide HD7).cellAt (.head _) rfl
    have h3 : w7.cell? ⟨sb2, 3, none⟩ = some (.pointer (some ⟨lb2, 0, none⟩)) := (unhide HD7).cellAt (.head _) rfl
    obtain ⟨c0, c1, c2, c3⟩ := unhide HS7
    have f0 := (unhide HD7).hold.frozenAt (.tail _ (.tail _ (.head _))) 0
    have f1 := (unhide HD7).hold.frozenAt (.tail _ (.tail _ (.head _))) 1
    have f2 := (unhide HD7).hold.frozenAt (.tail _ (.tail _ (.head _))) 2
    have f3 := (unhide HD7).hold.frozenAt (.tail _ (.tail _ (.head _))) 3
    clear HS0 HS6 HS7 HD0 HD6 EL EN HC
    go_wp2_with fail
    go_ret
    have s0 := DiskIn.store [_, _] (unhide HD7) 0 (.pointer (some ⟨db, 0, none⟩)) _ rfl
    have s1 := DiskIn.store [_, _] s0 1 (.int .i64 hf1) _ rfl
    have s2 := DiskIn.store [_, _] s1 2 (.slice pv L.length cv) _ rfl
    have s3 := DiskIn.store [_, _] s2 3 (.pointer (some ⟨lb2, 0, none⟩)) _ rfl
    have s4 := s3.perm (four_perm _ _ _ _ _)
    exact ⟨rfl, lb2, s4.sub (.cons_cons _ (.cons_cons _ (.cons_cons _ (.cons _ (.cons _ (.refl _))))))⟩
#print axioms check_store
end Go.Proofs.Ytcjfhfalffngjaa
