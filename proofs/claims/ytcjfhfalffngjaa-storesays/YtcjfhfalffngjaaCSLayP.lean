/-
  A store on a disk as plain data, and what a fall within lay leaves: the old store or the new one. Plain facts.
-/
import Derived.Test.YtcjfhfalffngjaaCSCrash
namespace Go.Proofs.Ytcjfhfalffngjaa
open Go.RowKit Go.Lib
set_option maxRecDepth 100000
set_option linter.unusedVariables false
set_option linter.unusedSimpArgs false

/-- A text's pieces. -/
def cutL (T : List UInt8) : List (List UInt8) := (List.range ((T.length + 139) / 140)).map fun i => (T.drop (i * 140)).take 140
theorem cutL_length (T : List UInt8) : (cutL T).length = (T.length + 139) / 140 := by simp [cutL]
theorem cutL_get {T : List UInt8} {i : Nat} (h : i * 140 < T.length) : (cutL T)[i]? = some ((T.drop (i * 140)).take 140) := by
  unfold cutL
  rw [List.getElem?_map, List.getElem?_range (by omega)]
  rfl
theorem cutL_short (T : List UInt8) : ∀ s ∈ cutL T, s.length ≤ 140 := by
  intro s hs
  obtain ⟨i, _, rfl⟩ := List.mem_map.1 hs
  rw [List.length_take]; omega
/-- lay: the pieces, and last the head. -/
def layD (d : DK) (half : Nat) (T : List UInt8) (f1 : Nat) : Option Int × DK := match layP (cutL T) d (1 + half * 44) with
  | (some e, d1) => (some e, d1)
  | (none, d1) => layP [headL half T.length f1] d1 0
/-- A disk that holds a store. -/
structure StoreOk (d : DK) (half f1 : Nat) (L : List ChD) (D : List (List ChD)) (used : Nat) : Prop where
  steady : Steady d
  len : 104 ≤ d.now.length
  hf : half ≤ 1
  head : d.now.getD 0 [] = padL (headL half (textL L).length f1)
  text : TextAt d.now half (textL L)
  kpt : Kpt L
  few : L.length ≤ 64
  log : LogRd d 90 (d.now.length - 90) (f1 + 1) D used
theorem StoreOk.agree {d d' : DK} {half f1 used : Nat} {L : List ChD} {D : List (List ChD)} (h : StoreOk d half f1 L D used) (hs : Steady d') (hl : d'.now.length = d.now.length) (ha : ∀ x, (x = 0 ∨ (1 + half * 44 ≤ x ∧ x < 1 + half * 44 + 44) ∨ 90 ≤ x) → d'.now.getD x [] = d.now.getD x []) : StoreOk d' half f1 L D used := by
  have htl := textL_length h.kpt.ok
  have hfew := h.few
  refine ⟨hs, by rw [hl]; exact h.len, h.hf, by rw [ha 0 (.inl rfl)]; exact h.head, fun i hi => ?_, h.kpt, h.few, ?_⟩
  · rw [ha _ (.inr (.inl (by omega)))]
    exact h.text i hi
  · have e : readP d' 90 (d'.now.length - 90) (f1 + 1) = readP d 90 (d.now.length - 90) (f1 + 1) := by rw [hl]; exact readP_congr fun j _ => ha _ (.inr (.inr (by omega)))
    exact ⟨hs, by rw [hl]; exact h.log.len, by rw [e]; exact h.log.deeds, by rw [e]; exact h.log.used⟩
theorem keepL_wrs_out (k : Nat) (a : Nat) (l : List (List UInt8)) (K : List (List UInt8)) (x : Nat) (hx : x < a ∨ a + l.length ≤ x) : (keepL k 0 (wrs a l) K).getD x [] = K.getD x [] :=
  keepL_out k _ _ _ x fun y hy => by
    obtain ⟨i, hi, rfl⟩ := List.mem_mapIdx.1 hy
    show a + i ≠ x
    omega
theorem headL_length (half bytes f1 : Nat) : (headL half bytes f1).length = 21 := by simp [headL, markL, leB_length]

/-- What lay does to a disk that holds a store: it is there anew, in the other half; or it fell, and the old store or the new one is there. -/
theorem lay_store {d : DK} {half f1 used : Nat} {L : List ChD} {D : List (List ChD)} (h : StoreOk d half f1 L D used) (L' : List ChD) (hk : Kpt L') (hn : L'.length ≤ 64) (g1 : Nat) (hg : (readP d 90 (d.now.length - 90) (g1 + 1)).deeds = [] ∧ (readP d 90 (d.now.length - 90) (g1 + 1)).used = 0) :
    ((layD d (1 - half) (textL L') g1).1 = none ∧ (layD d (1 - half) (textL L') g1).2.now.length = d.now.length ∧ (d.left < 0 → (layD d (1 - half) (textL L') g1).2.left = d.left) ∧ StoreOk (layD d (1 - half) (textL L') g1).2 (1 - half) g1 L' [] 0) ∨
    ((layD d (1 - half) (textL L') g1).1 = some 10 ∧ ¬ d.left < 0 ∧ ∀ k, ((layD d (1 - half) (textL L') g1).2.again k).now.length = d.now.length ∧ (StoreOk ((layD d (1 - half) (textL L') g1).2.again k) half f1 L D used ∨ StoreOk ((layD d (1 - half) (textL L') g1).2.again k) (1 - half) g1 L' [] 0)) := by
  have htl := textL_length hk.ok
  have hcl := cutL_length (textL L')
  have hh := h.hf
  have hlen := h.len
  have hc44 : (cutL (textL L')).length ≤ 44 := by omega
  obtain ⟨e1, d1, h1⟩ : ∃ e1 d1, layP (cutL (textL L')) d (1 + (1 - half) * 44) = (e1, d1) := ⟨_, _, rfl⟩
  have c1 := lay_case (cutL (textL L')) d (1 + (1 - half) * 44) h.steady.down (by omega) (cutL_short _)
  rw [h1] at c1
  unfold layD
  rw [h1]
  rcases c1 with ⟨he, g⟩ | ⟨he, g⟩
  · simp only at he g
    subst he
    simp only
    have hl1 : d1.now.length = d.now.length := by rw [g.now, setL_length]
    have ha1 : ∀ x, (x = 0 ∨ (1 + half * 44 ≤ x ∧ x < 1 + half * 44 + 44) ∨ 90 ≤ x) → d1.now.getD x [] = d.now.getD x [] := fun x hx => by rw [g.now, setL_out _ _ _ _ (by omega)]
    have hold : StoreOk d1 half f1 L D used := h.agree g.steady hl1 ha1
    -- with the new head
    have hnew : ∀ d2 : DK, Steady d2 → d2.now = d1.now.set 0 (padL (headL (1 - half) (textL L').length g1)) → StoreOk d2 (1 - half) g1 L' [] 0 := fun d2 hs2 hn2 => by
      have hl2 : d2.now.length = d.now.length := by rw [hn2, List.length_set, hl1]
      have hat : ∀ x, x ≠ 0 → d2.now.getD x [] = d1.now.getD x [] := fun x hx => by rw [hn2, List.getD, List.getD, List.getElem?_set_ne (Ne.symm hx)]
      refine ⟨hs2, by rw [hl2]; exact h.len, by omega, by rw [hn2, List.getD, List.getElem?_set_self (by omega)]; rfl, fun i hi => ?_, hk, hn, ?_⟩
      · rw [hat _ (by omega), g.now]
        exact setL_in (cutL (textL L')) d.now (1 + (1 - half) * 44) i _ (by omega) (cutL_get hi)
      · have e : readP d2 90 (d2.now.length - 90) (g1 + 1) = readP d 90 (d.now.length - 90) (g1 + 1) := by rw [hl2]; exact readP_congr fun j _ => by rw [hat _ (by omega), ha1 _ (.inr (.inr (by omega)))]
        exact ⟨hs2, by omega, by rw [e]; exact hg.1, by rw [e]; exact hg.2⟩
    obtain ⟨e2, d2, h2⟩ : ∃ e2 d2, layP [headL (1 - half) (textL L').length g1] d1 0 = (e2, d2) := ⟨_, _, rfl⟩
    have c2 := lay_case [headL (1 - half) (textL L').length g1] d1 0 g.down (by simp only [List.length_singleton]; omega) (by intro s hs; rw [List.mem_singleton.1 hs, headL_length]; omega)
    rw [h2] at c2
    rw [h2]
    rcases c2 with ⟨he, g2⟩ | ⟨he, g2⟩
    · simp only at he g2
      refine .inl ⟨he, by simp only; rw [g2.now, setL_length, hl1], fun hl => ?_, hnew d2 g2.steady g2.now⟩
      simp only
      rw [g2.left (by rw [g.left hl]; exact hl), g.left hl]
    · simp only at he g2
      refine .inr ⟨he, fun hl => g2.left (by rw [g.left hl]; exact hl), fun k => ?_⟩
      obtain ⟨m, hm⟩ := g2.wr
      have hag : (d2.again k).now = keepL k 0 (wrs 0 ([headL (1 - half) (textL L').length g1].take m)) d1.now := by
        unfold DK.again
        simp only
        rw [hm, g2.kept, g.wr, List.nil_append, g.steady.kept]
      have hlg : (d2.again k).now.length = d.now.length := by rw [hag, keepL_len, hl1]
      refine ⟨hlg, ?_⟩
      cases m with
      | zero =>
        refine .inl (hold.agree ⟨rfl, rfl, rfl⟩ (by rw [hlg, hl1]) fun x _ => ?_)
        rw [hag]
        rfl
      | succ m =>
        rw [List.take_succ_cons, List.take_nil, wrs_cons] at hag
        rcases keepL_one k 0 (padL (headL (1 - half) (textL L').length g1)) d1.now with hx | hx
        · exact .inr (hnew _ ⟨rfl, rfl, rfl⟩ (hag.trans hx))
        · refine .inl (hold.agree ⟨rfl, rfl, rfl⟩ (by rw [hlg, hl1]) fun x _ => ?_)
          rw [hag]
          exact congrArg (fun l => List.getD l x []) hx
  · simp only at he g
    subst he
    simp only
    refine .inr ⟨trivial, g.left, fun k => ?_⟩
    obtain ⟨m, hm⟩ := g.wr
    have hag : (d1.again k).now = keepL k 0 (wrs (1 + (1 - half) * 44) ((cutL (textL L')).take m)) d.now := by
      unfold DK.again
      simp only
      rw [hm, g.kept, h.steady.wr, List.nil_append, h.steady.kept]
    have hlg : (d1.again k).now.length = d.now.length := by rw [hag, keepL_len]
    refine ⟨hlg, .inl (h.agree ⟨rfl, rfl, rfl⟩ hlg fun x hx => ?_)⟩
    rw [hag]
    refine keepL_wrs_out k _ _ _ x ?_
    rw [List.length_take]
    omega
#print axioms lay_store
end Go.Proofs.Ytcjfhfalffngjaa
