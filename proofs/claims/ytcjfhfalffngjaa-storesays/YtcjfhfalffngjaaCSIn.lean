/-
  A store on a disk, with the rows that it has: what Commit, Checkpoint and a fall within them leave. Plain facts. The contracts of a store, with the rows that it has: Open, Format of a new disk, Commit, Checkpoint.
-/
import Derived.Test.YtcjfhfalffngjaaCSCommit
import Derived.Test.YtcjfhfalffngjaaCSKpt
namespace Go.Proofs.Ytcjfhfalffngjaa
open Go.RowKit Go.Lib
set_option maxRecDepth 100000
set_option linter.unusedVariables false
set_option linter.unusedSimpArgs false

structure Sto (d : DK) (half f1 : Nat) (L0 : List ChD) (D : List (List ChD)) (used : Nat) (L : List ChD) : Prop where
  ok : StoreOk d half f1 L0 D used
  rows : foldA L0 D = L
  good : ∀ x ∈ D, x.length ≤ 12 ∧ ∀ c ∈ x, checkP c = none
  few : ∀ k, (foldA L0 (D.take k)).length ≤ 64
variable {d : DK} {half f1 used : Nat} {L0 L : List ChD} {D : List (List ChD)}
theorem Sto.len (h : Sto d half f1 L0 D used L) : L.length ≤ 64 := by
  have := h.few D.length
  rw [List.take_length, h.rows] at this
  exact this
theorem Sto.kpt (h : Sto d half f1 L0 D used L) : Kpt L := by
  rw [← h.rows]
  exact h.ok.kpt.fold fun x hx => (h.good x hx).2
theorem Sto.room (h : Sto d half f1 L0 D used L) : used ≤ d.now.length - 90 := h.ok.log.pre.1
theorem Sto.agree {d' : DK} (h : Sto d half f1 L0 D used L) (ho : StoreOk d' half f1 L0 D used) : Sto d' half f1 L0 D used L := ⟨ho, h.rows, h.good, h.few⟩
theorem Sto.fresh {d' : DK} {half' g1 : Nat} (h : Sto d half f1 L0 D used L) (ho : StoreOk d' half' g1 L [] 0) : Sto d' half' g1 L [] 0 L :=
  ⟨ho, rfl, (fun x hx => by cases hx), fun k => by rw [List.take_nil]; exact h.len⟩
theorem commitF_none {many : Nat} {l : List ChD} (h : commitF many L l = none) : l.length ≤ 12 ∧ faultL l = none ∧ (applyP L l).length ≤ 64 ∧ l.length + 1 ≤ many := by
  unfold commitF at h
  split at h
  · cases h
  rename_i h12
  split at h
  · cases h
  rename_i hf
  split at h
  · cases h
  rename_i h9
  exact ⟨by omega, hf, by omega, by omega⟩
theorem Sto.added {d' : DK} {many : Nat} {l : List ChD} {u : Nat} (h : Sto d half f1 L0 D used L) (hc : commitF many L l = none) (ho : StoreOk d' half f1 L0 (D ++ [l]) u) : Sto d' half f1 L0 (D ++ [l]) u (applyP L l) := by
  obtain ⟨c1, c2, c3, c4⟩ := commitF_none hc
  refine ⟨ho, by rw [foldA_snoc, h.rows], fun x hx => ?_, fun k => ?_⟩
  · rcases List.mem_append.1 hx with hx | hx
    · exact h.good x hx
    · rw [List.mem_singleton.1 hx]; exact ⟨c1, faultL_all c2⟩
  · rcases Nat.lt_or_ge D.length k with hk | hk
    · rw [List.take_of_length_le (by rw [List.length_append, List.length_singleton]; omega), foldA_snoc, h.rows]
      exact c3
    · rw [List.take_append_of_le_length hk]
      exact h.few k

theorem Sto.add (h : Sto d half f1 L0 D used L) (hf : f1 ≤ 900000) (hl : d.now.length ≤ 130) {many : Nat} (hm : d.now.length - 90 = many) {l : List ChD} (hc : commitF many L l = none) (hr : ¬ many - used < l.length + 1) :
    (∃ d', addP d 90 many (f1 + 1) used l = (none, d', used + (l.length + 1)) ∧ (d.left < 0 → d'.left = d.left) ∧ d'.now.length = d.now.length ∧ Sto d' half f1 L0 (D ++ [l]) (used + (l.length + 1)) (applyP L l)) ∨
    (∃ d', addP d 90 many (f1 + 1) used l = (some 10, d', used) ∧ ¬ d.left < 0 ∧ ∀ k, (d'.again k).now.length = d.now.length ∧ (Sto (d'.again k) half f1 L0 D used L ∨ Sto (d'.again k) half f1 L0 (D ++ [l]) (used + (l.length + 1)) (applyP L l))) := by
  subst hm
  rcases h.ok.add hf hl l with ⟨k, hk, he⟩ | ⟨d', he, h2, h3, h4⟩ | ⟨d', he, h2, h3⟩
  · exfalso
    obtain ⟨c1, c2, c3, c4⟩ := commitF_none hc
    obtain ⟨s0, r, hdd, hrl⟩ := deed_cons (f1 + 1 + used) l
    have hsh := deedS_short (n := f1 + 1 + used) (faultL_all c2)
    rw [hdd] at hsh
    have hb : PutBounds d 90 used (d.now.length - 90) s0 r := ⟨h.ok.steady.down, h.ok.log.len, by omega, hsh s0 (by simp), fun s hs => hsh s (by simp [hs])⟩
    rcases put_done2 hb with ⟨h1, _⟩ | ⟨h1, _⟩
    · have hpp : putP d 90 used (d.now.length - 90) s0 r = (none, (putP d 90 used (d.now.length - 90) s0 r).2) := by rw [← h1]
      rw [addP_done (by omega) hr c2 hdd hpp] at he
      cases he
    · have hpp : putP d 90 used (d.now.length - 90) s0 r = (some 10, (putP d 90 used (d.now.length - 90) s0 r).2) := by rw [← h1]
      rw [addP_fell (by omega) hr c2 hdd hpp] at he
      injection he with e1 e2
      injection e1 with e1
      exact hk e1.symm
  · exact .inl ⟨d', he, h2, h3, h.added hc h4⟩
  · refine .inr ⟨d', he, h2, fun k => ⟨(h3 k).1, ?_⟩⟩
    rcases (h3 k).2 with h4 | h4
    · exact .inl (h.agree h4)
    · exact .inr (h.added hc h4)

theorem Sto.check (h : Sto d half f1 L0 D used L) (n : Nat) (hn : 1 ≤ n) :
    (∃ d', layD d (1 - half) (textL L) (emptyF d n - 1) = (none, d') ∧ (d.left < 0 → d'.left = d.left) ∧ d'.now.length = d.now.length ∧ Sto d' (1 - half) (emptyF d n - 1) L [] 0 L) ∨
    (∃ d', layD d (1 - half) (textL L) (emptyF d n - 1) = (some 10, d') ∧ ¬ d.left < 0 ∧ ∀ k, (d'.again k).now.length = d.now.length ∧ (Sto (d'.again k) half f1 L0 D used L ∨ Sto (d'.again k) (1 - half) (emptyF d n - 1) L [] 0 L)) := by
  obtain ⟨q1, q2, q3, q4⟩ := emptyF_read d n
  have he : emptyF d n - 1 + 1 = emptyF d n := by omega
  rcases lay_store h.ok L h.kpt h.len (emptyF d n - 1) (by rw [he]; exact ⟨q1, q2⟩) with ⟨h1, h2, h3, h4⟩ | ⟨h1, h2, h3⟩
  · exact .inl ⟨_, by rw [← h1], h3, h2, h.fresh h4⟩
  · refine .inr ⟨_, by rw [← h1], h2, fun k => ⟨(h3 k).1, ?_⟩⟩
    rcases (h3 k).2 with h4 | h4
    · exact .inl (h.agree h4)
    · exact .inr (h.fresh h4)
theorem Sto.again (h : Sto d half f1 L0 D used L) (k : Nat) : Sto (d.again k) half f1 L0 D used L := h.agree (h.ok.again k)
theorem Sto.armed (h : Sto d half f1 L0 D used L) (n : Int) : Sto (d.armed n) half f1 L0 D used L := h.agree (h.ok.armed n)

/-- A new disk that was formatted. -/
theorem newP_empty {n : Nat} (hn : 104 ≤ n) : emptyF (newP n) 1 = 1 := by
  have hlen : (newP n).now.length = n := by simp [newP]
  have hok : LogOk (newP n) 90 ((newP n).now.length - 90) 1 [] 0 := ⟨⟨rfl, rfl, rfl⟩, by omega, pre_zero _ _, Nat.zero_le _, fun _ => by simp only [newP]; rw [List.getD, List.getElem?_replicate, if_pos (by omega)]; rfl⟩
  have := hok.rd.deeds
  unfold emptyF
  rw [if_pos this]
theorem format_sto {n : Nat} (hn : 104 ≤ n) : ∃ d', layD (newP n) 0 (textL []) (emptyF (newP n) 1 - 1) = (none, d') ∧ d'.now.length = n ∧ d'.left = -1 ∧ Sto d' 0 0 [] [] 0 [] := by
  rw [newP_empty hn]
  obtain ⟨h1, h2, h3, h4⟩ := format_store hn
  exact ⟨_, by rw [← h1], h2, h3, h4, rfl, (fun x hx => by cases hx), fun k => by rw [List.take_nil]; decide⟩
#print axioms Sto.add
#print axioms Sto.check
#print axioms format_sto
end Go.Proofs.Ytcjfhfalffngjaa
namespace Go.Proofs.Ytcjfhfalffngjaa
open Go.RowKit Go.Lib
set_option maxRecDepth 100000
set_option linter.unusedVariables false
set_option linter.unusedSimpArgs false

/-- A store in memory, on its disk. -/
structure SIn (w0 w : World) (db sb : Nat) (d : DK) (n f1 used : Nat) (L : List ChD) (l2 : List Res) : Prop where
  sto : ∃ half L0 D v lb, Sto d half f1 L0 D used L ∧ DiskIn w0 w db d (storeL sb db half v L lb (n - 90) (f1 + 1) used l2)
  len : d.now.length = n
theorem SIn.few {w0 w : World} {db sb : Nat} {d : DK} {n f1 used : Nat} {L : List ChD} {l2 : List Res} (h : SIn w0 w db sb d n f1 used L l2) : n ≤ 130 ∧ 104 ≤ n ∧ used ≤ n - 90 ∧ L.length ≤ 64 ∧ Sorted L ∧ d.down = false := by
  obtain ⟨half, L0, D, v, lb, h1, h2⟩ := h.sto
  have := h.len
  have h3 := h2.ok.few
  have h4 := h1.ok.len
  have h5 := h1.room
  exact ⟨by omega, by omega, by omega, h1.len, h1.kpt.sorted, h1.ok.steady.down⟩
/-- A disk that fell: whatever of it is kept, there is a store on it. -/
def Fallen (d : DK) (n f1 : Nat) (P : List ChD → Prop) : Prop := d.wr.length ≤ 1000 ∧ ∀ k, (d.again k).now.length = n ∧ ∃ half f1' L0 D used L, Sto (d.again k) half f1' L0 D used L ∧ P L ∧ f1' ≤ f1

theorem layD_wr_le (d : DK) (half : Nat) (T : List UInt8) (f1 : Nat) : (layD d half T f1).2.wr.length ≤ d.wr.length + (cutL T).length + 1 := by
  have h1 := layP_wr_le (cutL T) d (1 + half * 44)
  unfold layD
  split
  · rename_i e d1 he
    rw [he] at h1
    simp only at h1 ⊢
    omega
  · rename_i d1 he
    rw [he] at h1
    have h2 := layP_wr_le [headL half T.length f1] d1 0
    simp only [List.length_singleton] at h1 h2
    omega
theorem Sto.cut {d : DK} {half f1 used : Nat} {L0 L : List ChD} {D : List (List ChD)} (h : Sto d half f1 L0 D used L) {hf g : Nat} {k : Int} {d' : DK} (he : layD d hf (textL L) g = (some k, d')) : d'.wr.length ≤ 1000 := by
  have h1 := layD_wr_le d hf (textL L) g
  have h2 := textL_length h.kpt.ok
  have h3 := h.len
  rw [he, h.ok.steady.wr, cutL_length] at h1
  simp only [List.length_nil] at h1
  omega
theorem Sto.wrs {d : DK} {half f1 used : Nat} {L0 L : List ChD} {D : List (List ChD)} (h : Sto d half f1 L0 D used L) {many first u : Nat} {l : List ChD} (hl : l.length ≤ 12) {k : Int} {d' : DK} {u' : Nat} (he : addP d 90 many first u l = (some k, d', u')) : d'.wr.length ≤ 1000 := by
  have h1 := addP_wr_le d 90 many first u l
  rw [he, h.ok.steady.wr] at h1
  simp only [List.length_nil] at h1
  omega
theorem open_in {w0 w : World} {db : Nat} {d : DK} {l2 : List Res} {half f1 used n : Nat} {L0 L : List ChD} {D : List (List ChD)} (h : DiskIn w0 w db d l2) (hs : Sto d half f1 L0 D used L) (hn : d.now.length = n) (hf : f1 ≤ 900000) :
    Calls Try.prog 46 #[.pointer (some ⟨db, 0, none⟩)] w fun e w' => ∃ sb, e = .returned (.tuple #[.pointer (some ⟨sb, 0, none⟩), .nilIface]) ∧ SIn w0 w' db sb d n f1 used L l2 := by
  refine (openS_calls h hs.ok.steady.down hs.ok.len half f1 hs.ok.hf hf L0 hs.ok.few hs.ok.kpt hs.ok.head hs.ok.text D used hs.ok.log.deeds hs.ok.log.used (fun x hx => by have := (hs.good x hx).1; omega) hs.few).mono ?_
  rintro e w' ⟨sb, lb, v, he, hD⟩
  rw [hs.rows, hn] at hD
  exact ⟨sb, he, ⟨half, L0, D, v, lb, hs, hD⟩, hn⟩

theorem format_in {w0 w : World} {db : Nat} {l2 : List Res} {n : Nat} (hn : n ≤ 130) (h : DiskIn w0 w db (newP n) l2) :
    Calls Try.prog 47 #[.pointer (some ⟨db, 0, none⟩)] w fun e w' => (n < 104 ∧ e = .returned (.iface 93 (.int .i64 9)) ∧ DiskIn w0 w' db (newP n) l2) ∨ (104 ≤ n ∧ e = .returned .nilIface ∧ ∃ d', DiskIn w0 w' db d' l2 ∧ Sto d' 0 0 [] [] 0 [] ∧ d'.now.length = n ∧ d'.left = -1) := by
  have hlen : (newP n).now.length = n := by simp [newP]
  refine (format_calls h rfl (Nat.zero_le _)).mono ?_
  rintro e w' (⟨h1, h2, h2'⟩ | ⟨h1, h2, h3⟩)
  · rw [hlen] at h1
    exact .inl ⟨h1, h2, h2'⟩
  · rw [hlen] at h1
    obtain ⟨d', e1, e2, e3, e4⟩ := format_sto h1
    rw [e1] at h2 h3
    exact .inr ⟨h1, h2, d', h3, e4, e2, e3⟩

theorem check_in {w0 w : World} {db sb : Nat} {d : DK} {n f1 used : Nat} {L : List ChD} {l2 : List Res} (h : SIn w0 w db sb d n f1 used L l2) (hf : f1 ≤ 700000) :
    Calls Try.prog 50 #[.pointer (some ⟨sb, 0, none⟩)] w fun e w' => (e = .returned .nilIface ∧ ∃ d' f1', SIn w0 w' db sb d' n f1' 0 L l2 ∧ f1' ≤ f1 + 100 ∧ (d.left < 0 → d'.left = d.left)) ∨
      (e = .returned (.iface 93 (.int .i64 10)) ∧ ¬ d.left < 0 ∧ ∃ d', DiskIn w0 w' db d' l2 ∧ Fallen d' n (f1 + 100) fun L' => L' = L) := by
  obtain ⟨q1, q2, q3, q4, q5, q6⟩ := h.few
  obtain ⟨half, L0, D, v, lb, h1, h2⟩ := h.sto
  have hlen := h.len
  have hwr : d.wr.length ≤ 1000 := by rw [h1.ok.steady.wr]; exact Nat.zero_le _
  obtain ⟨p1, p2, p3, p4⟩ := emptyF_read d (f1 + 1 + (n - 90))
  have he : emptyF d (f1 + 1 + (n - 90)) - 1 + 1 = emptyF d (f1 + 1 + (n - 90)) := by omega
  refine (check_store h2 q6 (by omega) hwr h1.ok.hf (by omega) (by omega) (by omega) q4 h1.kpt.ok).mono ?_
  intro e w' hE
  unfold CheckEnd at hE
  rcases h1.check (f1 + 1 + (n - 90)) (by omega) with ⟨d', g1, g2, g3, g4⟩ | ⟨d', g1, g2, g3⟩
  · rw [g1] at hE
    obtain ⟨rfl, lb', hD⟩ := hE
    rw [← he] at hD
    exact .inl ⟨rfl, d', _, ⟨⟨1 - half, L, [], v, lb', g4, hD⟩, g3.trans hlen⟩, by omega, g2⟩
  · rw [g1] at hE
    obtain ⟨rfl, hD⟩ := hE
    refine .inr ⟨rfl, g2, d', DiskIn.lose [_, _, _] hD, h1.cut g1, fun k => ⟨(g3 k).1.trans hlen, ?_⟩⟩
    rcases (g3 k).2 with g4 | g4
    · exact ⟨_, _, _, _, _, _, g4, rfl, by omega⟩
    · exact ⟨_, _, _, _, _, _, g4, rfl, by omega⟩

theorem commit_in {w0 w : World} {db sb : Nat} {d : DK} {n f1 used : Nat} {L : List ChD} {l2 : List Res} (h : SIn w0 w db sb d n f1 used L l2) (hf : f1 ≤ 700000) (vc : Value) (l : List ChD) (hc : ∀ w', Hold w0 w' l2 → ChL w' vc l) (hsc : Shaped vc) (hl : l.length ≤ 1000000) :
    Calls Try.prog 48 #[.pointer (some ⟨sb, 0, none⟩), vc] w fun e w' =>
      (∃ k, commitF (n - 90) L l = some k ∧ e = .returned (.iface 93 (.int .i64 k)) ∧ SIn w0 w' db sb d n f1 used L l2) ∨
      (commitF (n - 90) L l = none ∧ e = .returned .nilIface ∧ ∃ d' f1', SIn w0 w' db sb d' n f1' (commitU (n - 90) used l) (applyP L l) l2 ∧ f1' ≤ f1 + 100 ∧ (d.left < 0 → d'.left = d.left)) ∨
      (commitF (n - 90) L l = none ∧ e = .returned (.iface 93 (.int .i64 10)) ∧ ¬ d.left < 0 ∧ ∃ d', DiskIn w0 w' db d' l2 ∧ Fallen d' n (f1 + 100) fun L' => L' = L ∨ L' = applyP L l) := by
  obtain ⟨q1, q2, q3, q4, q5, q6⟩ := h.few
  obtain ⟨half, L0, D, v, lb, h1, h2⟩ := h.sto
  have hlen := h.len
  have hwr : d.wr.length ≤ 1000 := by rw [h1.ok.steady.wr]; exact Nat.zero_le _
  obtain ⟨p1, p2, p3, p4⟩ := emptyF_read d (f1 + 1 + (n - 90))
  have he : emptyF d (f1 + 1 + (n - 90)) - 1 + 1 = emptyF d (f1 + 1 + (n - 90)) := by omega
  refine (commit_calls h2 q6 (by omega) hwr h1.ok.hf (by omega) q3 (by omega) (by omega) q4 h1.kpt.ok q5 vc l hc hsc hl).mono ?_
  rintro e w' (⟨k, c1, c2, c3⟩ | ⟨c1, c2, c3⟩ | ⟨c1, c2, c3⟩)
  · exact .inl ⟨k, c1, c2, ⟨half, L0, D, v, lb, h1, c3⟩, hlen⟩
  · unfold AddedEnd at c3
    have hU : commitU (n - 90) used l = used + (l.length + 1) := by unfold commitU; rw [if_neg c2]
    rcases h1.add (by omega) (by omega) (by rw [hlen]) c1 c2 with ⟨d', g1, g2, g3, g4⟩ | ⟨d', g1, g2, g3⟩
    · rw [g1] at c3
      obtain ⟨rfl, v', lb', hD⟩ := c3
      exact .inr (.inl ⟨c1, rfl, d', f1, ⟨⟨half, L0, _, v', lb', by rw [hU]; exact g4, by rw [hU]; exact hD⟩, g3.trans hlen⟩, by omega, g2⟩)
    · rw [g1] at c3
      obtain ⟨rfl, lb', hD⟩ := c3
      refine .inr (.inr ⟨c1, rfl, g2, d', DiskIn.lose [_, _, _] hD, h1.wrs (commitF_none c1).1 g1, fun k => ⟨(g3 k).1.trans hlen, ?_⟩⟩)
      rcases (g3 k).2 with g4 | g4
      · exact ⟨_, _, _, _, _, _, g4, .inl rfl, by omega⟩
      · exact ⟨_, _, _, _, _, _, g4, .inr rfl, by omega⟩
  · rcases h1.check (f1 + 1 + (n - 90)) (by omega) with ⟨d1, g1, g2, g3, g4⟩ | ⟨d1, g1, g2, g3⟩
    · rcases c3 with ⟨k, d', e1, _⟩ | ⟨d', e1, c3⟩
      · rw [g1] at e1; cases e1
      rw [g1] at e1
      injection e1 with _ e1
      subst e1
      have hU : commitU (n - 90) used l = 0 + (l.length + 1) := by unfold commitU; rw [if_pos c2]
      unfold AddedEnd at c3
      rw [← he] at c3
      have hno : ¬ n - 90 - 0 < l.length + 1 := by have := (commitF_none c1).2.2.2; omega
      rcases g4.add (by omega) (by omega) (by rw [g3, hlen]) c1 hno with ⟨d', k1, k2, k3, k4⟩ | ⟨d', k1, k2, k3⟩
      · rw [k1] at c3
        obtain ⟨rfl, v', lb', hD⟩ := c3
        exact .inr (.inl ⟨c1, rfl, d', _, ⟨⟨1 - half, L, _, v', lb', by rw [hU]; exact k4, by rw [hU]; exact hD⟩, k3.trans (g3.trans hlen)⟩, by omega, fun hx => (k2 (by rw [g2 hx]; exact hx)).trans (g2 hx)⟩)
      · rw [k1] at c3
        obtain ⟨rfl, lb', hD⟩ := c3
        refine .inr (.inr ⟨c1, rfl, fun hx => k2 (by rw [g2 hx]; exact hx), d', DiskIn.lose [_, _, _] hD, g4.wrs (commitF_none c1).1 k1, fun k => ⟨(k3 k).1.trans (g3.trans hlen), ?_⟩⟩)
        rcases (k3 k).2 with k4 | k4
        · exact ⟨_, _, _, _, _, _, k4, .inl rfl, by omega⟩
        · exact ⟨_, _, _, _, _, _, k4, .inr rfl, by omega⟩
    · rcases c3 with ⟨k, d', e1, rfl, hD⟩ | ⟨d', e1, c3⟩
      · rw [g1] at e1
        injection e1 with e0 e1
        injection e0 with e0
        subst e0
        subst e1
        refine .inr (.inr ⟨c1, rfl, g2, d1, DiskIn.lose [_, _, _] hD, h1.cut g1, fun k => ⟨(g3 k).1.trans hlen, ?_⟩⟩)
        rcases (g3 k).2 with g4 | g4
        · exact ⟨_, _, _, _, _, _, g4, .inl rfl, by omega⟩
        · exact ⟨_, _, _, _, _, _, g4, .inl rfl, by omega⟩
      · rw [g1] at e1; cases e1
/-- A store that stands is there whatever is kept. -/
theorem SIn.fallen {w0 w : World} {db sb : Nat} {d : DK} {n f1 used : Nat} {L : List ChD} {l2 : List Res} (h : SIn w0 w db sb d n f1 used L l2) : Fallen d n f1 fun L' => L' = L := by
  obtain ⟨half, L0, D, v, lb, h1, h2⟩ := h.sto
  refine ⟨by rw [h1.ok.steady.wr]; exact Nat.zero_le _, fun k => ⟨?_, half, f1, L0, D, used, L, h1.again k, rfl, Nat.le_refl _⟩⟩
  unfold DK.again
  simp only
  rw [keepL_len, h1.ok.steady.kept]
  exact h.len
#print axioms open_in
#print axioms format_in
#print axioms check_in
#print axioms commit_in
end Go.Proofs.Ytcjfhfalffngjaa
