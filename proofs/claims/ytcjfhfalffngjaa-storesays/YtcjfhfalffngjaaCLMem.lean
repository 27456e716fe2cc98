/-
  The contract of the log's lay: sectors are written, one behind the other, and kept. Pieces beside a disk: taken by themselves and set back; a text behind the tail of texts. Plain facts.
-/
import Derived.Test.YtcjfhfalffngjaaCLSec
import Derived.Deep.RegionHeldLaw
import Derived.ArgAppend
namespace Go.Proofs.Ytcjfhfalffngjaa
open Go.RowKit Go.Lib
set_option maxRecDepth 100000
set_option linter.unusedVariables false
set_option linter.unusedSimpArgs false

theorem wrap_in (n : Int) (h : -9223372036854775808 ≤ n ∧ n ≤ 9223372036854775807) : IntKind.i64.wrap n = n := by rw [IntKind.wrap_i64]; omega

/-- The error, and the disk behind it. -/
def layP : List (List UInt8) → DK → Nat → Option Int × DK
  | [], d, _ => (d.flushE, d.flushed)
  | s :: r, d, a => match d.writeE (a : Int) s with
    | some e => (some e, d.written (a : Int) s)
    | none => layP r (d.written (a : Int) s) (a + 1)
theorem written_wr (d : DK) (i : Int) (s : List UInt8) : (d.written i s).wr.length ≤ d.wr.length + 1 := by
  unfold DK.written
  split
  · omega
  split
  · rw [stepped_wr]; omega
  · simp only [DK.laid, stepped_wr, List.length_append, List.length_singleton]; omega
def LayEnd (w0 : World) (db : Nat) (d : DK) (l2 : List Res) (a : Nat) (l : List (List UInt8)) (e : Ending) (w' : World) : Prop := e = .returned (errV (layP l d a).1) ∧ DiskIn w0 w' db (layP l d a).2 l2

set_option maxHeartbeats 2000000 in
theorem lay_calls {w0 w : World} {db lb : Nat} {d : DK} {l2 : List Res} {fr many first used : Nat} (h : DiskIn w0 w db d l2) (hL : logR lb db fr many first used ∈ l2) (hfr : fr ≤ 1000) (a : Nat) (ha : a ≤ 1000) (l : List (List UInt8)) (hl : l.length ≤ 1000) (hw : d.wr.length + l.length ≤ 100000)
    (p : Option Addr) (cap : Nat) (hp : 0 < l.length → ∃ b off, p = some ⟨b, off, none⟩ ∧ ∀ w', Hold w0 w' l2 → ∀ j s, l[j]? = some s → w'.cell? ⟨b, off + j, none⟩ = some (.string (mkB s))) :
    Calls Try.prog 83 #[.pointer (some ⟨lb, 0, none⟩), .int .i64 a, .slice p l.length cap] w fun e w' => LayEnd w0 db d l2 (fr + a) l e w' := by
  obtain ⟨n, hn⟩ : ∃ n, l.length = n := ⟨_, rfl⟩
  rw [hn] at hl hw hp ⊢
  have Hn := hide hn
  have HP := hide hp
  have HL := hide hL
  have H0 : Hid (DiskIn w0 w db d l2) := h
  have HE0 : Hid (layP l d (fr + a) = layP (l.drop 0) d (fr + a + 0)) := rfl
  have Hw := hide hw
  clear hp hn hL h
  unfold LayEnd
  go_enter Try.func83, Try.ntmps83
  go_wp2_with fail
  go_loopg [12] (n + 1) (fun g vi wr => ∃ (i : Nat) (di : DK), n - i < g ∧ i ≤ n ∧ vi = .int .i64 i ∧ Hid (DiskIn w0 wr db di l2) ∧ Hid (layP l d (fr + a) = layP (l.drop i) di (fr + a + i)) ∧ Hid (di.wr.length ≤ d.wr.length + i))
  case atStart => exact ⟨0, d, by omega, by omega, rfl, H0, HE0, Nat.le_refl _⟩
  case round =>
    clear H0 HE0
    obtain ⟨i, di, hg, hi, rfl, HD, HE, HW⟩ := hrel
    have k0 : wr.cell? ⟨lb, 0, none⟩ = some (.pointer (some ⟨db, 0, none⟩)) := (unhide HD).cellAt (unhide HL) rfl
    have k1 : wr.cell? ⟨lb, 1, none⟩ = some (.int .i64 fr) := (unhide HD).cellAt (unhide HL) rfl
    by_cases hin : i < n
    · have hiz : (i : Int) < (n : Int) := by omega
      obtain ⟨b, off, hpp, hcs⟩ := unhide HP (by omega)
      subst hpp
      have hil : i < l.length := by rw [unhide Hn]; exact hin
      obtain ⟨s, hs⟩ : ∃ s, l[i]? = some s := ⟨_, List.getElem?_eq_getElem hil⟩
      have q0 := hcs wr (unhide HD).hold i s hs
      have hdrop : l.drop i = s :: l.drop (i + 1) := by
        rw [List.drop_eq_getElem_cons hil]
        rw [List.getElem?_eq_getElem hil] at hs
        rw [Option.some.inj hs]
      have ew := fun wx (hx : DiskIn w0 wx db di l2) => write_calls w0 wx db di l2 hx (by have := unhide HW; have := unhide Hw; omega) ((fr : Int) + (a : Int) + (i : Int)) (mkB s)
      unfold WriteEnd at ew
      have hic : ((fr : Int) + (a : Int) + (i : Int)) = ((fr + a + i : Nat) : Int) := by omega
      have hsl : (mkB s).data.toList = s := mkB_list s
      simp only [hsl] at ew
      have hE := unhide HE
      rw [hdrop, layP] at hE
      have hwr := written_wr di ((fr : Int) + (a : Int) + (i : Int)) s
      rw [← hic] at hE
      have HS0 : Hid (wr.drew.cell? ⟨lb, 0, none⟩ = some (.pointer (some ⟨db, 0, none⟩)) ∧ wr.drew.cell? ⟨lb, 1, none⟩ = some (.int .i64 fr)) := ⟨k0, k1⟩
      have HCells : Hid (∀ wx dx, DiskIn w0 wx db dx l2 → wx.cell? ⟨lb, 0, none⟩ = some (.pointer (some ⟨db, 0, none⟩)) ∧ wx.cell? ⟨lb, 1, none⟩ = some (.int .i64 fr)) := fun wx dx hx => ⟨hx.cellAt (unhide HL) rfl, hx.cellAt (unhide HL) rfl⟩
      obtain ⟨S, hS⟩ : ∃ S, mkB s = S := ⟨_, rfl⟩
      rw [hS] at q0 ew
      have hwz : IntKind.i64.wrap (IntKind.i64.wrap ((fr : Int) + (a : Int)) + (i : Int)) = (fr : Int) + (a : Int) + (i : Int) := by
        rw [wrap_in ((fr : Int) + (a : Int)) (by omega), wrap_in _ (by omega)]
      have HDr := hide (unhide HD).drew
      cases ho : di.writeE ((fr : Int) + (a : Int) + (i : Int)) s with
      | some k =>
        rw [ho] at ew hE
        simp only [errV] at ew hE
        have ew2 : ∀ wx, DiskIn w0 wx db di l2 → Calls Try.prog 16 #[.pointer (some ⟨db, 0, none⟩), .int .i64 (IntKind.i64.wrap (IntKind.i64.wrap ((fr : Int) + (a : Int)) + (i : Int))), .string S] wx fun e w' => e = .returned (.iface 93 (.int .i64 k)) ∧ DiskIn w0 w' db (di.written ((fr : Int) + (a : Int) + (i : Int)) s) l2 := fun wx hx => by rw [hwz]; exact ew wx hx
        have EW := hide ew2
        have HE2 := hide hE
        clear ew ew2 hwz hE ho hdrop hs hcs hsl hS hwr HE HD hil hic
        go_wp2_with fail
        go_region_held (fun w' => w'.cell? ⟨lb, 0, none⟩ = some (.pointer (some ⟨db, 0, none⟩)) ∧ w'.cell? ⟨lb, 1, none⟩ = some (.int .i64 fr)) (first | exact unhide HS0 | exact unhide HS6) ((go_at_call 16; refine (unhide EW _ ?_).mono ?_; exact unhide HDr; rintro e w6 ⟨rfl, hD6⟩; have HS6 : Hid (w6.cell? ⟨lb, 0, none⟩ = some (.pointer (some ⟨db, 0, none⟩)) ∧ w6.cell? ⟨lb, 1, none⟩ = some (.int .i64 fr)) := unhide HCells _ _ hD6; have HD6 := hide hD6; clear hD6))
        all_goals
          go_wp2_with fail
          go_ret
          rw [unhide HE2]
          exact ⟨rfl, unhide HD6⟩
      | none =>
        rw [ho] at ew hE
        simp only [errV] at ew hE
        have ew2 : ∀ wx, DiskIn w0 wx db di l2 → Calls Try.prog 16 #[.pointer (some ⟨db, 0, none⟩), .int .i64 (IntKind.i64.wrap (IntKind.i64.wrap ((fr : Int) + (a : Int)) + (i : Int))), .string S] wx fun e w' => e = .returned .nilIface ∧ DiskIn w0 w' db (di.written ((fr : Int) + (a : Int) + (i : Int)) s) l2 := fun wx hx => by rw [hwz]; exact ew wx hx
        have EW := hide ew2
        have HE2 := hide hE
        have HW2 := hide hwr
        clear ew ew2 hwz hE ho hdrop hs hcs hsl hS hwr HE HD hil hic
        go_wp2_with fail
        go_region_held (fun w' => w'.cell? ⟨lb, 0, none⟩ = some (.pointer (some ⟨db, 0, none⟩)) ∧ w'.cell? ⟨lb, 1, none⟩ = some (.int .i64 fr)) (first | exact unhide HS0 | exact unhide HS6) ((go_at_call 16; refine (unhide EW _ ?_).mono ?_; exact unhide HDr; rintro e w6 ⟨rfl, hD6⟩; have HS6 : Hid (w6.cell? ⟨lb, 0, none⟩ = some (.pointer (some ⟨db, 0, none⟩)) ∧ w6.cell? ⟨lb, 1, none⟩ = some (.int .i64 fr)) := unhide HCells _ _ hD6; have HD6 := hide hD6; clear hD6))
        all_goals
          go_wp2_with fail
          go_roundg (n - i)
          case measure => omega
          case rel => exact ⟨i + 1, _, by omega, by omega, by simp, HD6, HE2, by have := unhide HW; have := unhide HW2; show _ ≤ _; omega⟩
    · have hiz : ¬ (i : Int) < (n : Int) := by omega
      have hie : i = n := by omega
      subst hie
      have hE := unhide HE
      rw [List.drop_of_length_le (by rw [unhide Hn]; exact Nat.le_refl _), layP] at hE
      have ef := flush_calls w0 wr db di l2 (unhide HD)
      unfold FlushEnd at ef
      have EF := hide ef
      have HE2 := hide hE
      clear ef hE HE HD
      go_wp2_with fail
      refine (unhide EF).mono ?_
      rintro e w6 ⟨rfl, hD6⟩
      have HD6 := hide hD6
      clear hD6
      go_wp2_with fail
      go_ret
      rw [unhide HE2]
      exact ⟨rfl, unhide HD6⟩
#print axioms lay_calls
end Go.Proofs.Ytcjfhfalffngjaa
namespace Go.Proofs.Ytcjfhfalffngjaa
open Go.RowKit Go.Lib
set_option maxRecDepth 100000
set_option linter.unusedVariables false
set_option linter.unusedSimpArgs false

/-- What lies beside a disk, by itself; set back whatever became of it. -/
theorem DiskIn.back {w0 w : World} {db : Nat} {d : DK} {l2 : List Res} (h : DiskIn w0 w db d l2) : ∃ dp, Hold w0 w (l2 ++ dp) ∧ ∀ w' l2', Hold w0 w' (l2' ++ dp) → DiskIn w0 w' db d l2' := by
  obtain ⟨g0, c0, g1, c1, v2, a1, a2, a3, a4, H⟩ := h.mem
  refine ⟨[_, _, _, _], H.perm (List.perm_append_comm (l₁ := l2)), fun w' l2' H' => ⟨h.ok, g0, c0, g1, c1, v2, a1, a2, a3, a4, H'.perm ?_⟩⟩
  exact List.perm_append_comm (l₁ := [_, _, _, _]) (l₂ := l2')
theorem Hold.lose {w0 w : World} (R : List Res) {l2 : List Res} (h : Hold w0 w (R ++ l2)) : Hold w0 w l2 := by
  induction R with
  | nil => exact h
  | cons r R ih => exact ih (h.forget [])
theorem DiskIn.lose {w0 w : World} {db : Nat} {d : DK} (R : List Res) {l2 : List Res} (h : DiskIn w0 w db d (R ++ l2)) : DiskIn w0 w db d l2 := by
  obtain ⟨dp, h1, h2⟩ := h.back
  exact h2 w l2 ((List.append_assoc R l2 dp ▸ h1).lose R)
theorem DiskIn.perm {w0 w : World} {db : Nat} {d : DK} {l2 l3 : List Res} (h : DiskIn w0 w db d l2) (hp : l3.Perm l2) : DiskIn w0 w db d l3 := by
  obtain ⟨dp, h1, h2⟩ := h.back
  exact h2 w l3 (h1.perm (hp.append_right dp))
/-- What a call has laid beyond all comes beside it. -/
theorem Hold.join {w0 w w' : World} {l2 : List Res} (h : Hold w0 w l2) : ∀ {rs : List Res}, Hold w w' rs → Hold w0 w' (rs ++ l2) := fun {rs} hr => by
  have h' := h.over hr.below
  refine ⟨fun q hq => ?_, fun x => ?_, h'.below⟩
  · rcases List.mem_append.1 hq with hq | hq
    · have hs := hr.sat q hq
      have hsz := h.size
      cases q with
      | cell b t vs => exact ⟨Nat.le_trans hsz hs.1, hs.2⟩
      | row v e k n xs => exact ownsRow_base hs hsz
      | obj b o => exact ⟨Nat.le_trans hsz hs.1, hs.2⟩
    · exact h'.sat q hq
  · rw [total_append]
    rcases Nat.lt_or_ge x w.heap.size with hx | hx
    · have : total rs x = 0 := by
        have key : ∀ l : List Res, (∀ r ∈ l, r.Sat w.heap.size w') → total l x = 0 := by
          intro l
          induction l with
          | nil => intro _; rfl
          | cons a l ih =>
            intro hl
            rw [total_cons, ih fun r hr => hl r (by simp [hr])]
            have := (hl a (by simp)).range x
            omega
        exact key rs hr.sat
      have := h.uniq x
      omega
    · have h1 := h.beyond hx
      have h2 := hr.uniq x
      omega
theorem DiskIn.join {w0 w w' : World} {db : Nat} {d : DK} {l2 rs : List Res} (h : DiskIn w0 w db d l2) (hr : Hold w w' rs) : DiskIn w0 w' db d (rs ++ l2) := by
  obtain ⟨dp, h1, h2⟩ := h.back
  exact h2 w' _ (by rw [List.append_assoc]; exact h1.join hr)
theorem DiskIn.over {w0 w w' : World} {db : Nat} {d : DK} {l2 : List Res} (h : DiskIn w0 w db d l2) (hb : Below w.heap.size w w') : DiskIn w0 w' db d l2 := h.keep (Kept.of_below hb)

theorem infoS_parts : ∃ i z, Try.prog.info? 9 = some i ∧ i.zero = some z ∧ i.size = 1 ∧ i.bytes = 16 ∧ z.cells.size = 1 := infoS
/-- A text behind the tail of texts: in their own row, or in a new one. -/
theorem str_tail {w0 wx : World} {g n cap : Nat} {s0 : List UInt8} {r : List (List UInt8)} {l2 : List Res} (hn : r.length + 1 = n) (H : Hold w0 wx (strR (.slice (some ⟨g, 0, none⟩) n cap) (s0 :: r) :: l2)) (hl : n ≤ 1000) (c : List UInt8) (o : Nat) (ho : (o = 1 ∧ ¬ cap = 1) ∨ (o = 0 ∧ cap = 1)) :
    ∃ b off c' w' R, (Builtin.append_ #[47, 47] 47 #[.slice (some ⟨g, o, none⟩) (n - 1) (cap - 1), .slice (some ⟨wx.heap.size, 0, none⟩) 1 1]).run Try.prog (wx.alloc (.cells #[.string (mkB c)] 9)) = .ok (.slice (some ⟨b, off, none⟩) n c') w' ∧ Hold w0 w' (R ++ l2) ∧
      (∀ w'' l3, (∀ x ∈ R, x ∈ l3) → Hold w0 w'' l3 → (∀ j s, (r ++ [c])[j]? = some s → w''.cell? ⟨b, off + j, none⟩ = some (.string (mkB s))) ∧ w''.cell? ⟨g, 0, none⟩ = some (.string (mkB s0))) := by
  subst hn
  obtain ⟨i, z, hi1, hz, hsz, hby, hzs⟩ := infoS_parts
  have h1 := H.made 9 [.string (mkB c)]
  have hnew : ∀ j u, [Value.string (mkB c)][j]? = some u → (wx.alloc (.cells #[.string (mkB c)] 9)).cell? ((⟨wx.heap.size, 0, none⟩ : Addr).add j) = some u := fun j u hj => by
    rw [add_plain, Nat.zero_add]
    exact h1.cellAt (.head _) hj
  have hrow := H.rowAt (.head _)
  obtain ⟨hg, hb, cur, hheap, hnc, hcm, hcs, htake⟩ : ∃ (_ : True) (_ : w0.heap.size ≤ g) (cur : Array Value), wx.heap[g]? = some (.cells cur 9 (0, 0)) ∧ r.length + 1 ≤ cap ∧ cap ≤ maxLen ∧ cur.size = cap * 1 ∧ cur.toList.take ((r.length + 1) * 1) = strV (s0 :: r) := by
    rcases hrow.2 with ⟨h0, _⟩ | ⟨g', cap', cur, hv, a1, a2, a3, a4, a5, a6⟩
    · cases h0
    · cases hv
      exact ⟨trivial, a1, cur, a2, a3, a4, a5, a6⟩
  have hglt : g < wx.heap.size := (Array.getElem?_eq_some_iff.1 hheap).1
  have hheap2 : (wx.alloc (.cells #[.string (mkB c)] 9)).heap[g]? = some (.cells cur 9 (0, 0)) := by
    rw [Below.heap_alloc _ _ _ hglt]; exact hheap
  have hrows : ∀ (w'' : World) (L : List (List UInt8)) (m : Nat) (l3 : List Res), L.length = m → Hold w0 w'' l3 → strR (.slice (some ⟨g, 0, none⟩) m cap) L ∈ l3 → ∀ j s, L[j]? = some s → w''.cell? ⟨g, j, none⟩ = some (.string (mkB s)) := fun w'' L m l3 hm hh hmem j s hj => by
    subst hm
    exact hh.rowCell hmem (strV_get hj)
  by_cases hroom : r.length + 1 + 1 ≤ cap
  · obtain rfl : o = 1 := by omega
    have hcell : ∀ j, j < [Value.string (mkB c)].length → ((wx.alloc (.cells #[.string (mkB c)] 9)).cell? ⟨g, 1 + (r.length + 1 - 1) * i.size + j, none⟩).isSome = true := fun j hj => by
      simp at hj
      subst hj
      rw [cell_of_row _ g _ cur 9 (0, 0) hheap2, hsz, Array.getElem?_eq_getElem (by omega)]
      rfl
    have hfr : ∀ j, j < [Value.string (mkB c)].length → (wx.alloc (.cells #[.string (mkB c)] 9)).frozen? ⟨g, 1 + (r.length + 1 - 1) * i.size + j, none⟩ = false := fun j _ => frozen_of_row _ g _ _ 9 hheap2
    have hr := run_append_room_cells (P := Try.prog) (wx.alloc (.cells #[.string (mkB c)] 9)) 47 47 9 i Try.underlying47 hi1 g 1 (r.length + 1 - 1) (cap - 1) ⟨wx.heap.size, 0, none⟩ 1 1 [.string (mkB c)] (by rw [hsz]; rfl) hnew (fun u hu => by rw [List.mem_singleton.1 hu]; rfl) (by omega) hcell hfr
    have hr2 := run_append_room_cells (P := Try.prog) (wx.alloc (.cells #[.string (mkB c)] 9)) 47 47 9 i Try.underlying47 hi1 g 0 (r.length + 1) cap ⟨wx.heap.size, 0, none⟩ 1 1 [.string (mkB c)] (by rw [hsz]; rfl) hnew (fun u hu => by rw [List.mem_singleton.1 hu]; rfl) (by omega)
      (fun j hj => by have := hcell j hj; rw [hsz] at this ⊢; rw [show 0 + (r.length + 1) * 1 + j = 1 + (r.length + 1 - 1) * 1 + j by omega]; exact this)
      (fun j hj => frozen_of_row _ g _ _ 9 hheap2)
    obtain ⟨v', w', h2, h3⟩ := str_add H c (by rw [List.length_cons]; omega)
    rw [hr2] at h2
    injection h2 with hv hw
    have hoff : 0 + (r.length + 1) * i.size = 1 + (r.length + 1 - 1) * i.size := by rw [hsz]; omega
    rw [hoff] at hw
    refine ⟨g, 1, cap - 1, w', [strR v' (s0 :: r ++ [c])], ?_, h3, ?_⟩
    · rw [hr, hw, show r.length + 1 - 1 + 1 = r.length + 1 by omega]
    · intro w'' l3 hR hh
      subst hv
      have hk := hrows w'' (s0 :: r ++ [c]) (r.length + 1 + 1) _ (by simp) hh (hR _ (.head _))
      refine ⟨fun j s hj => ?_, hk 0 s0 rfl⟩
      rw [Nat.add_comm]
      exact hk (j + 1) s (by rw [List.cons_append, List.getElem?_cons_succ]; exact hj)
  · have holds : ∀ j u, (strV r)[j]? = some u → (wx.alloc (.cells #[.string (mkB c)] 9)).cell? ((⟨g, o, none⟩ : Addr).add j) = some u := fun j u hj => by
      rw [add_plain]
      have hjl := (List.getElem?_eq_some_iff.1 hj).1
      rw [strV_length] at hjl
      obtain rfl : o = 1 := by omega
      obtain ⟨s, hs, rfl⟩ : ∃ s, r[j]? = some s ∧ u = .string (mkB s) := by
        unfold strV at hj
        rw [List.getElem?_map] at hj
        cases hs : r[j]? with
        | none => rw [hs] at hj; cases hj
        | some s => rw [hs] at hj; exact ⟨s, rfl, (Option.some.inj hj).symm⟩
      rw [Nat.add_comm]
      exact hrows _ (s0 :: r) (r.length + 1) _ rfl h1 (.tail _ (.head _)) (j + 1) s (by rw [List.getElem?_cons_succ]; exact hs)
    obtain ⟨v', w', hr, ho, hgr⟩ := run_append_arg_grows (P := Try.prog) (wx.alloc (.cells #[.string (mkB c)] 9)) 47 47 9 i z 1 16 Try.underlying47 hi1 hz hsz hby hzs (by decide) ⟨g, o, none⟩ (r.length + 1 - 1) (cap - 1) (strV r) (by rw [strV_length]; omega) holds ⟨wx.heap.size, 0, none⟩ 1 1 [.string (mkB c)] rfl hnew (by omega) (by unfold maxLen; omega) (by omega)
    have hbel : Below (wx.alloc (.cells #[.string (mkB c)] 9)).heap.size (wx.alloc (.cells #[.string (mkB c)] 9)) w' := (Below.refl _ _).grown hgr (Nat.le_refl _) (fun k hk => by cases hk)
    have hlen : r.length + 1 - 1 + 1 = (r ++ [c]).length := by simp
    have happ : strV r ++ [.string (mkB c)] = strV (r ++ [c]) := by simp [strV]
    rw [hlen, happ] at ho
    have hj : Hold (wx.alloc (.cells #[.string (mkB c)] 9)) w' [strR v' (r ++ [c])] := (Hold.init _).newRow hbel ho (fun y hy => (World.ownsRow.lt ho y hy).1)
    have h4 := (h1.forget []).join hj
    obtain ⟨p', c', hv', _⟩ := row_slice ho
    obtain ⟨b', cc, hv2, _⟩ := row_shape ho (by simp)
    have hl1 : (r ++ [c]).length = r.length + 1 := by simp
    rw [hl1] at hv2
    refine ⟨b', 0, cc, w', [strR v' (r ++ [c]), strR (.slice (some ⟨g, 0, none⟩) (r.length + 1) cap) (s0 :: r)], by rw [hr, hv2], h4, ?_⟩
    intro w'' l3 hR hh
    refine ⟨fun j s hj => ?_, hrows w'' (s0 :: r) (r.length + 1) _ rfl hh (hR _ (.tail _ (.head _))) 0 s0 rfl⟩
    rw [Nat.zero_add]
    have hm : Res.row (.slice (some ⟨b', 0, none⟩) (r.length + 1) cc) 9 1 (r.length + 1) (strV (r ++ [c])) ∈ l3 := by
      have := hR _ (.head _)
      unfold strR at this
      rw [hl1, hv2] at this
      exact this
    exact hh.rowCell hm (strV_get hj)
#print axioms str_tail
#print axioms DiskIn.join
end Go.Proofs.Ytcjfhfalffngjaa
