import Derived.Test.YtjpmomklkkifjaaGreatDoorCFGood
import Derived.Test.YtjpmomklkkifjaaGreatDoorCFAddF
import Derived.Deep.RegionHeldLaw
import Derived.Test.YtjpmomklkkifjaaGreatDoorCBSearch
import Derived.Deep.QuietTactic
import Derived.BigQuiet
import Derived.BigRegion
set_option maxRecDepth 100000
set_option linter.unusedVariables false
set_option linter.unusedSimpArgs false
namespace Go.Proofs.YtjpmomklkkifjaaGreatDoor.T
open Go.RowKit
def rootN (tb : Nat) : NV := ⟨1, 1, 1, 1, ⟨#[]⟩, some tb⟩
theorem H0.fs {w0 w : World} {l2 : List Res} (h : H0 w0 w l2) (hb : w0.heap.size ≤ w.heap.size) : FSIn w0 ((w.alloc (.map #[] 0)).alloc (.cells #[.map (some w.heap.size), .int .i64 2] 77)) (w.heap.size + 1) w.heap.size [] [] 2 l2 := by
  have h1 := Hold.mapNew h hb
  have h2 := Hold.made h1 (by simp; omega) 77 [.map (some w.heap.size), .int .i64 2]
  rw [World.size_alloc] at h2
  exact ⟨[], .nil, h2⟩
theorem look_nil (w : World) : (Instr.lookup 117 (.map none) (.int .i64 1) false).run Tryz.prog w = .ok (.slice none 0 0) w := by
  first | kernel_rfl | rfl | (simp [Instr.lookup, go_sem]; done)
set_option maxHeartbeats 4000000 in
theorem of_calls {w0 w : World} {S : Nat} {l2 : List Res} (h : H0 w0 w (.cell S 33 [.int .i64 1, .int .i64 1, .int .i64 1, .int .i64 1, .string ⟨#[]⟩] :: l2)) (hb : w0.heap.size ≤ w.heap.size) :
    Calls Tryz.prog 80 #[.slice (some ⟨S, 0, none⟩) 1 1, .map none, .int .i64 2] w fun e w' => ∃ fb mb tb, e = .returned (.pointer (some ⟨fb, 0, none⟩)) ∧ FSIn w0 w' fb mb [rootN tb] [(tb, [])] 2 l2 := by
  have h1 := H0.fs h hb
  obtain ⟨mb, hmb⟩ : ∃ mb, w.heap.size = mb := ⟨_, rfl⟩
  rw [hmb] at h1
  obtain ⟨w1, hw1⟩ : ∃ w1, (w.alloc (.map #[] 0)).alloc (.cells #[.map (some mb), .int .i64 2] 77) = w1 := ⟨_, rfl⟩
  rw [hw1] at h1
  have s0 : w1.cell? ⟨S, 0, none⟩ = some (.int .i64 1) := h1.cellAt (.head _) rfl
  have s1 : w1.cell? ⟨S, 1, none⟩ = some (.int .i64 1) := h1.cellAt (.head _) rfl
  have s2 : w1.cell? ⟨S, 2, none⟩ = some (.int .i64 1) := h1.cellAt (.head _) rfl
  have s3 : w1.cell? ⟨S, 3, none⟩ = some (.int .i64 1) := h1.cellAt (.head _) rfl
  have s4 : w1.cell? ⟨S, 4, none⟩ = some (.string ⟨#[]⟩) := h1.cellAt (.head _) rfl
  have hmm := @run_makeMap Tryz.prog
  have H1 := hide h1
  clear h h1
  go_enter Tryz.func80, Tryz.ntmps80
  go_wp2_with fail
  obtain ⟨D, hD⟩ : ∃ D, w1.heap.size = D := ⟨_, rfl⟩
  have h2 := (unhide H1).made 33 [.int .i64 1, .int .i64 1, .int .i64 1, .int .i64 1, .string ⟨#[]⟩]
  rw [hD] at h2
  have hno := nodeOf_folder w0 (w1.alloc (.cells #[.int .i64 1, .int .i64 1, .int .i64 1, .int .i64 1, .string ⟨#[]⟩] 33)).drew (mb + 1) mb [] [] 2 _ h2.drew 1 1 1 ⟨#[]⟩
  have HNo := hide hno
  have HSx : Hid (∀ wx M G l, FSIn w0 wx (mb + 1) mb M G 2 l → Res.cell D 33 [.int .i64 1, .int .i64 1, .int .i64 1, .int .i64 1, .string ⟨#[]⟩] ∈ l → wx.cell? ⟨mb + 1, 0, none⟩ = some (.map (some mb)) ∧ wx.cell? ⟨D, 0, none⟩ = some (.int .i64 1) ∧ wx.cell? ⟨D, 1, none⟩ = some (.int .i64 1) ∧ wx.cell? ⟨D, 2, none⟩ = some (.int .i64 1) ∧ wx.cell? ⟨D, 3, none⟩ = some (.int .i64 1) ∧ wx.cell? ⟨D, 4, none⟩ = some (.string ⟨#[]⟩)) := fun wx M G l hx hm => ⟨hx.map0, hx.cellAt hm rfl, hx.cellAt hm rfl, hx.cellAt hm rfl, hx.cellAt hm rfl, hx.cellAt hm rfl⟩
  have HS0 := hide (unhide HSx _ _ _ _ h2.drew (.head _))
  have hln := look_nil (w1.alloc (.cells #[.int .i64 1, .int .i64 1, .int .i64 1, .int .i64 1, .string ⟨#[]⟩] 33)).drew
  have HLn : Hid (∀ wx, (Instr.lookup 117 (.map none) (.int .i64 1) false).run Tryz.prog wx = .ok (.slice none 0 0) wx) := look_nil
  clear h2 hno
  go_loopg [16] 2 (fun g vi wr => (g = 2 ∧ vi = .int .i64 0 ∧ wr = w1) ∨ (g = 1 ∧ vi = .int .i64 1 ∧ ∃ tb, Hid (FSIn w0 wr (mb + 1) mb [rootN tb] [(tb, [])] 2 l2)))
  case atStart => exact .inl ⟨rfl, rfl, rfl⟩
  case round =>
    rcases hrel with ⟨rfl, rfl, rfl⟩ | ⟨rfl, rfl, tb, H9⟩
    · go_wp2_with fail
      go_region_held (fun w' => w'.cell? ⟨mb + 1, 0, none⟩ = some (.map (some mb)) ∧ w'.cell? ⟨D, 0, none⟩ = some (.int .i64 1) ∧ w'.cell? ⟨D, 1, none⟩ = some (.int .i64 1) ∧ w'.cell? ⟨D, 2, none⟩ = some (.int .i64 1) ∧ w'.cell? ⟨D, 3, none⟩ = some (.int .i64 1) ∧ w'.cell? ⟨D, 4, none⟩ = some (.string ⟨#[]⟩)) (first | exact unhide HS6 | exact unhide HS5 | exact unhide HS0) ((go_at_call 105; refine (unhide HNo).mono ?_; rintro e w5 ⟨tb, rfl, h5⟩; have HS5 := hide (unhide HSx _ _ _ _ h5 (.head _)); obtain ⟨w6, hput, h6⟩ := h5.mapPut (by decide) (rootN tb) (wfI_of (by simp [rootN]) (by simp [rootN])); have hput' : Sem.run Tryz.prog (Instr.mapUpdate 75 (.map (some mb)) (.int .i64 1) (.agg #[.int .i64 1, .int .i64 1, .int .i64 1, .int .i64 1, .string ⟨#[]⟩, .pointer (some ⟨tb, 0, none⟩)])) w5 = .ok () w6 := hput; have HS6 := hide (unhide HSx _ _ _ _ h6 (.head _)); have H6 := hide h6; clear h5 h6 hput))
      all_goals
        go_wp2_with fail
        go_roundg 1
        case measure => omega
        case rel => exact .inr ⟨rfl, by simp, tb, (((unhide H6).forget []).forget [])⟩
    · go_wp2_with fail
      go_ret
      exact ⟨mb + 1, mb, tb, rfl, unhide H9⟩
set_option maxHeartbeats 1000000 in
theorem fsNew_calls {w0 w : World} {l2 : List Res} (h : H0 w0 w l2) (hb : w0.heap.size ≤ w.heap.size) :
    Calls Tryz.prog 40 #[] w fun e w' => ∃ fb mb tb, e = .returned (.pointer (some ⟨fb, 0, none⟩)) ∧ FSIn w0 w' fb mb [rootN tb] [(tb, [])] 2 l2 := by
  have h1 := Hold.made (Hold.made h hb 33 [.int .i64 1, .int .i64 1, .int .i64 1, .int .i64 1, .string ⟨#[]⟩]) (by simp; omega) 33 [.int .i64 1, .int .i64 1, .int .i64 1, .int .i64 1, .string ⟨#[]⟩]
  rw [World.size_alloc] at h1
  have hof := of_calls h1 (by simp; omega)
  have HO := hide hof
  clear h h1 hof
  go_enter Tryz.func40, Tryz.ntmps40
  go_wp2_with fail
  refine (unhide HO).mono ?_
  rintro e w2 ⟨fb, mb, tb, rfl, h2⟩
  have H2 := hide h2
  clear h2 HO
  go_wp2_with fail
  go_ret
  exact ⟨fb, mb, tb, rfl, (unhide H2).forget []⟩
theorem goo_new (tb : Nat) : Goo 0 [rootN tb] [(tb, [])] 2 := by
  refine ⟨⟨fun v hv hk => ?_, by simp, fun v hv => ?_, fun v hv => ?_, fun x hx it hit => ?_, fun x hx it hit => ?_, by decide, fun x hx => ?_⟩, fun x hx => ?_, fun v hv => ?_, by decide⟩
  · rw [List.mem_singleton.1 hv]; exact ⟨tb, rfl, by simp⟩
  · rw [List.mem_singleton.1 hv]; exact ⟨by simp [rootN], by simp [rootN]⟩
  · rw [List.mem_singleton.1 hv]; exact ⟨by simp [rootN], by simp [rootN]⟩
  · rw [List.mem_singleton.1 hx] at hit; cases hit
  · rw [List.mem_singleton.1 hx] at hit; cases hit
  · rw [List.mem_singleton.1 hx]; exact Nat.zero_le _
  · rw [List.mem_singleton.1 hx]; exact Nat.zero_le _
  · rw [List.mem_singleton.1 hv]; exact ⟨by simp [rootN], by simp [rootN]⟩
theorem whole_new (tb : Nat) : Whole [rootN tb] [(tb, [])] 2 := by
  have hp : pairs [rootN tb] [(tb, [])] = [] := by simp [pairs, tagE, entsK, entsOf, rootN, lookF]
  refine ⟨?_, ⟨by simp, fun x hx it hit => ?_, fun x hx => ?_⟩, fun v hv => ?_, fun v hv _ => ?_, fun u hu v hv _ _ _ => ?_⟩
  · rw [hp]
    refine ⟨by simp, ⟨rootN tb, by simp, rfl, rfl, rfl⟩, fun v hv => ?_, fun x hx => (by cases hx), fun x hx => (by cases hx), fun v hv h => ?_, fun v hv _ h => ?_, fun v hv _ => ?_⟩
    · rw [List.mem_singleton.1 hv]; exact .inl ⟨rfl, rfl, rfl⟩
    · rw [List.mem_singleton.1 hv] at h; exact absurd rfl h
    · rw [List.mem_singleton.1 hv] at h; exact absurd rfl h
    · rw [List.mem_singleton.1 hv]; exact .root
  · rw [List.mem_singleton.1 hx] at hit; cases hit
  · rw [List.mem_singleton.1 hx]; exact List.Pairwise.nil
  · rw [List.mem_singleton.1 hv]; exact ⟨by simp [rootN], by simp [rootN]⟩
  · rw [List.mem_singleton.1 hv]; exact ⟨tb, rfl, by simp⟩
  · rw [List.mem_singleton.1 hu, List.mem_singleton.1 hv]
theorem good_new (tb : Nat) : Good 0 [rootN tb] [(tb, [])] 2 := ⟨goo_new tb, whole_new tb⟩
end Go.Proofs.YtjpmomklkkifjaaGreatDoor.T
namespace Go.Proofs.YtjpmomklkkifjaaGreatDoor.T
open Go.RowKit
def ChOk (w : World) (v : Value) : Prop :=
  (∃ p c, v = .slice p 0 c) ∨ ∃ b off m c, v = .slice (some ⟨b, off, none⟩) m c ∧ m ≤ 9223372036854775807 ∧ ∀ j, j < m → ∃ key val : ByteArray, w.cell? ⟨b, off + j * 3, none⟩ = some (.string key) ∧ w.cell? ⟨b, off + j * 3 + 1, none⟩ = some (.string val)
def AnyBool (e : Ending) : Prop := ∃ r : Bool, e = .returned (.bool r)
def LightEnd (n most : Nat) (e : Ending) : Prop := ∃ r : Bool, e = .returned (.bool r) ∧ (r = true → n ≤ most)
set_option maxRecDepth 100000 in
theorem lightChanges_calls (v : Value) (w : World) (h : ChOk w v) (most : Nat) (hm : most ≤ 1000) :
    Calls Tryz.prog 37 #[v, .int .i64 most] w fun e w' => AnyBool e ∧ w' = w := by
  rcases h with ⟨p, c, rfl⟩ | ⟨b, off, m, c, rfl, hm63, hc⟩
  · go_enter Tryz.func37, Tryz.ntmps37
    have hz : ¬ ((most : Int) < 0) := by omega
    go_wp2_with fail
    go_loopg [5] 1 (fun g vi wr => vi = .int .i64 0 ∧ wr = w)
    case atStart => exact ⟨rfl, rfl⟩
    case round =>
      obtain ⟨rfl, rfl⟩ := hrel
      go_wp2_with fail
      go_ret
      exact ⟨⟨_, rfl⟩, rfl⟩
  · have HC := hide hc
    clear hc
    by_cases hmm : most < m
    · have hz : (most : Int) < (m : Int) := by omega
      go_enter Tryz.func37, Tryz.ntmps37
      go_wp2_with fail
      go_ret
      exact ⟨⟨_, rfl⟩, rfl⟩
    · have hz : ¬ ((most : Int) < (m : Int)) := by omega
      go_enter Tryz.func37, Tryz.ntmps37
      go_wp2_with fail
      go_loopg [5] (m + 1) (fun g vi wr => ∃ i : Nat, m - i < g ∧ i ≤ m ∧ vi = .int .i64 i ∧ wr = w)
      case atStart => exact ⟨0, by omega, by omega, rfl, rfl⟩
      case round =>
        obtain ⟨i, hg, hi, rfl, rfl⟩ := hrel
        by_cases him : i < m
        · have hiz : (i : Int) < (m : Int) := by omega
          obtain ⟨key, val, q1, q2⟩ := unhide HC i him
          by_cases h1 : 60 < key.size
          · have hz1 : (60 : Int) < (key.size : Int) := by omega
            go_wp2_with fail
            go_ret
            exact ⟨⟨_, rfl⟩, rfl⟩
          · have hz1 : ¬ ((60 : Int) < (key.size : Int)) := by omega
            by_cases h2 : 60 < val.size
            · have hz2 : (60 : Int) < (val.size : Int) := by omega
              go_wp2_with fail
              go_ret
              exact ⟨⟨_, rfl⟩, rfl⟩
            · have hz2 : ¬ ((60 : Int) < (val.size : Int)) := by omega
              go_wp2_with fail
              go_roundg (m - i)
              case measure => omega
              case rel => exact ⟨i + 1, by omega, by omega, by simp, rfl⟩
        · have hiz : ¬ ((i : Int) < (m : Int)) := by omega
          go_wp2_with fail
          go_ret
          exact ⟨⟨_, rfl⟩, rfl⟩
structure ActD where
  kind : ByteArray
  s : ByteArray
  t : ByteArray
  n : Int
  ch : Value
def ActsOk (w : World) (v : Value) (n : Nat) (f : Nat → ActD) : Prop :=
  ((∃ p c, v = .slice p 0 c) ∧ n = 0) ∨ ∃ b off c, v = .slice (some ⟨b, off, none⟩) n c ∧ n ≤ 9223372036854775807 ∧ b < w.heap.size ∧ ∀ j, j < n → w.cell? ⟨b, off + j * 6, none⟩ = some (.string (f j).kind) ∧ w.cell? ⟨b, off + j * 6 + 1, none⟩ = some (.string (f j).s) ∧ w.cell? ⟨b, off + j * 6 + 2, none⟩ = some (.string (f j).t) ∧ w.cell? ⟨b, off + j * 6 + 3, none⟩ = some (.int .i64 (f j).n) ∧ (∃ u, w.cell? ⟨b, off + j * 6 + 4, none⟩ = some (.int .u64 u)) ∧ w.cell? ⟨b, off + j * 6 + 5, none⟩ = some (f j).ch ∧ ChOk w (f j).ch
end Go.Proofs.YtjpmomklkkifjaaGreatDoor.T
namespace Go.Proofs.YtjpmomklkkifjaaGreatDoor.T
open Go.RowKit
set_option maxHeartbeats 4000000 in
theorem done_good {w0 w : World} {fb mb : Nat} {N : List NV} {F : Forest} {next : Int} {l2 : List Res} {k : Nat} (hR : Ready w0) (h : FSIn w0 w fb mb N F next l2) (hG : Good k N F next) (hk : k < 800) (a : ActD) (uk : Int) (cp : Option Addr) (cn cc : Nat) (hs : a.s.size ≤ 4000000000) (ht : a.t.size ≤ 4000000000) :
    Calls Tryz.prog 34 #[.pointer (some ⟨fb, 0, none⟩), .agg #[.string a.kind, .string a.s, .string a.t, .int .i64 a.n, .int .u64 uk, .slice cp cn cc]] w fun e w' => GoodEnd w0 fb mb l2 (k + 1) e w' := by
  obtain ⟨B, hB⟩ : ∃ B, w.heap.size = B := ⟨_, rfl⟩
  have h1 := h.made 64 [.string a.kind, .string a.s, .string a.t, .int .i64 a.n, .int .u64 uk, .slice cp cn cc]
  rw [hB] at h1
  clear h
  obtain ⟨bm, hbm⟩ : ∃ bm, (a.kind.toList == [109, 107, 100, 105, 114]) = bm := ⟨_, rfl⟩
  obtain ⟨bc, hbc⟩ : ∃ bc, (a.kind.toList == [99, 114, 101, 97, 116, 101]) = bc := ⟨_, rfl⟩
  obtain ⟨bw, hbw⟩ : ∃ bw, (a.kind.toList == [119, 114, 105, 116, 101]) = bw := ⟨_, rfl⟩
  obtain ⟨bl, hbl⟩ : ∃ bl, (a.kind.toList == [108, 105, 110, 107]) = bl := ⟨_, rfl⟩
  obtain ⟨br, hbr⟩ : ∃ br, (a.kind.toList == [114, 109]) = br := ⟨_, rfl⟩
  obtain ⟨bd, hbd⟩ : ∃ bd, (a.kind.toList == [114, 109, 100, 105, 114]) = bd := ⟨_, rfl⟩
  obtain ⟨bv, hbv⟩ : ∃ bv, (a.kind.toList == [109, 118]) = bv := ⟨_, rfl⟩
  cases bm with
  | true =>
    have hc := mkdir_good hR h1 hG hk a.s hs
    have HC := hide hc
    clear hc h1 hG hR
    go_enter Tryz.func34, Tryz.ntmps34
    go_wp2_with fail
    refine (unhide HC).mono ?_
    rintro e w2 ⟨o, N', F', next', rfl, h2, hG2⟩
    obtain ⟨ov, hov⟩ : ∃ ov, errV o = ov := ⟨_, rfl⟩
    have H2 : Hid (GoodEnd w0 fb mb l2 (k + 1) (.returned ov) w2) := by rw [← hov]; exact ⟨o, N', F', next', rfl, h2.forget [], hG2⟩
    have hovs : ∃ t v, ov = .iface t v ∨ ov = .nilIface := by
      rw [← hov]; cases o with
      | none => exact ⟨0, .nilIface, .inr rfl⟩
      | some k => exact ⟨_, _, .inl rfl⟩
    rw [hov]
    clear h2 hG2 HC hov
    go_wp2_with fail
    go_ret
    exact unhide H2
  | false =>
  cases bc with
  | true =>
    have hc := create_good hR h1 hG hk a.s a.t hs ht
    have HC := hide hc
    clear hc h1 hG hR
    go_enter Tryz.func34, Tryz.ntmps34
    go_wp2_with fail
    refine (unhide HC).mono ?_
    rintro e w2 ⟨o, N', F', next', rfl, h2, hG2⟩
    obtain ⟨ov, hov⟩ : ∃ ov, errV o = ov := ⟨_, rfl⟩
    have H2 : Hid (GoodEnd w0 fb mb l2 (k + 1) (.returned ov) w2) := by rw [← hov]; exact ⟨o, N', F', next', rfl, h2.forget [], hG2⟩
    have hovs : ∃ t v, ov = .iface t v ∨ ov = .nilIface := by
      rw [← hov]; cases o with
      | none => exact ⟨0, .nilIface, .inr rfl⟩
      | some k => exact ⟨_, _, .inl rfl⟩
    rw [hov]
    clear h2 hG2 HC hov
    go_wp2_with fail
    go_ret
    exact unhide H2
  | false =>
  cases bw with
  | true =>
    have hc := write_good hR h1 hG hk a.s a.t hs ht
    have HC := hide hc
    clear hc h1 hG hR
    go_enter Tryz.func34, Tryz.ntmps34
    go_wp2_with fail
    refine (unhide HC).mono ?_
    rintro e w2 ⟨o, N', F', next', rfl, h2, hG2⟩
    obtain ⟨ov, hov⟩ : ∃ ov, errV o = ov := ⟨_, rfl⟩
    have H2 : Hid (GoodEnd w0 fb mb l2 (k + 1) (.returned ov) w2) := by rw [← hov]; exact ⟨o, N', F', next', rfl, h2.forget [], hG2⟩
    have hovs : ∃ t v, ov = .iface t v ∨ ov = .nilIface := by
      rw [← hov]; cases o with
      | none => exact ⟨0, .nilIface, .inr rfl⟩
      | some k => exact ⟨_, _, .inl rfl⟩
    rw [hov]
    clear h2 hG2 HC hov
    go_wp2_with fail
    go_ret
    exact unhide H2
  | false =>
  cases bl with
  | true =>
    have hc := link_good hR h1 hG hk a.s a.t hs ht
    have HC := hide hc
    clear hc h1 hG hR
    go_enter Tryz.func34, Tryz.ntmps34
    go_wp2_with fail
    refine (unhide HC).mono ?_
    rintro e w2 ⟨o, N', F', next', rfl, h2, hG2⟩
    obtain ⟨ov, hov⟩ : ∃ ov, errV o = ov := ⟨_, rfl⟩
    have H2 : Hid (GoodEnd w0 fb mb l2 (k + 1) (.returned ov) w2) := by rw [← hov]; exact ⟨o, N', F', next', rfl, h2.forget [], hG2⟩
    have hovs : ∃ t v, ov = .iface t v ∨ ov = .nilIface := by
      rw [← hov]; cases o with
      | none => exact ⟨0, .nilIface, .inr rfl⟩
      | some k => exact ⟨_, _, .inl rfl⟩
    rw [hov]
    clear h2 hG2 HC hov
    go_wp2_with fail
    go_ret
    exact unhide H2
  | false =>
  cases br with
  | true =>
    have hc := remove_good hR h1 hG hk a.s hs bd
    have HC := hide hc
    clear hc h1 hG hR
    go_enter Tryz.func34, Tryz.ntmps34
    go_wp2_with fail
    refine (unhide HC).mono ?_
    rintro e w2 ⟨o, N', F', next', rfl, h2, hG2⟩
    obtain ⟨ov, hov⟩ : ∃ ov, errV o = ov := ⟨_, rfl⟩
    have H2 : Hid (GoodEnd w0 fb mb l2 (k + 1) (.returned ov) w2) := by rw [← hov]; exact ⟨o, N', F', next', rfl, h2.forget [], hG2⟩
    have hovs : ∃ t v, ov = .iface t v ∨ ov = .nilIface := by
      rw [← hov]; cases o with
      | none => exact ⟨0, .nilIface, .inr rfl⟩
      | some k => exact ⟨_, _, .inl rfl⟩
    rw [hov]
    clear h2 hG2 HC hov
    go_wp2_with fail
    go_ret
    exact unhide H2
  | false =>
  cases bd with
  | true =>
    have hc := remove_good hR h1 hG hk a.s hs true
    have HC := hide hc
    clear hc h1 hG hR
    go_enter Tryz.func34, Tryz.ntmps34
    go_wp2_with fail
    refine (unhide HC).mono ?_
    rintro e w2 ⟨o, N', F', next', rfl, h2, hG2⟩
    obtain ⟨ov, hov⟩ : ∃ ov, errV o = ov := ⟨_, rfl⟩
    have H2 : Hid (GoodEnd w0 fb mb l2 (k + 1) (.returned ov) w2) := by rw [← hov]; exact ⟨o, N', F', next', rfl, h2.forget [], hG2⟩
    have hovs : ∃ t v, ov = .iface t v ∨ ov = .nilIface := by
      rw [← hov]; cases o with
      | none => exact ⟨0, .nilIface, .inr rfl⟩
      | some k => exact ⟨_, _, .inl rfl⟩
    rw [hov]
    clear h2 hG2 HC hov
    go_wp2_with fail
    go_ret
    exact unhide H2
  | false =>
  cases bv with
  | true =>
    have hc := rename_good hR h1 hG hk a.s a.t hs ht
    have HC := hide hc
    clear hc h1 hG hR
    go_enter Tryz.func34, Tryz.ntmps34
    go_wp2_with fail
    refine (unhide HC).mono ?_
    rintro e w2 ⟨o, N', F', next', rfl, h2, hG2⟩
    obtain ⟨ov, hov⟩ : ∃ ov, errV o = ov := ⟨_, rfl⟩
    have H2 : Hid (GoodEnd w0 fb mb l2 (k + 1) (.returned ov) w2) := by rw [← hov]; exact ⟨o, N', F', next', rfl, h2.forget [], hG2⟩
    have hovs : ∃ t v, ov = .iface t v ∨ ov = .nilIface := by
      rw [← hov]; cases o with
      | none => exact ⟨0, .nilIface, .inr rfl⟩
      | some k => exact ⟨_, _, .inl rfl⟩
    rw [hov]
    clear h2 hG2 HC hov
    go_wp2_with fail
    go_ret
    exact unhide H2
  | false =>
  have H1 := hide h1
  clear h1 hR
  have HGd := hide hG
  clear hG
  go_enter Tryz.func34, Tryz.ntmps34
  go_wp2_with fail
  go_ret
  exact ⟨none, _, _, _, rfl, (unhide H1).forget [], (unhide HGd).mono (by omega)⟩
end Go.Proofs.YtjpmomklkkifjaaGreatDoor.T
namespace Go.Proofs.YtjpmomklkkifjaaGreatDoor.T
open Go.RowKit
def GrownEnd (w0 : World) (l2 : List Res) (e : Ending) (w' : World) : Prop :=
  (e = .returned (.tuple #[.pointer none, .bool false]) ∧ H0 w0 w' l2) ∨ ∃ fb mb N F next, e = .returned (.tuple #[.pointer (some ⟨fb, 0, none⟩), .bool true]) ∧ FSIn w0 w' fb mb N F next l2 ∧ Good 60 N F next
def LightTold (n most : Nat) (f : Nat → ActD) (e : Ending) : Prop := ∃ r : Bool, e = .returned (.bool r) ∧ (r = true → n ≤ most ∧ ∀ j, j < n → (f j).s.size ≤ 200 ∧ (f j).t.size ≤ 200)
set_option maxHeartbeats 2000000 in
theorem grown_of {w0 w : World} {l2 : List Res} (hR : Ready w0) (h : H0 w0 w l2) (hb : w0.heap.size ≤ w.heap.size) (va : Value) (na : Nat) (fa : Nat → ActD) (hA : ActsOk w0 va na fa)
    (hLA : Calls Tryz.prog 32 #[va, .int .i64 60] w fun e w' => LightTold na 60 fa e ∧ w' = w) :
    Calls Tryz.prog 14 #[va] w fun e w' => GrownEnd w0 l2 e w' := by
  have hsl : ∃ p c, va = .slice p na c := by
    rcases hA with ⟨⟨p, c, h1⟩, h2⟩ | ⟨b, off, c, h1, _⟩
    · exact ⟨p, c, by rw [h2]; exact h1⟩
    · exact ⟨_, c, h1⟩
  obtain ⟨pv, cv, hv⟩ := hsl
  subst hv
  have HA := hide hA
  have HL := hide hLA
  have hnew := fsNew_calls h hb
  have HNw := hide hnew
  have HH := hide h
  have HR := hide hR
  clear hA hLA hnew h hR
  go_enter Tryz.func14, Tryz.ntmps14
  go_wp2_with fail
  refine (unhide HL).mono ?_
  rintro e w2 ⟨⟨r, rfl, hr⟩, rfl⟩
  clear HL
  cases r with
  | false =>
    clear hr
    go_wp2_with fail
    go_ret2
    exact .inl ⟨rfl, unhide HH⟩
  | true =>
    obtain ⟨hna, hsz⟩ := hr rfl
    have HSz := hide hsz
    clear hr hsz
    go_wp2_with fail
    refine (unhide HNw).mono ?_
    rintro e w3 ⟨fb, mb, tb, rfl, h3⟩
    have H3 : Hid (∃ N F next, FSIn w0 w3 fb mb N F next l2 ∧ Good 0 N F next) := ⟨_, _, _, h3, good_new tb⟩
    clear h3 HNw
    go_wp2_with fail
    go_loopg [5] (na + 1) (fun g vi wr => ∃ (i : Nat), na - i < g ∧ i ≤ na ∧ vi = .int .i64 i ∧ Hid (∃ N F next, FSIn w0 wr fb mb N F next l2 ∧ Good i N F next))
    case atStart => exact ⟨0, by omega, by omega, rfl, H3⟩
    case round =>
      obtain ⟨i, hg, hi, rfl, HI⟩ := hrel
      clear H3
      by_cases hin : i < na
      · have hiz : (i : Int) < (na : Int) := by omega
        obtain ⟨N, F, next, hI, hGd⟩ := unhide HI
        rcases unhide HA with ⟨_, h0⟩ | ⟨b, off, c, hv, hn63, hbb, hcells⟩
        · omega
        injection hv with hp _ hcc
        subst hp hcc
        obtain ⟨p0, p1, p2, p3, ⟨uk, p4⟩, p5, pch⟩ := hcells i hin
        have below := hI.below
        have hcb : ∀ p : Addr, p.block = b → wr.cell? p = w0.cell? p := fun p hp => World.cell?_of_block (w := w0) (below.block p.block (by rw [hp]; exact hbb))
        have q0 := (hcb ⟨b, off + i * 6, none⟩ rfl).trans p0
        have q1 := (hcb ⟨b, off + i * 6 + 1, none⟩ rfl).trans p1
        have q2 := (hcb ⟨b, off + i * 6 + 2, none⟩ rfl).trans p2
        have q3 := (hcb ⟨b, off + i * 6 + 3, none⟩ rfl).trans p3
        have q4 := (hcb ⟨b, off + i * 6 + 4, none⟩ rfl).trans p4
        have q5 := (hcb ⟨b, off + i * 6 + 5, none⟩ rfl).trans p5
        obtain ⟨hs1, hs2⟩ := unhide HSz i hin
        have hsl : ∃ cp cn cc, (fa i).ch = .slice cp cn cc := by
          rcases pch with ⟨p, c, h1⟩ | ⟨b, off, m, c, h1, _⟩
          · exact ⟨_, _, _, h1⟩
          · exact ⟨_, _, _, h1⟩
        obtain ⟨cp, cn, cc, hch⟩ := hsl
        rw [hch] at q5
        have hd := done_good (unhide HR) hI hGd (by omega) (fa i) uk cp cn cc (by omega) (by omega)
        have HD := hide hd
        clear hI hGd hcells p0 p1 p2 p3 p4 p5 pch below hcb hd HI hch
        go_wp2_with fail
        refine (unhide HD).mono ?_
        rintro e w4 ⟨o, N', F', next', rfl, h4, hG4⟩
        have HI4 : Hid (∃ N F next, FSIn w0 w4 fb mb N F next l2 ∧ Good (i + 1) N F next) := ⟨_, _, _, h4, hG4⟩
        obtain ⟨ov, hov⟩ : ∃ ov, errV o = ov := ⟨_, rfl⟩
        rw [hov]
        clear h4 hG4 HD hov
        go_wp2_with fail
        go_roundg (na - i)
        case measure => omega
        case rel => exact ⟨i + 1, by omega, by omega, by simp, HI4⟩
      · have hiz : ¬ (i : Int) < (na : Int) := by omega
        go_wp2_with fail
        go_ret2
        obtain ⟨N, F, next, hI, hGd⟩ := unhide HI
        exact .inr ⟨fb, mb, N, F, next, rfl, hI, hGd.mono (by omega)⟩
end Go.Proofs.YtjpmomklkkifjaaGreatDoor.T
namespace Go.Proofs.YtjpmomklkkifjaaGreatDoor.T
open Go.RowKit
set_option maxRecDepth 100000 in
set_option maxHeartbeats 1000000 in
theorem lightActs_told (v : Value) (n : Nat) (f : Nat → ActD) (w : World) (h : ActsOk w v n f) (most : Nat) (hm : most ≤ 1000) :
    Calls Tryz.prog 32 #[v, .int .i64 most] w fun e w' => LightTold n most f e ∧ w' = w := by
  rcases h with ⟨⟨p, c, rfl⟩, rfl⟩ | ⟨b, off, c, rfl, hn63, hb, hc⟩
  · go_enter Tryz.func32, Tryz.ntmps32
    have hz : ¬ ((most : Int) < 0) := by omega
    go_wp2_with fail
    go_loopg [5] 1 (fun g vi wr => vi = .int .i64 0 ∧ wr = w)
    case atStart => exact ⟨rfl, rfl⟩
    case round =>
      obtain ⟨rfl, rfl⟩ := hrel
      go_wp2_with fail
      go_ret
      exact ⟨⟨true, rfl, fun _ => ⟨Nat.zero_le _, fun j hj => by omega⟩⟩, rfl⟩
  · have HC := hide hc
    clear hc
    by_cases hmm : most < n
    · have hz : (most : Int) < (n : Int) := by omega
      go_enter Tryz.func32, Tryz.ntmps32
      go_wp2_with fail
      go_ret
      exact ⟨⟨false, rfl, fun h => by cases h⟩, rfl⟩
    · have hz : ¬ ((most : Int) < (n : Int)) := by omega
      go_enter Tryz.func32, Tryz.ntmps32
      go_wp2_with fail
      go_loopg [5] (n + 1) (fun g vi wr => ∃ i : Nat, n - i < g ∧ i ≤ n ∧ vi = .int .i64 i ∧ wr = w ∧ Hid (∀ j, j < i → (f j).s.size ≤ 200 ∧ (f j).t.size ≤ 200))
      case atStart => exact ⟨0, by omega, by omega, rfl, rfl, fun j hj => by omega⟩
      case round =>
        obtain ⟨i, hg, hi, rfl, rfl, HSz⟩ := hrel
        by_cases him : i < n
        · have hiz : (i : Int) < (n : Int) := by omega
          obtain ⟨_, q1, q2, _, _, q5, hch⟩ := unhide HC i him
          have e1 := lightChanges_calls (f i).ch wr hch 16 (by omega)
          have E1 := hide e1
          have hsh : ∃ p m c', (f i).ch = .slice p m c' := by
            rcases hch with ⟨p', c', h⟩ | ⟨b', o', m', c', h, _⟩
            · exact ⟨_, _, _, h⟩
            · exact ⟨_, _, _, h⟩
          obtain ⟨S, hS⟩ : ∃ S, (f i).s = S := ⟨_, rfl⟩
          obtain ⟨T, hT⟩ : ∃ T, (f i).t = T := ⟨_, rfl⟩
          obtain ⟨V, hV⟩ : ∃ V, (f i).ch = V := ⟨_, rfl⟩
          rw [hS] at q1
          rw [hT] at q2
          rw [hV] at q5 E1 hsh
          obtain ⟨p, m', c', rfl⟩ := hsh
          have Hst : Hid (S.size ≤ 200 → T.size ≤ 150 → ∀ j, j < i + 1 → (f j).s.size ≤ 200 ∧ (f j).t.size ≤ 200) := fun h1 h2 j hj => by
            rcases Nat.lt_or_ge j i with h | h
            · exact unhide HSz j h
            · obtain rfl : j = i := by omega
              rw [hS, hT]; exact ⟨h1, by omega⟩
          clear e1 hch hS hT hV
          by_cases h1 : 200 < S.size
          · have hz1 : (200 : Int) < (S.size : Int) := by omega
            go_wp2_with fail
            go_ret
            exact ⟨⟨false, rfl, fun h => by cases h⟩, rfl⟩
          · have hz1 : ¬ ((200 : Int) < (S.size : Int)) := by omega
            by_cases h2 : 150 < T.size
            · have hz2 : (150 : Int) < (T.size : Int) := by omega
              go_wp2_with fail
              go_ret
              exact ⟨⟨false, rfl, fun h => by cases h⟩, rfl⟩
            · have hz2 : ¬ ((150 : Int) < (T.size : Int)) := by omega
              go_wp2_with fail
              refine (unhide E1).mono ?_
              rintro e w3 ⟨⟨r, rfl⟩, rfl⟩
              cases r with
              | true =>
                go_wp2_with fail
                go_roundg (n - i)
                case measure => omega
                case rel => exact ⟨i + 1, by omega, by omega, by simp, rfl, unhide Hst (by omega) (by omega)⟩
              | false =>
                go_wp2_with fail
                go_ret
                exact ⟨⟨false, rfl, fun h => by cases h⟩, rfl⟩
        · have hiz : ¬ ((i : Int) < (n : Int)) := by omega
          go_wp2_with fail
          go_ret
          exact ⟨⟨true, rfl, fun _ => ⟨by omega, fun j hj => unhide HSz j (by omega)⟩⟩, rfl⟩
end Go.Proofs.YtjpmomklkkifjaaGreatDoor.T
namespace Go.Proofs.YtjpmomklkkifjaaGreatDoor.T
open Go.RowKit
theorem cell_later {w w' : World} (hb : Below w.heap.size w w') {p : Addr} {v : Value} (h : w.cell? p = some v) : w'.cell? p = some v :=
  (World.cell?_of_block (w := w) (hb.block p.block (World.block_lt_of_cell? _ _ h))).trans h
theorem ChOk.later {w w' : World} {v : Value} (h : ChOk w v) (hb : Below w.heap.size w w') : ChOk w' v := by
  rcases h with h | ⟨b, off, m, c, h1, h2, h3⟩
  · exact .inl h
  · refine .inr ⟨b, off, m, c, h1, h2, fun j hj => ?_⟩
    obtain ⟨key, val, k1, k2⟩ := h3 j hj
    exact ⟨key, val, cell_later hb k1, cell_later hb k2⟩
theorem ActsOk.later {w w' : World} {v : Value} {n : Nat} {f : Nat → ActD} (h : ActsOk w v n f) (hb : Below w.heap.size w w') : ActsOk w' v n f := by
  rcases h with h | ⟨b, off, c, h1, h2, h3, h4⟩
  · exact .inl h
  · have hs := hb.size
    refine .inr ⟨b, off, c, h1, h2, by omega, fun j hj => ?_⟩
    obtain ⟨p0, p1, p2, p3, ⟨u, p4⟩, p5, p6⟩ := h4 j hj
    exact ⟨cell_later hb p0, cell_later hb p1, cell_later hb p2, cell_later hb p3, ⟨u, cell_later hb p4⟩, cell_later hb p5, p6.later hb⟩
theorem grown_calls {w0 w : World} {l2 : List Res} (hR : Ready w0) (h : H0 w0 w l2) (va : Value) (na : Nat) (fa : Nat → ActD) (hA : ActsOk w0 va na fa) :
    Calls Tryz.prog 14 #[va] w fun e w' => GrownEnd w0 l2 e w' :=
  grown_of hR h h.below.size va na fa hA (lightActs_told va na fa w (hA.later h.below) 60 (by decide))
end Go.Proofs.YtjpmomklkkifjaaGreatDoor.T
namespace Go.Proofs.YtjpmomklkkifjaaGreatDoor.T
open Go.RowKit
theorem results_five {fn : Func} {p u : Tmp} (h : fn.results = #[.cell p 33, .tmp u]) (tmps : Array Value) (w : World) (g : Nat) (a b c d e : Value) {v : Value}
    (hp : tmps.getD p undef = .pointer (some ⟨g, 0, none⟩)) (hu2 : tmps.getD u undef = v) (hg : w.heap[g]? = some (.cells #[a, b, c, d, e] 33 (0, 0))) :
    (results fn tmps).run Tryz.prog w = .ok (.tuple #[.agg #[a, b, c, d, e], v]) w := by
  have hr := run_loadVar_row (P := Tryz.prog) w g 33 33 #[a, b, c, d, e] (0, 0) _ hg Tryz.underlying33 rfl (by kernel_rfl)
  rw [results_cell_tmp h, hp, hu2]
  simp [asAddr, hr]
def findRet (r : Except Int NV) : Value := .tuple #[.agg #[.int .i64 (resN r).id, .int .i64 (resN r).kind, .int .i64 (resN r).up, .int .i64 (resN r).links, .string (resN r).text], errV (resE r)]
variable (w0 w : World) (fb mb : Nat) (N : List NV) (F : Forest) (next : Int) (l2 : List Res)
set_option maxHeartbeats 2000000 in
theorem fsFind_calls (hR : Ready w0) (h : FSIn w0 w fb mb N F next l2) (hF : Fits N F next) (s : ByteArray) (hs : s.size ≤ 4000000000) :
    Calls Tryz.prog 21 #[.pointer (some ⟨fb, 0, none⟩), .string s] w fun e w' => e = .returned (findRet (findP N F s)) ∧ FSIn w0 w' fb mb N F next l2 := by
  obtain ⟨B, hB⟩ : ∃ B, w.heap.size = B := ⟨_, rfl⟩
  have h1 := h.made 33 [.int .i64 0, .int .i64 0, .int .i64 0, .int .i64 0, .string ⟨#[]⟩]
  rw [hB] at h1
  have hf := ffind_calls w0 _ fb mb N F next _ hR h1 hF s hs
  generalize findP N F s = r at hf ⊢
  clear h h1 hF hR
  unfold StepEnd nodeRet at hf
  unfold findRet
  obtain ⟨u, hu⟩ : ∃ u, resN r = u := ⟨_, rfl⟩
  obtain ⟨ov, hov⟩ : ∃ ov, errV (resE r) = ov := ⟨_, rfl⟩
  have hovs : ∃ t v, ov = .iface t v ∨ ov = .nilIface := by
    rw [← hov]
    cases resE r with
    | none => exact ⟨0, .nilIface, .inr rfl⟩
    | some k => exact ⟨_, _, .inl rfl⟩
  rw [hu, hov] at hf ⊢
  unfold NV.val at hf
  have HFl := hide hf
  clear hf hu hov
  go_enter Tryz.func21, Tryz.ntmps21
  go_wp2_with fail
  refine (unhide HFl).mono ?_
  rintro e w2 ⟨rfl, h2⟩
  obtain ⟨C, hC⟩ : ∃ C, w2.heap.size = C := ⟨_, rfl⟩
  have h3 := h2.made 80 [.int .i64 u.id, .int .i64 u.kind, .int .i64 u.up, .int .i64 u.links, .string u.text, .pointer u.ptr]
  rw [hC] at h3
  obtain ⟨w3, hw3⟩ : ∃ w3, w2.alloc (.cells [.int .i64 u.id, .int .i64 u.kind, .int .i64 u.up, .int .i64 u.links, .string u.text, .pointer u.ptr].toArray 80) = w3 := ⟨_, rfl⟩
  rw [hw3] at h3
  have b0 : w3.cell? ⟨B, 0, none⟩ = some (.int .i64 0) := h3.cellAt (.tail _ (.head _)) rfl
  have b1 : w3.cell? ⟨B, 1, none⟩ = some (.int .i64 0) := h3.cellAt (.tail _ (.head _)) rfl
  have b2 : w3.cell? ⟨B, 2, none⟩ = some (.int .i64 0) := h3.cellAt (.tail _ (.head _)) rfl
  have b3 : w3.cell? ⟨B, 3, none⟩ = some (.int .i64 0) := h3.cellAt (.tail _ (.head _)) rfl
  have b4 : w3.cell? ⟨B, 4, none⟩ = some (.string ⟨#[]⟩) := h3.cellAt (.tail _ (.head _)) rfl
  have f0 := h3.frozenAt (b := B) (.tail _ (.head _)) 0
  have f1 := h3.frozenAt (b := B) (.tail _ (.head _)) 1
  have f2 := h3.frozenAt (b := B) (.tail _ (.head _)) 2
  have f3 := h3.frozenAt (b := B) (.tail _ (.head _)) 3
  have f4 := h3.frozenAt (b := B) (.tail _ (.head _)) 4
  obtain ⟨k0, k1, k2, k3, k4, k5, _⟩ := h3.six (b := C) (.head _)
  have H3 := hide h3
  clear h2 h3 HFl
  go_wp2_with fail
  have s0 := FSIn.store [_] (unhide H3) 0 (.int .i64 u.id) _ rfl
  have s1 := FSIn.store [_] s0 1 (.int .i64 u.kind) _ rfl
  have s2 := FSIn.store [_] s1 2 (.int .i64 u.up) _ rfl
  have s3 := FSIn.store [_] s2 3 (.int .i64 u.links) _ rfl
  have s4 := FSIn.store [_] s3 4 (.string u.text) _ rfl
  refine bodyPost_ret (results_five (p := 4) (u := 5) rfl _ _ B _ _ _ _ _ rfl rfl (s4.heapAt (t := 33) (.tail _ (.head _)))) rfl ?_
  exact ⟨rfl, (s4.forget []).forget []⟩
end Go.Proofs.YtjpmomklkkifjaaGreatDoor.T
