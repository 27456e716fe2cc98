/-
  The walk of DiskSays: it answers true for every number of sectors and all acts.
-/
import Derived.Test.YtlibbkdpkpaglaaRNew
import Derived.Deep.CutRange
import Derived.Deep.CutBlock
namespace Go.Proofs.Ytlibbkdpkpaglaa
open Go.RowKit
set_option maxRecDepth 100000
set_option linter.unusedVariables false
set_option linter.unusedSimpArgs false

/-- The two disks, side by side. -/
structure Both (w0 w : World) (db : Nat) (d : DK) (rb : Nat) (r : DK) (l : List Res) : Prop where
  okd : d.Ok
  okr : r.Ok
  mem : ∃ g0 c0 g1 c1 v2 u0 u1 u2, d.now.length ≤ c0 ∧ c0 ≤ 9223372036854775807 ∧ d.now.length ≤ c1 ∧ c1 ≤ 9223372036854775807 ∧ Hold w0 w ([diskR db (.slice (some ⟨g0, 0, none⟩) d.now.length c0) (.slice (some ⟨g1, 0, none⟩) d.now.length c1) v2 d.down d.left, rowS (.slice (some ⟨g0, 0, none⟩) d.now.length c0) d.kept, rowS (.slice (some ⟨g1, 0, none⟩) d.now.length c1) d.now, rowW v2 d.wr] ++ (refL rb u0 u1 u2 r ++ l))
theorem Both.disk {w0 w : World} {db : Nat} {d : DK} {rb : Nat} {r : DK} {l : List Res} (h : Both w0 w db d rb r l) : ∃ P, DiskIn w0 w db d P ∧ ∀ w' d', DiskIn w0 w' db d' P → Both w0 w' db d' rb r l := by
  obtain ⟨g0, c0, g1, c1, v2, u0, u1, u2, a1, a2, a3, a4, H⟩ := h.mem
  refine ⟨refL rb u0 u1 u2 r ++ l, ⟨h.okd, g0, c0, g1, c1, v2, a1, a2, a3, a4, H⟩, fun w' d' h' => ?_⟩
  obtain ⟨g0, c0, g1, c1, v2, a1, a2, a3, a4, H⟩ := h'.mem
  exact ⟨h'.ok, h.okr, g0, c0, g1, c1, v2, u0, u1, u2, a1, a2, a3, a4, H⟩
theorem Both.ref {w0 w : World} {db : Nat} {d : DK} {rb : Nat} {r : DK} {l : List Res} (h : Both w0 w db d rb r l) : ∃ P, RefIn w0 w rb r P ∧ ∀ w' r', RefIn w0 w' rb r' P → Both w0 w' db d rb r' l := by
  obtain ⟨g0, c0, g1, c1, v2, u0, u1, u2, a1, a2, a3, a4, H⟩ := h.mem
  refine ⟨_, ⟨h.okr, u0, u1, u2, H.perm (List.perm_append_comm_assoc _ _ _)⟩, fun w' r' h' => ?_⟩
  obtain ⟨u0, u1, u2, H⟩ := h'.mem
  exact ⟨h.okd, h'.ok, g0, c0, g1, c1, v2, u0, u1, u2, a1, a2, a3, a4, H.perm (List.perm_append_comm_assoc _ _ _)⟩
theorem Both.hold {w0 w : World} {db : Nat} {d : DK} {rb : Nat} {r : DK} {l : List Res} (h : Both w0 w db d rb r l) : Hold w0 w l := by
  obtain ⟨g0, c0, g1, c1, v2, u0, u1, u2, a1, a2, a3, a4, H⟩ := h.mem
  exact (((((((H.forget []).forget []).forget []).forget []).forget []).forget []).forget []).forget []
theorem Both.below {w0 w : World} {db : Nat} {d : DK} {rb : Nat} {r : DK} {l : List Res} (h : Both w0 w db d rb r l) : Below w0.heap.size w0 w := h.hold.below
theorem Both.keep {w0 w w' : World} {db : Nat} {d : DK} {rb : Nat} {r : DK} {l : List Res} (h : Both w0 w db d rb r l) (hk : Kept (fun _ => False) w w') : Both w0 w' db d rb r l := by
  obtain ⟨g0, c0, g1, c1, v2, u0, u1, u2, a1, a2, a3, a4, H⟩ := h.mem
  exact ⟨h.okd, h.okr, g0, c0, g1, c1, v2, u0, u1, u2, a1, a2, a3, a4, H.keep hk⟩
theorem Both.drew {w0 w : World} {db : Nat} {d : DK} {rb : Nat} {r : DK} {l : List Res} (h : Both w0 w db d rb r l) : Both w0 w.drew db d rb r l := h.keep (Kept.refl _ w).drew
theorem Both.made {w0 w : World} {db : Nat} {d : DK} {rb : Nat} {r : DK} {l : List Res} (h : Both w0 w db d rb r l) (t : TypeId) (vs : List Value) : Both w0 (w.alloc (.cells vs.toArray t)) db d rb r (.cell w.heap.size t vs :: l) := by
  obtain ⟨g0, c0, g1, c1, v2, u0, u1, u2, a1, a2, a3, a4, H⟩ := h.mem
  exact ⟨h.okd, h.okr, g0, c0, g1, c1, v2, u0, u1, u2, a1, a2, a3, a4, (H.made t vs).back [_, _, _, _, _, _, _, _]⟩
theorem Both.forget {w0 w : World} {db : Nat} {d : DK} {rb : Nat} {r : DK} {x : Res} {l : List Res} (h : Both w0 w db d rb r (x :: l)) : Both w0 w db d rb r l := by
  obtain ⟨g0, c0, g1, c1, v2, u0, u1, u2, a1, a2, a3, a4, H⟩ := h.mem
  exact ⟨h.okd, h.okr, g0, c0, g1, c1, v2, u0, u1, u2, a1, a2, a3, a4, H.forget [_, _, _, _, _, _, _, _]⟩
/-- The fuse is set. -/
theorem Both.fuse {w0 w : World} {db : Nat} {d : DK} {rb : Nat} {r : DK} {l : List Res} (h : Both w0 w db d rb r l) (n : Int) (hn : -9223372036854775808 ≤ n ∧ n ≤ 9223372036854775807) : Both w0 (w.setCell ⟨rb, 3, none⟩ (.int .i64 n)) db d rb (r.armed n) l := by
  obtain ⟨g0, c0, g1, c1, v2, u0, u1, u2, a1, a2, a3, a4, H⟩ := h.mem
  exact ⟨h.okd, h.okr.armed hn, g0, c0, g1, c1, v2, u0, u1, u2, a1, a2, a3, a4, H.store [_, _, _, _] 3 _ _ rfl⟩
theorem Both.fuseAt {w0 w : World} {db : Nat} {d : DK} {rb : Nat} {r : DK} {l : List Res} (h : Both w0 w db d rb r l) : w.cell? ⟨rb, 3, none⟩ = some (.int .i64 r.left) ∧ w.frozen? ⟨rb, 3, none⟩ = false ∧ w.cell? ⟨rb, 4, none⟩ = some (.bool r.down) := by
  obtain ⟨g0, c0, g1, c1, v2, u0, u1, u2, a1, a2, a3, a4, H⟩ := h.mem
  exact ⟨H.cellAt (.tail _ (.tail _ (.tail _ (.tail _ (.head _))))) rfl, H.frozenAt (.tail _ (.tail _ (.tail _ (.tail _ (.head _))))) 3, H.cellAt (.tail _ (.tail _ (.tail _ (.tail _ (.head _))))) rfl⟩

/-- spins. -/
theorem spins_calls (w0 w : World) (l2 : List Res) (h : Hold w0 w l2) : Calls Try.prog 10 #[] w fun e w' => e = .returned (.bool true) ∧ Hold w0 w' l2 := by
  have e1 := new_calls w0 w l2 h 3 (by omega) (by omega)
  have E1 := hide e1
  clear e1 h
  go_enter Try.func10, Try.ntmps10
  go_wp2_with fail
  refine (unhide E1).mono ?_
  rintro e w1 ⟨db, rfl, hD⟩
  have e2 := write_calls w0 w1 db (newP 3) l2 hD (by show 0 ≤ 100000; omega) 1 ⟨#[120, 121]⟩
  unfold WriteEnd at e2
  rw [show (newP 3).writeE 1 [120, 121] = none from rfl] at e2
  simp only [errV] at e2
  obtain ⟨d2, hd2⟩ : ∃ d2, (newP 3).written 1 [120, 121] = d2 := ⟨_, rfl⟩
  rw [hd2] at e2
  have E2 := hide e2
  clear e2 hD E1
  go_wp2_with fail
  refine (unhide E2).mono ?_
  rintro e w2 ⟨rfl, hD⟩
  have e3 := flush_calls w0 w2 db d2 l2 hD
  unfold FlushEnd at e3
  rw [show d2.flushE = none from by rw [← hd2]; rfl] at e3
  simp only [errV] at e3
  obtain ⟨d3, hd3⟩ : ∃ d3, d2.flushed = d3 := ⟨_, rfl⟩
  rw [hd3] at e3
  have E3 := hide e3
  have Hd2 := hide hd2
  have Hd3 := hide hd3
  clear e3 hD E2 hd2 hd3
  go_wp2_with fail
  refine (unhide E3).mono ?_
  rintro e w3 ⟨rfl, hD⟩
  have e4 := restart_calls w0 w3 db d3 l2 hD (by rw [← unhide Hd3, ← unhide Hd2]; show 0 ≤ 100000; omega) 0 (by omega)
  obtain ⟨d4, hd4⟩ : ∃ d4, d3.again 0 = d4 := ⟨_, rfl⟩
  rw [hd4] at e4
  have E4 := hide e4
  have Hd4 := hide hd4
  clear e4 hD E3 hd4
  go_wp2_with fail
  refine (unhide E4).mono ?_
  rintro e w4 ⟨rfl, hD⟩
  have hd4 : ((((newP 3).written 1 [120, 121]).flushed).again 0) = d4 := by rw [unhide Hd2, unhide Hd3, unhide Hd4]
  have e5 := read_calls w0 w4 db d4 l2 hD 1
  unfold ReadEnd at e5
  rw [show d4.readE 1 = none from by rw [← hd4]; rfl, show d4.readB 1 = padL [120, 121] from by rw [← hd4]; rfl] at e5
  simp only [errV] at e5
  have e6 := sectors_calls w0 w4 db d4 l2 hD
  rw [show d4.now.length = 3 from by rw [← hd4]; rfl] at e6
  obtain ⟨S, hS⟩ : ∃ S : ByteArray, ⟨(padL [120, 121]).toArray⟩ = S := ⟨_, rfl⟩
  rw [hS] at e5
  have hsz : S.size = 140 := by rw [← hS]; rfl
  have hex : (S.extract 0 2).toList = [120, 121] := by rw [← hS, ByteArray.extract_mk, ByteArray.toList_mk]; rfl
  have E5 := hide e5
  have E6 := hide e6
  have HF := hide hD.hold
  have Es := hide (fun wx => same_calls wx none 0)
  clear e5 e6 hD E4 Hd2 Hd3 Hd4 hd4 hS
  go_wp2_with fail
  refine (unhide E5).mono ?_
  rintro e w5 ⟨rfl, rfl⟩
  clear E5
  go_wp2_with (go_at_call 14; refine (unhide Es _).mono ?_; rintro e wx ⟨rfl, hwx⟩; have hwx := hwx.symm; subst hwx)
  refine (unhide E6).mono ?_
  rintro e w6 ⟨rfl, rfl⟩
  go_wp2_with fail
  go_ret
  exact ⟨rfl, unhide HF⟩

/-- Where the two disks are, behind an act. -/
def After (W wx : World) (db rb m : Nat) (n : Nat) (l : List Res) : Prop := ∃ d r, Sim d r ∧ d.now.length = n ∧ d.wr.length ≤ m ∧ Both W wx db d rb r l
theorem After.next {W wx : World} {db rb m n : Nat} {l : List Res} {d r : DK} (h1 : Sim d r) (h2 : d.now.length = n) (h3 : d.wr.length ≤ m) (h : Both W wx db d rb r l) : After W wx db rb m n l := ⟨d, r, h1, h2, h3, h⟩
theorem written_len (d : DK) (i : Int) (s : List UInt8) : (d.written i s).now.length = d.now.length ∧ (d.written i s).wr.length ≤ d.wr.length + 1 := by
  unfold DK.written
  split
  · exact ⟨rfl, by omega⟩
  split
  · rw [stepped_now, stepped_wr]; exact ⟨rfl, by omega⟩
  · simp only [DK.laid, List.length_set, List.length_append, List.length_singleton]
    rw [stepped_now, stepped_wr]
    exact ⟨rfl, by omega⟩
theorem flushed_len (d : DK) : d.flushed.now.length = d.now.length ∧ d.flushed.wr.length ≤ d.wr.length := by
  unfold DK.flushed
  split
  · rw [stepped_now, stepped_wr]; exact ⟨rfl, by omega⟩
  · show d.stepped.now.length = _ ∧ 0 ≤ _
    rw [stepped_now]
    exact ⟨rfl, by omega⟩
theorem again_len {d : DK} (h : d.Ok) (k : Nat) : (d.again k).now.length = d.now.length ∧ (d.again k).wr.length = 0 := by
  refine ⟨?_, rfl⟩
  show (keepL k 0 d.wr d.kept).length = _
  rw [keepL_len, h.same]
theorem same_true (o : Option Int) (h : ∀ k, o = some k → 0 < k) (w : World) : Calls Try.prog 14 #[errV o, .int .i64 (noE o)] w fun e w' => e = .returned (.bool true) ∧ w' = w := by
  have := same_calls w o (noE o)
  rw [sameP_self h] at this
  exact this

section
variable {W wx : World} {db : Nat} {d : DK} {rb : Nat} {r : DK} {l : List Res}
theorem both_write (h : Both W wx db d rb r l) (hm : d.wr.length ≤ 100000) (i : Int) (s : ByteArray) : Calls Try.prog 16 #[.pointer (some ⟨db, 0, none⟩), .int .i64 i, .string s] wx fun e w' => e = .returned (errV (d.writeE i s.data.toList)) ∧ Both W w' db (d.written i s.data.toList) rb r l := by
  obtain ⟨P, hP, hb⟩ := h.disk
  exact (write_calls W wx db d P hP hm i s).mono fun e w' ⟨h1, h2⟩ => ⟨h1, hb _ _ h2⟩
theorem both_rwrite (h : Both W wx db d rb r l) (hm : r.wr.length ≤ 100000) (i : Int) (s : ByteArray) : Calls Try.prog 17 #[.pointer (some ⟨rb, 0, none⟩), .int .i64 i, .string s] wx fun e w' => e = .returned (.int .i64 (noE (r.writeE i s.data.toList))) ∧ Both W w' db d rb (r.rwritten i s.data.toList) l := by
  obtain ⟨P, hP, hb⟩ := h.ref
  exact (rwrite_calls W wx rb r P hP hm i s).mono fun e w' ⟨h1, h2⟩ => ⟨h1, hb _ _ h2⟩
theorem both_read (h : Both W wx db d rb r l) (i : Int) : Calls Try.prog 18 #[.pointer (some ⟨db, 0, none⟩), .int .i64 i] wx fun e w' => e = .returned (.tuple #[.string ⟨(d.readB i).toArray⟩, errV (d.readE i)]) ∧ w' = wx := by
  obtain ⟨P, hP, hb⟩ := h.disk
  exact read_calls W wx db d P hP i
theorem both_rread (h : Both W wx db d rb r l) (hs : Sim d r) (i : Int) : Calls Try.prog 19 #[.pointer (some ⟨rb, 0, none⟩), .int .i64 i] wx fun e w' => e = .returned (.tuple #[.string ⟨(d.readB i).toArray⟩, .int .i64 (noE (d.readE i))]) ∧ w' = wx := by
  obtain ⟨P, hP, hb⟩ := h.ref
  have := rread_calls W wx rb r P hP i
  unfold RReadEnd at this
  rw [hs.readB, hs.readE] at this
  exact this
theorem both_flush (h : Both W wx db d rb r l) : Calls Try.prog 20 #[.pointer (some ⟨db, 0, none⟩)] wx fun e w' => e = .returned (errV d.flushE) ∧ Both W w' db d.flushed rb r l := by
  obtain ⟨P, hP, hb⟩ := h.disk
  exact (flush_calls W wx db d P hP).mono fun e w' ⟨h1, h2⟩ => ⟨h1, hb _ _ h2⟩
theorem both_rflush (h : Both W wx db d rb r l) : Calls Try.prog 21 #[.pointer (some ⟨rb, 0, none⟩)] wx fun e w' => e = .returned (.int .i64 (noE r.flushE)) ∧ Both W w' db d rb r.rflushed l := by
  obtain ⟨P, hP, hb⟩ := h.ref
  exact (rflush_calls W wx rb r P hP).mono fun e w' ⟨h1, h2⟩ => ⟨h1, hb _ _ h2⟩
theorem both_arm (h : Both W wx db d rb r l) (n : Int) (hn : -9223372036854775808 ≤ n ∧ n ≤ 9223372036854775807) : Calls Try.prog 22 #[.pointer (some ⟨db, 0, none⟩), .int .i64 n] wx fun e w' => e = .returned (.tuple #[]) ∧ Both W w' db (d.armed n) rb r l := by
  obtain ⟨P, hP, hb⟩ := h.disk
  exact (arm_calls W wx db d P hP n hn).mono fun e w' ⟨h1, h2⟩ => ⟨h1, hb _ _ h2⟩
theorem both_restart (h : Both W wx db d rb r l) (hm : d.wr.length ≤ 100000) (k : Nat) (hk : k < 18446744073709551616) : Calls Try.prog 23 #[.pointer (some ⟨db, 0, none⟩), .int .u64 (k : Int)] wx fun e w' => e = .returned (.tuple #[]) ∧ Both W w' db (d.again k) rb r l := by
  obtain ⟨P, hP, hb⟩ := h.disk
  exact (restart_calls W wx db d P hP hm k hk).mono fun e w' ⟨h1, h2⟩ => ⟨h1, hb _ _ h2⟩
theorem both_rrestart (h : Both W wx db d rb r l) (hm : r.wr.length ≤ 100000) (k : Nat) (hk : k < 18446744073709551616) : Calls Try.prog 24 #[.pointer (some ⟨rb, 0, none⟩), .int .u64 (k : Int)] wx fun e w' => e = .returned (.tuple #[]) ∧ Both W w' db d rb (r.again k) l := by
  obtain ⟨P, hP, hb⟩ := h.ref
  exact (rrestart_calls W wx rb r P hP hm k hk).mono fun e w' ⟨h1, h2⟩ => ⟨h1, hb _ _ h2⟩
theorem both_down (h : Both W wx db d rb r l) : Calls Try.prog 25 #[.pointer (some ⟨db, 0, none⟩)] wx fun e w' => e = .returned (.bool d.down) ∧ w' = wx := by
  obtain ⟨P, hP, hb⟩ := h.disk
  exact down_calls W wx db d P hP
end

set_option maxHeartbeats 4000000 in
theorem diskSays_walk (sectors : Int) (va : Value) (na : Nat) (fa : Nat → ActD) (W : World) (hb : -9223372036854775808 ≤ sectors ∧ sectors ≤ 9223372036854775807) (ha : ActsOk W va na fa) :
    Calls Try.prog 3 #[.int .i64 sectors, va] W fun e w' => e = .returned (.bool true) ∧ Below W.heap.size W w' := by
  have e1 := spins_calls W W [] (Hold.init W)
  have E1 := hide e1
  have HA := hide ha
  obtain ⟨pa, ca, hva⟩ := ha.slice
  subst hva
  clear e1 ha
  go_enter Try.func3, Try.ntmps3
  go_wp2_with fail
  refine (unhide E1).mono ?_
  rintro e w1 ⟨rfl, hH⟩
  have e4 := lightActs_calls (.slice pa na ca) na fa w1 ((unhide HA).below hH.below) 80 (by omega)
  have E4 := hide e4
  have HH := hide hH
  clear e4 E1 hH
  go_wp2_with fail
  refine (unhide E4).mono ?_
  rintro e w2 ⟨⟨rr, rfl, hr⟩, rfl⟩
  clear E4
  cases rr with
  | false =>
    clear hr
    go_wp2_with fail
    go_ret
    exact ⟨rfl, (unhide HH).below⟩
  | true =>
  have hna : na ≤ 80 := (hr rfl).1
  clear hr
  by_cases hbad : sectors < 1 ∨ 130 < sectors
  · have E2 := hide (fun wx => new_bad wx sectors hbad)
    have E3 := hide (fun wx => rnew_bad wx sectors hbad)
    have E5 := hide (fun wx => same_true (some 1) (fun k h => by cases h; decide) wx)
    clear hbad
    go_wp2_with (first
      | (go_at_call 12; refine (unhide E2 _).mono ?_; rintro e wx ⟨rfl, hwx⟩; have hwx := hwx.symm; subst hwx)
      | (go_at_call 13; refine (unhide E3 _).mono ?_; rintro e wx ⟨rfl, hwx⟩; have hwx := hwx.symm; subst hwx)
      | (go_at_call 14; refine (unhide E5 _).mono ?_; rintro e wx ⟨rfl, hwx⟩; have hwx := hwx.symm; subst hwx))
    go_ret
    exact ⟨rfl, (unhide HH).below⟩
  obtain ⟨n, rfl⟩ : ∃ n : Nat, sectors = n := ⟨sectors.toNat, by omega⟩
  have hn0 : 0 < n := by omega
  have hn1 : n ≤ 130 := by omega
  clear hbad hb
  have E2 := hide (new_calls W w2 [] (unhide HH) n hn0 hn1)
  go_wp2_with fail
  refine (unhide E2).mono ?_
  rintro e w3 ⟨db, rfl, hD⟩
  clear E2
  obtain ⟨g0, c0, g1, c1, v2, a1, a2, a3, a4, H⟩ := hD.mem
  have e3 := rnew_calls W w3 _ H n hn0 hn1
  have E3 := hide e3
  have hokd := hD.ok
  have Hok := hide hokd
  have Hc : Hid ((newP n).now.length ≤ c0 ∧ c0 ≤ 9223372036854775807 ∧ (newP n).now.length ≤ c1 ∧ c1 ≤ 9223372036854775807) := ⟨a1, a2, a3, a4⟩
  clear e3 H hD hokd a1 a2 a3 a4
  go_wp2_with fail
  refine (unhide E3).mono ?_
  rintro e w4 ⟨rb, rfl, hR⟩
  clear E3
  have hB : Both W w4 db (newP n) rb (newP n) [] := by
    obtain ⟨a1, a2, a3, a4⟩ := unhide Hc
    obtain ⟨u0, u1, u2, H⟩ := hR.mem
    exact ⟨unhide Hok, hR.ok, g0, c0, g1, c1, v2, u0, u1, u2, a1, a2, a3, a4, by have h9 := H.perm (rs' := _ ++ (refL rb u0 u1 u2 (newP n) ++ [])) (by rw [List.append_nil]; exact List.perm_append_comm); exact h9⟩
  have hnl : (newP n).now.length = n := by simp [newP]
  have HB : Hid (After W w4 db rb 0 n []) := ⟨newP n, newP n, Sim.new n, hnl, by show 0 ≤ 0; omega, hB⟩
  obtain ⟨P, hP, _⟩ := hB.disk
  have E6 := hide (sectors_calls W w4 db (newP n) P hP)
  rw [hnl] at E6
  clear hB hR Hc Hok hP hnl
  go_wp2_with fail
  refine (unhide E6).mono ?_
  rintro e w5 ⟨rfl, rfl⟩
  clear E6
  go_wp2_with fail
  go_loopg [10] (na + 1) (fun g vi wr => ∃ (i : Nat), na - i < g ∧ i ≤ na ∧ vi = .int .i64 i ∧ Hid (After W wr db rb i n []))
  case atStart => exact ⟨0, by omega, by omega, rfl, HB⟩
  case round =>
    obtain ⟨i, hg, hi, rfl, HAi⟩ := hrel
    by_cases hin : i < na
    · have hiz : (i : Int) < (na : Int) := by omega
      obtain ⟨d, r, hSim, hdn, hdw, hBd⟩ := unhide HAi
      rcases unhide HA with ⟨_, h0⟩ | ⟨b, off, c, hv, hn63, hbb, hcells⟩
      · omega
      injection hv with hp _ hcc
      subst hp hcc
      obtain ⟨p0, p1, p2, p3, p4, p5, pch, pn, pk⟩ := hcells i hin
      have below := hBd.below
      have q0 := (cell_below below (p := ⟨b, off + i * 6, none⟩) hbb).trans p0
      have q1 := (cell_below below (p := ⟨b, off + i * 6 + 1, none⟩) hbb).trans p1
      have q2 := (cell_below below (p := ⟨b, off + i * 6 + 2, none⟩) hbb).trans p2
      have q3 := (cell_below below (p := ⟨b, off + i * 6 + 3, none⟩) hbb).trans p3
      have q4 := (cell_below below (p := ⟨b, off + i * 6 + 4, none⟩) hbb).trans p4
      have q5 := (cell_below below (p := ⟨b, off + i * 6 + 5, none⟩) hbb).trans p5
      obtain ⟨cp, cc, hch⟩ := pch.slice
      obtain ⟨⟨kind, S, T, N, K, CH, cn, cf⟩, hX⟩ : ∃ x, fa i = x := ⟨_, rfl⟩
      rw [hX] at q0 q1 q2 q3 q4 q5 pn pk hch
      simp only at q0 q1 q2 q3 q4 q5 pn pk hch
      subst hch
      obtain ⟨ab, hab⟩ : ∃ ab, wr.heap.size = ab := ⟨_, rfl⟩
      have hBa := hBd.made 38 [.string kind, .string S, .string T, .int .i64 N, .int .u64 (K : Int), .slice cp cn cc]
      rw [hab] at hBa
      have HBa := hide hBa
      have HSim := hide hSim
      have Hn := hide hdn
      have Hpn := hide pn
      clear p0 p1 p2 p3 p4 p5 pch below hcells hX hBd hBa hSim hdn HAi pn
      obtain ⟨bw, hbw⟩ : ∃ bw, (kind.toList == [119, 114, 105, 116, 101]) = bw := ⟨_, rfl⟩
      obtain ⟨br, hbr⟩ : ∃ br, (kind.toList == [114, 101, 97, 100]) = br := ⟨_, rfl⟩
      obtain ⟨bf, hbf⟩ : ∃ bf, (kind.toList == [102, 108, 117, 115, 104]) = bf := ⟨_, rfl⟩
      obtain ⟨bm, hbm⟩ : ∃ bm, (kind.toList == [97, 114, 109]) = bm := ⟨_, rfl⟩
      go_upto_block 2 with fail
      obtain ⟨wa, hwa⟩ : ∃ wa, wr.alloc (.cells #[.string kind, .string S, .string T, .int .i64 N, .int .u64 (K : Int), .slice cp cn cc] 38) = wa := ⟨_, rfl⟩
      have HB2 : Hid (Both W wa db d rb r [.cell ab 38 [.string kind, .string S, .string T, .int .i64 N, .int .u64 (K : Int), .slice cp cn cc]]) := by rw [← hwa]; exact unhide HBa
      rw [hwa]
      clear hwa HBa hab q0 q1 q2 q3 q4 q5
      have cells : ∀ wx d' r', Both W wx db d' rb r' [.cell ab 38 [.string kind, .string S, .string T, .int .i64 N, .int .u64 (K : Int), .slice cp cn cc]] → wx.cell? ⟨ab, 0, none⟩ = some (.string kind) ∧ wx.cell? ⟨ab, 1, none⟩ = some (.string S) ∧ wx.cell? ⟨ab, 3, none⟩ = some (.int .i64 N) ∧ wx.cell? ⟨ab, 4, none⟩ = some (.int .u64 (K : Int)) := fun wx d' r' hx => ⟨hx.hold.cellAt (.head _) rfl, hx.hold.cellAt (.head _) rfl, hx.hold.cellAt (.head _) rfl, hx.hold.cellAt (.head _) rfl⟩
      have Cells := hide cells
      obtain ⟨k0, k1, k3, k4⟩ := cells _ _ _ (unhide HB2)
      clear cells
      go_cut [12, 13, 14, 15, 16] from 74 to 139 (fun a12 _ _ _ _ wx => a12 = .bool true ∧ Hid (After W wx db rb (i + 1) n []))
      case first =>
        cases bw with
        | true =>
          have hw := written_len d N S.data.toList
          have hs2 := (unhide HSim).written N S.data.toList
          have ew := fun wx (hx : Both W wx db d rb r [.cell ab 38 [.string kind, .string S, .string T, .int .i64 N, .int .u64 (K : Int), .slice cp cn cc]]) => both_write hx (by omega) N S
          have er := fun wx (hx : Both W wx db (d.written N S.data.toList) rb r [.cell ab 38 [.string kind, .string S, .string T, .int .i64 N, .int .u64 (K : Int), .slice cp cn cc]]) => both_rwrite hx (by rw [(unhide HSim).wr]; omega) N S
          rw [(unhide HSim).writeE] at er
          have es := fun wx => same_true (d.writeE N S.data.toList) (writeE_pos _ _ _) wx
          have HFn : Hid (∀ wx, Both W wx db (d.written N S.data.toList) rb (r.rwritten N S.data.toList) [.cell ab 38 [.string kind, .string S, .string T, .int .i64 N, .int .u64 (K : Int), .slice cp cn cc]] → After W wx db rb (i + 1) n []) := fun wx hx => ⟨_, _, hs2, by rw [hw.1, unhide Hn], by omega, hx.forget⟩
          generalize d.written N S.data.toList = d2 at ew er HFn
          generalize r.rwritten N S.data.toList = r2 at er HFn
          generalize d.writeE N S.data.toList = o at ew er es
          obtain ⟨ov, hov⟩ : ∃ ov, errV o = ov := ⟨_, rfl⟩
          obtain ⟨oi, hoi⟩ : ∃ oi, noE o = oi := ⟨_, rfl⟩
          rw [hov] at ew es
          rw [hoi] at er es
          have EW := hide ew
          have ER := hide er
          have ES := hide es
          have hovs : ∃ t v, ov = .iface t v ∨ ov = .nilIface := by
            rw [← hov]; cases o with
            | none => exact ⟨0, .nilIface, .inr rfl⟩
            | some k => exact ⟨_, _, .inl rfl⟩
          clear ew er es hw hs2 hov hoi
          go_wp2_with fail
          have HS0 : Hid (wa.drew.cell? ⟨ab, 1, none⟩ = some (.string S) ∧ wa.drew.cell? ⟨ab, 3, none⟩ = some (.int .i64 N)) := ⟨k1, k3⟩
          go_region_held (fun w' => w'.cell? ⟨ab, 1, none⟩ = some (.string S) ∧ w'.cell? ⟨ab, 3, none⟩ = some (.int .i64 N)) (first | exact unhide HS0 | exact unhide HS6 | exact unhide HS7) (first
            | (go_at_call 16; refine (unhide EW _ ?_).mono ?_; exact (unhide HB2).drew; rintro e w6 ⟨rfl, hD6⟩; have HS6 : Hid (w6.cell? ⟨ab, 1, none⟩ = some (.string S) ∧ w6.cell? ⟨ab, 3, none⟩ = some (.int .i64 N)) := ⟨(unhide Cells _ _ _ hD6).2.1, (unhide Cells _ _ _ hD6).2.2.1⟩; have HD6 := hide hD6; clear hD6)
            | (go_at_call 17; refine (unhide ER _ ?_).mono ?_; exact unhide HD6; rintro e w7 ⟨rfl, hD7⟩; have HS7 : Hid (w7.cell? ⟨ab, 1, none⟩ = some (.string S) ∧ w7.cell? ⟨ab, 3, none⟩ = some (.int .i64 N)) := ⟨(unhide Cells _ _ _ hD7).2.1, (unhide Cells _ _ _ hD7).2.2.1⟩; have HD7 := hide hD7; clear hD7)
            | (go_at_call 14; refine (unhide ES _).mono ?_; rintro e w8 ⟨rfl, hw8⟩; subst hw8))
          all_goals
            go_wp2_with fail
            go_meet
            exact ⟨rfl, unhide HFn _ (unhide HD7)⟩
        | false =>
        cases br with
        | true =>
          have er1 := both_read (unhide HB2) N
          have er2 := both_rread (unhide HB2) (unhide HSim) N
          have es := fun wx => same_true (d.readE N) (readE_pos _ _) wx
          have HFn : Hid (After W wa db rb (i + 1) n []) := ⟨_, _, unhide HSim, unhide Hn, by omega, (unhide HB2).forget⟩
          generalize d.readE N = o at er1 er2 es
          obtain ⟨ov, hov⟩ : ∃ ov, errV o = ov := ⟨_, rfl⟩
          obtain ⟨oi, hoi⟩ : ∃ oi, noE o = oi := ⟨_, rfl⟩
          obtain ⟨S9, hS9⟩ : ∃ S9 : ByteArray, ⟨(d.readB N).toArray⟩ = S9 := ⟨_, rfl⟩
          rw [hov] at er1 es
          rw [hoi] at er2 es
          rw [hS9] at er1 er2
          have ER1 := hide er1
          have ER2 := hide er2
          have ES := hide es
          clear er1 er2 es hov hoi hS9
          go_wp2_with (first
            | (go_at_call 18; refine (unhide ER1).mono ?_; rintro e wx ⟨rfl, hwx⟩; have hwx := hwx.symm; subst hwx)
            | (go_at_call 19; refine (unhide ER2).mono ?_; rintro e wx ⟨rfl, hwx⟩; have hwx := hwx.symm; subst hwx)
            | (go_at_call 14; refine (unhide ES _).mono ?_; rintro e wx ⟨rfl, hwx⟩; have hwx := hwx.symm; subst hwx))
          go_meet
          exact ⟨rfl, HFn⟩
        | false =>
        cases bf with
        | true =>
          have hw := flushed_len d
          have hs2 := (unhide HSim).flushed
          have ew := both_flush (unhide HB2)
          have er := fun wx (hx : Both W wx db d.flushed rb r [.cell ab 38 [.string kind, .string S, .string T, .int .i64 N, .int .u64 (K : Int), .slice cp cn cc]]) => both_rflush hx
          rw [(unhide HSim).flushE] at er
          have es := fun wx => same_true d.flushE (flushE_pos _) wx
          have HFn : Hid (∀ wx, Both W wx db d.flushed rb r.rflushed [.cell ab 38 [.string kind, .string S, .string T, .int .i64 N, .int .u64 (K : Int), .slice cp cn cc]] → After W wx db rb (i + 1) n []) := fun wx hx => ⟨_, _, hs2, by rw [hw.1, unhide Hn], by omega, hx.forget⟩
          generalize d.flushed = d2 at ew er HFn
          generalize r.rflushed = r2 at er HFn
          generalize d.flushE = o at ew er es
          obtain ⟨ov, hov⟩ : ∃ ov, errV o = ov := ⟨_, rfl⟩
          obtain ⟨oi, hoi⟩ : ∃ oi, noE o = oi := ⟨_, rfl⟩
          rw [hov] at ew es
          rw [hoi] at er es
          have EW := hide ew
          have ER := hide er
          have ES := hide es
          clear ew er es hw hs2 hov hoi
          go_wp2_with fail
          refine (unhide EW).mono ?_
          rintro e w6 ⟨rfl, hD6⟩
          have HD6 := hide hD6
          clear hD6 EW
          go_wp2_with fail
          refine (unhide ER _ (unhide HD6)).mono ?_
          rintro e w7 ⟨rfl, hD7⟩
          have HD7 := hide hD7
          clear hD7 ER
          go_wp2_with fail
          refine (unhide ES _).mono ?_
          rintro e w8 ⟨rfl, rfl⟩
          go_wp2_with fail
          go_meet
          exact ⟨rfl, unhide HFn _ (unhide HD7)⟩
        | false =>
        cases bm with
        | true =>
          have hs2 := (unhide HSim).armed N
          have ew := both_arm (unhide HB2) N (unhide Hpn)
          have HFn : Hid (∀ wx, Both W wx db (d.armed N) rb (r.armed (max N (-1))) [.cell ab 38 [.string kind, .string S, .string T, .int .i64 N, .int .u64 (K : Int), .slice cp cn cc]] → After W wx db rb (i + 1) n []) := fun wx hx => ⟨_, _, hs2, unhide Hn, by show d.wr.length ≤ _; omega, hx.forget⟩
          have HFu : Hid (∀ wx, Both W wx db (d.armed N) rb r [.cell ab 38 [.string kind, .string S, .string T, .int .i64 N, .int .u64 (K : Int), .slice cp cn cc]] → Both W (wx.setCell ⟨rb, 3, none⟩ (.int .i64 (max N (-1)))) db (d.armed N) rb (r.armed (max N (-1))) [.cell ab 38 [.string kind, .string S, .string T, .int .i64 N, .int .u64 (K : Int), .slice cp cn cc]]) := fun wx hx => hx.fuse (max N (-1)) (by have := unhide Hpn; omega)
          generalize d.armed N = d2 at ew HFn HFu
          have EW := hide ew
          clear ew hs2
          go_wp2_with fail
          refine (unhide EW).mono ?_
          rintro e w6 ⟨rfl, hD6⟩
          obtain ⟨_, _, c3, _⟩ := unhide Cells _ _ _ hD6
          obtain ⟨c5, c6, _⟩ := hD6.fuseAt
          have HD6 := hide hD6
          clear hD6 EW
          go_wp2_with fail
          all_goals
            go_meet
            refine ⟨rfl, unhide HFn _ ?_⟩
            have h9 := unhide HFu _ (unhide HD6)
            first
              | exact h9
              | (have hm : max N (-1) = -1 := by omega
                 rw [hm] at h9 ⊢
                 exact h9)
              | (have hm : max N (-1) = N := by omega
                 rw [hm] at h9 ⊢
                 exact h9)
        | false =>
          have hw := again_len (unhide HB2).okd K
          have hs2 := (unhide HSim).again K
          have ew := both_restart (unhide HB2) (by omega) K pk
          have er := fun wx (hx : Both W wx db (d.again K) rb r [.cell ab 38 [.string kind, .string S, .string T, .int .i64 N, .int .u64 (K : Int), .slice cp cn cc]]) => both_rrestart hx (by rw [(unhide HSim).wr]; omega) K pk
          have HFn : Hid (∀ wx, Both W wx db (d.again K) rb (r.again K) [.cell ab 38 [.string kind, .string S, .string T, .int .i64 N, .int .u64 (K : Int), .slice cp cn cc]] → After W wx db rb (i + 1) n []) := fun wx hx => ⟨_, _, hs2, by rw [hw.1, unhide Hn], by omega, hx.forget⟩
          generalize d.again K = d2 at ew er HFn
          generalize r.again K = r2 at er HFn
          have EW := hide ew
          have ER := hide er
          clear ew er hw hs2
          go_wp2_with fail
          refine (unhide EW).mono ?_
          rintro e w6 ⟨rfl, hD6⟩
          obtain ⟨_, _, _, c4⟩ := unhide Cells _ _ _ hD6
          have HD6 := hide hD6
          clear hD6 EW
          go_wp2_with fail
          refine (unhide ER _ (unhide HD6)).mono ?_
          rintro e w7 ⟨rfl, hD7⟩
          have HD7 := hide hD7
          clear hD7 ER
          go_wp2_with fail
          go_meet
          exact ⟨rfl, unhide HFn _ (unhide HD7)⟩
      case rest =>
        obtain ⟨h12, HAf⟩ := hcut
        subst h12
        obtain ⟨d2, r2, hs2, hn2, hw2, hb2⟩ := unhide HAf
        obtain ⟨_, _, c4⟩ := hb2.fuseAt
        rw [hs2.down] at c4
        have ed := fun (wx : World) (hx : Both W wx db d2 rb r2 []) => both_down hx
        obtain ⟨dn, hdn⟩ : ∃ dn, d2.down = dn := ⟨_, rfl⟩
        rw [hdn] at c4 ed
        have ED := hide ed
        have HB3 := hide hb2
        have HS0 : Hid (wc.drew.cell? ⟨rb, 4, none⟩ = some (.bool dn)) := c4
        clear ed hdn hb2 k0 k1 k3 k4 HB2 Cells hs2 hn2 hw2
        go_wp2_with fail
        go_region_held (fun w' => w'.cell? ⟨rb, 4, none⟩ = some (.bool dn)) (exact unhide HS0) ((go_at_call 25; refine (unhide ED _ ?_).mono ?_; exact (unhide HB3).drew; rintro e w6 ⟨rfl, hw6⟩; subst hw6))
        all_goals
          go_wp2_with fail
          go_roundg (na - i)
          case measure => omega
          case rel => exact ⟨i + 1, by omega, by omega, by simp, by obtain ⟨d3, r3, x1, x2, x3, x4⟩ := unhide HAf; exact ⟨d3, r3, x1, x2, x3, x4.drew⟩⟩
    · have hiz : ¬ (i : Int) < (na : Int) := by omega
      obtain ⟨d, r, hSim, hdn, hdw, hBd⟩ := unhide HAi
      have HSim := hide hSim
      have HBd := hide hBd
      clear hSim hBd hdn HAi
      go_wp2_with fail
      go_loopg [17] (n + 3) (fun g vi wx => ∃ (j : Nat), n + 2 - j < g ∧ j ≤ n + 2 ∧ vi = .int .i64 ((j : Int) - 1) ∧ wx = wr)
      case atStart => exact ⟨0, by omega, by omega, rfl, rfl⟩
      case round =>
        obtain ⟨j, hg2, hj, rfl, rfl⟩ := hrel
        by_cases hjn : j < n + 2
        · have hjz : (j : Int) - 1 ≤ (n : Int) := by omega
          obtain ⟨at_, hat⟩ : ∃ at_ : Int, (j : Int) - 1 = at_ := ⟨_, rfl⟩
          have er1 := both_read (unhide HBd) at_
          have er2 := both_rread (unhide HBd) (unhide HSim) at_
          have es := fun wx => same_true (d.readE at_) (readE_pos _ _) wx
          generalize d.readE at_ = o at er1 er2 es
          obtain ⟨ov, hov⟩ : ∃ ov, errV o = ov := ⟨_, rfl⟩
          obtain ⟨oi, hoi⟩ : ∃ oi, noE o = oi := ⟨_, rfl⟩
          obtain ⟨S9, hS9⟩ : ∃ S9 : ByteArray, ⟨(d.readB at_).toArray⟩ = S9 := ⟨_, rfl⟩
          rw [hov] at er1 es
          rw [hoi] at er2 es
          rw [hS9] at er1 er2
          rw [hat] at hjz ⊢
          have ER1 := hide er1
          have ER2 := hide er2
          have ES := hide es
          have Hat := hide hat
          have hal : at_ + 1 ≤ 9223372036854775807 := by omega
          have hal2 : -9223372036854775808 ≤ at_ := by omega
          clear er1 er2 es hov hoi hS9 hat
          go_wp2_with (first
            | (go_at_call 18; refine (unhide ER1).mono ?_; rintro e wx ⟨rfl, hwx⟩; have hwx := hwx.symm; subst hwx)
            | (go_at_call 19; refine (unhide ER2).mono ?_; rintro e wx ⟨rfl, hwx⟩; have hwx := hwx.symm; subst hwx)
            | (go_at_call 14; refine (unhide ES _).mono ?_; rintro e wx ⟨rfl, hwx⟩; have hwx := hwx.symm; subst hwx))
          go_roundg (n + 2 - j)
          case measure => omega
          case rel => exact ⟨j + 1, by omega, by omega, by congr 1; have := unhide Hat; omega, rfl⟩
        · have hjz : ¬ (j : Int) - 1 ≤ (n : Int) := by omega
          go_wp2_with fail
          go_ret
          exact ⟨rfl, (unhide HBd).below⟩
#print axioms diskSays_walk
end Go.Proofs.Ytlibbkdpkpaglaa
