/-
  The contract of the log's read: the deeds that are closed, out of the disk's sectors.
-/
import Derived.Test.YtcjfhfalffngjaaCLMem
namespace Go.Proofs.Ytcjfhfalffngjaa
open Go.RowKit Go.Lib
set_option maxRecDepth 100000
set_option linter.unusedVariables false
set_option linter.unusedSimpArgs false

/-- Deeds in memory. -/
def deedsR (v : Value) (P : List (Value × List ChD)) : List Res := .row v 36 1 P.length (P.map (·.1)) :: P.map (fun p => rowI p.1 p.2)
theorem deeds_add {w0 wx : World} {v4 v5 : Value} {L : List ChD} {P : List (Value × List ChD)} {l2 : List Res} (H : Hold w0 wx (rowI v5 L :: (deedsR v4 P ++ l2))) (h5 : v5.oneCell' = true) (hn : P.length ≤ 1000) :
    ∃ v' w', (Builtin.append_ #[69, 69] 69 #[v4, .slice (some ⟨wx.heap.size, 0, none⟩) 1 1]).run Try.prog (wx.alloc (.cells #[v5] 36)) = .ok v' w' ∧ Hold w0 w' (rowI (.slice none 0 0) [] :: (deedsR v' (P ++ [(v5, L)]) ++ l2)) := by
  have h1 := H.made 36 [v5]
  obtain ⟨v', w', h2, h3, _⟩ := h1.append [_, _] 69 69 Try.underlying69 infoD (by decide) (by decide) (some ⟨wx.heap.size, 0, none⟩) 1 1 [v5] rfl (fun _ => ⟨wx.heap.size, 0, rfl, fun j u hj => by rw [Nat.zero_add]; exact h1.cellAt (.head _) hj⟩) (fun h => by cases h) (fun u hu => by rw [List.mem_singleton.1 hu]; exact h5) (by omega)
  refine ⟨v', w', h2, ?_⟩
  have h4 := ((h3.forget []).nilRow 54 3)
  refine h4.perm ?_
  unfold deedsR rowI
  rw [List.length_append, List.map_append, List.map_append]
  refine List.Perm.cons _ ?_
  simp only [List.cons_append, List.nil_append, List.map_cons, List.map_nil, List.length_singleton, List.append_assoc]
  refine (List.Perm.cons _ ?_).trans (List.Perm.swap _ _ _)
  exact List.perm_middle

def secAt (now : List (List UInt8)) (fr i : Nat) : ByteArray := mkB (now.getD (fr + i) [])
/-- What is read of a disk. -/
def readP (d : DK) (fr many first : Nat) : RS := goR (secAt d.now fr) first many 0 st0
def ReadLEnd (w0 : World) (db lb : Nat) (d : DK) (l2 : List Res) (fr many first : Nat) (e : Ending) (w' : World) : Prop :=
  ∃ v P, e = .returned (.tuple #[v, .nilIface]) ∧ P.map (·.2) = (readP d fr many first).deeds ∧ DiskIn w0 w' db d (deedsR v P ++ (logR lb db fr many first (readP d fr many first).used :: l2))

theorem parseS_kind (s : ByteArray) (num : Nat) : ((parseS s num).1 = kindO ∨ (parseS s num).1 = kindC ∨ (parseS s num).1 = nilB) ∧ (s.size ≤ 140 → (parseS s num).2.size ≤ 140) := by
  unfold parseS
  split
  · rename_i h
    refine ⟨h.1.elim .inl (fun h => .inr (.inl h)), fun hs => ?_⟩
    rw [ByteArray.size_extract]; omega
  · exact ⟨.inr (.inr rfl), fun _ => by decide⟩

theorem kind_eq {K : ByteArray} (h : K = kindO) : K = ⟨#[111]⟩ := h
theorem goR_end {get : Nat → ByteArray} {first k i : Nat} {st : RS} (h : stepR (get i) (first + i) i st = none) : goR get first (k + 1) i st = st := by rw [goR, h]
theorem goR_next {get : Nat → ByteArray} {first k i : Nat} {st st' : RS} (h : stepR (get i) (first + i) i st = some st') : goR get first (k + 1) i st = goR get first k (i + 1) st' := by rw [goR, h]

set_option maxHeartbeats 4000000 in
theorem read_log_calls {w0 w : World} {db lb : Nat} {d : DK} {l2 : List Res} {fr many first : Nat} (h : DiskIn w0 w db d (logR lb db fr many first 0 :: l2)) (hdn : d.down = false) (hfm : fr + many ≤ d.now.length) (h1 : 1 ≤ many) (hf : first ≤ 1000000) :
    Calls Try.prog 68 #[.pointer (some ⟨lb, 0, none⟩)] w fun e w' => ReadLEnd w0 db lb d l2 fr many first e w' := by
  have hfew := h.ok.few
  have hsec := h.ok.now
  have k2 : w.cell? ⟨lb, 2, none⟩ = some (.int .i64 many) := h.cellAt (.head _) rfl
  have HLog : Hid (∀ (A : List Res) (u : Nat) (wx : World), DiskIn w0 wx db d (A ++ (logR lb db fr many first u :: l2)) → wx.cell? ⟨lb, 0, none⟩ = some (.pointer (some ⟨db, 0, none⟩)) ∧ wx.cell? ⟨lb, 1, none⟩ = some (.int .i64 fr) ∧ wx.cell? ⟨lb, 3, none⟩ = some (.int .i64 first) ∧ wx.cell? ⟨lb, 4, none⟩ = some (.int .i64 u) ∧ wx.frozen? ⟨lb, 4, none⟩ = false) := fun A u wx hx => by
    have hm : logR lb db fr many first u ∈ A ++ (logR lb db fr many first u :: l2) := by simp
    exact ⟨hx.cellAt hm rfl, hx.cellAt hm rfl, hx.cellAt hm rfl, hx.cellAt hm rfl, hx.frozenAt hm 4⟩
  have HStart : Hid (DiskIn w0 w db d (rowI (.slice none 0 0) [] :: (deedsR (.slice none 0 0) [] ++ (logR lb db fr many first 0 :: l2)))) := by
    obtain ⟨dp, a1, a2⟩ := h.back
    exact a2 w _ ((a1.nilRow 36 1).nilRow 54 3)
  have hmz : (1 : Int) ≤ (many : Int) := by omega
  have Hdn := hide hdn
  have Hsec := hide hsec
  have hfr : fr ≤ 130 := by omega
  have hm130 : many ≤ 130 := by omega
  have Hfm := hide hfm
  unfold ReadLEnd
  obtain ⟨RP, hRP⟩ : ∃ RP, readP d fr many first = RP := ⟨_, rfl⟩
  have HR0 : Hid (RP = goR (secAt d.now fr) first (many - 0) 0 st0) := hRP.symm
  rw [hRP]
  clear h hdn hsec hfm hRP hfew
  go_enter Try.func68, Try.ntmps68
  go_wp2_with fail
  go_loopg [4, 5, 17] (many + 1) (fun g v4 v5 vi wr => ∃ (i : Nat) (P : List (Value × List ChD)) (st : RS), many - i < g ∧ i ≤ many ∧ vi = .int .i64 i ∧ st.deed.length ≤ i ∧ P.length ≤ i ∧ Hid (P.map (·.2) = st.deeds) ∧ Hid (RP = goR (secAt d.now fr) first (many - i) i st) ∧ Hid (DiskIn w0 wr db d (rowI v5 st.deed :: (deedsR v4 P ++ (logR lb db fr many first st.used :: l2)))))
  case atStart => exact ⟨0, [], st0, by omega, by omega, rfl, by simp [st0], by simp, rfl, HR0, HStart⟩
  case round =>
    clear HR0 HStart
    obtain ⟨i, P, st, hg, hi, rfl, hdl, hpl, HPd, HR, HD⟩ := hrel
    obtain ⟨p5, c5, hv5, _⟩ := row_slice ((unhide HD).hold.rowAt (.head _))
    obtain ⟨p4, c4, hv4, _⟩ := row_slice ((unhide HD).hold.rowAt (.tail _ (.head _)))
    obtain ⟨m5, hm5⟩ : ∃ m, st.deed.length = m := ⟨_, rfl⟩
    obtain ⟨m4, hm4⟩ : ∃ m, P.length = m := ⟨_, rfl⟩
    rw [hm5] at hv5 hdl
    rw [hm4] at hv4 hpl
    subst hv5 hv4
    have Hm5 := hide hm5
    have Hm4 := hide hm4
    clear hm5 hm4
    by_cases hin : i < many
    · have hiz : (i : Int) < (many : Int) := by omega
      obtain ⟨k0, k1, k3, k4, f4⟩ := unhide HLog (_ :: deedsR _ P) st.used wr (unhide HD)
      have hlt : fr + i < d.now.length := by have := unhide Hfm; omega
      have hlen : (d.now.getD (fr + i) []).length = 140 := by
        rw [List.getD, List.getElem?_eq_getElem hlt]
        exact unhide Hsec _ (List.getElem_mem hlt)
      have er := fun wx hx => read_calls w0 wx db d (rowI (.slice p5 m5 c5) st.deed :: (deedsR (.slice p4 m4 c4) P ++ (logR lb db fr many first st.used :: l2))) hx ((fr : Int) + (i : Int))
      unfold ReadEnd at er
      have hce : ((fr : Int) + (i : Int)) = ((fr + i : Nat) : Int) := by omega
      have hhas : d.has ((fr : Int) + (i : Int)) = true := by rw [hce]; simp [DK.has]; omega
      have e1 : d.readE ((fr : Int) + (i : Int)) = none := by unfold DK.readE; rw [unhide Hdn, hhas]; rfl
      have e2 : (⟨(d.readB ((fr : Int) + (i : Int))).toArray⟩ : ByteArray) = secAt d.now fr i := by unfold DK.readB; rw [unhide Hdn, hhas, hce]; rfl
      simp only [e1, e2, errV] at er
      have hwz : IntKind.i64.wrap ((fr : Int) + (i : Int)) = (fr : Int) + (i : Int) := wrap_in _ (by omega)
      have er2 : ∀ wx, DiskIn w0 wx db d (rowI (.slice p5 m5 c5) st.deed :: (deedsR (.slice p4 m4 c4) P ++ (logR lb db fr many first st.used :: l2))) → Calls Try.prog 18 #[.pointer (some ⟨db, 0, none⟩), .int .i64 (IntKind.i64.wrap ((fr : Int) + (i : Int)))] wx fun e w' => e = .returned (.tuple #[.string (secAt d.now fr i), .nilIface]) ∧ w' = wx := fun wx hx => by rw [hwz]; exact er wx hx
      have ER := hide er2
      have hsz : (secAt d.now fr i).size = 140 := by unfold secAt; rw [mkB_size, hlen]
      have hR := unhide HR
      obtain ⟨kk, hkk⟩ : ∃ kk, many - i = kk + 1 := ⟨many - i - 1, by omega⟩
      rw [hkk] at hR
      have hkk2 : many - (i + 1) = kk := by omega
      have hstep : stepR (secAt d.now fr i) (first + i) i st = stepR (secAt d.now fr i) (first + i) i st := rfl
      conv at hstep => rhs; unfold stepR
      obtain ⟨hkind, hbsz⟩ := parseS_kind (secAt d.now fr i) (first + i)
      have hbsz := hbsz (by omega)
      have en := fun wx hq => number_calls lb first i wx hf (by omega) hq
      have ep := fun wx => parse79_calls (secAt d.now fr i) hsz (first + i) wx
      obtain ⟨K, hK⟩ : ∃ K, (parseS (secAt d.now fr i) (first + i)).1 = K := ⟨_, rfl⟩
      obtain ⟨Bd, hBd⟩ : ∃ B, (parseS (secAt d.now fr i) (first + i)).2 = B := ⟨_, rfl⟩
      rw [hK] at hkind
      rw [hBd] at hbsz
      simp only [hK, hBd] at hstep ep
      obtain ⟨S, hS⟩ : ∃ S, secAt d.now fr i = S := ⟨_, rfl⟩
      rw [hS] at ER ep hstep
      have hgo1 : stepR S (first + i) i st = none → RP = st := fun hx => by rw [hR]; exact goR_end (by rw [hS]; exact hx)
      have hgo2 : ∀ st', stepR S (first + i) i st = some st' → RP = goR (secAt d.now fr) first (many - (i + 1)) (i + 1) st' := fun st' hx => by rw [hR, hkk2]; exact goR_next (by rw [hS]; exact hx)
      have HG1 := hide hgo1
      have HG2 := hide hgo2
      have EN := hide en
      have EP := hide ep
      have HS0 : Hid (wr.drew.cell? ⟨lb, 0, none⟩ = some (.pointer (some ⟨db, 0, none⟩)) ∧ wr.drew.cell? ⟨lb, 1, none⟩ = some (.int .i64 fr)) := ⟨k0, k1⟩
      have Hst := hide hstep
      have Hbs := hide hbsz
      have HRow := hide (unhide HD).drew
      clear er er2 e1 e2 hhas hce hwz hlen hlt hsz hR hkk hkk2 hK hBd hS hgo1 hgo2 en ep HR hbsz hstep
      have HK := hide hkind
      have k3d : wr.drew.cell? ⟨lb, 3, none⟩ = some (.int .i64 first) := k3
      have EN1 := hide (unhide EN _ k3d)
      clear hkind EN
      go_wp2_with fail
      go_region_held (fun w' => w'.cell? ⟨lb, 0, none⟩ = some (.pointer (some ⟨db, 0, none⟩)) ∧ w'.cell? ⟨lb, 1, none⟩ = some (.int .i64 fr)) (first | exact unhide HS0) ((go_at_call 18; refine (unhide ER _ ?_).mono ?_; exact unhide HRow; rintro e w6 ⟨rfl, hw6⟩; subst hw6))
      all_goals
        clear ER HS0
        go_wp2_with fail
        refine (unhide EN1).mono ?_
        rintro e w7 ⟨rfl, rfl⟩
        clear EN1
        go_wp2_with fail
        refine (unhide EP _).mono ?_
        rintro e w7 ⟨rfl, n7, rfl⟩
        clear EP
        have HD7 := hide ((unhide HRow).drewN n7)
        obtain ⟨w7, hw7⟩ : ∃ w7, wr.drew.drewN n7 = w7 := ⟨_, rfl⟩
        rw [hw7] at HD7 ⊢
        obtain ⟨k0, k1, k3, k4, f4⟩ := unhide HLog (_ :: deedsR _ P) st.used w7 (unhide HD7)
        clear hw7 HRow HD k3d
        rcases unhide HK with hkd | hkd | hkd
        · -- a change
          unfold kindO at hkd
          subst hkd
          have hst := unhide Hst
          rw [if_pos (show (⟨#[111]⟩ : ByteArray) = kindO from rfl)] at hst
          have e30 := parse_calls Bd (by have := unhide Hbs; omega) w7
          unfold ParseEnd parseE at e30
          cases hp : parseP Bd with
          | none =>
            rw [hp] at hst e30
            have hend := unhide HG1 hst
            unfold chV at e30
            simp only [Option.getD_none, Option.isSome_none, chZ, errV] at e30
            have E30 := hide e30
            have HE := hide hend
            clear e30 hst hp hend Hst HG1 HG2 HK
            go_wp2_with fail
            refine (unhide E30).mono ?_
            rintro e w8 ⟨rfl, hb8⟩
            have hD8 := (unhide HD7).over hb8
            have HD8 := hide (hD8.alloc (.cells #[.string ⟨#[]⟩, .string ⟨#[]⟩, .bool false] 54))
            clear hb8 hD8 E30
            go_wp2_with fail
            go_ret2
            exact ⟨_, P, rfl, by rw [unhide HE]; exact unhide HPd, by rw [unhide HE]; exact (unhide HD8).lose [_]⟩
          | some c =>
            rw [hp] at hst e30
            obtain ⟨key, val, gone⟩ := c
            have hnext := unhide HG2 _ hst
            unfold chV at e30
            simp only [Option.getD_some, Option.isSome_some, errV] at e30
            have E30 := hide e30
            have HE := hide hnext
            clear e30 hst hp hnext Hst HG1 HG2 HK
            go_wp2_with fail
            refine (unhide E30).mono ?_
            rintro e w8 ⟨rfl, hb8⟩
            have hD8 := (unhide HD7).over hb8
            have hD9 := hD8.alloc (.cells #[.string key, .string val, .bool gone] 54)
            obtain ⟨dp, a1, a2⟩ := hD9.back
            rw [List.cons_append] at a1
            obtain ⟨v9, w9, hr9, h9⟩ := hold_add a1 ⟨key, val, gone⟩ (by rw [unhide Hm5]; omega)
            rw [show (w8.alloc (.cells #[.string key, .string val, .bool gone] 54)).heap.size = w8.heap.size + 1 by simp] at hr9
            rw [← List.cons_append] at h9
            have HD9 := hide (a2 w9 (rowI v9 (st.deed ++ [⟨key, val, gone⟩]) :: (deedsR (.slice p4 m4 c4) P ++ (logR lb db fr many first st.used :: l2))) h9)
            clear hb8 hD8 hD9 a1 a2 h9 E30
            go_wp2_with (at_builtin; refine wpList_appendI rfl _ _ 36 36 rfl (.slice p5 m5 c5) (.slice (some ⟨w8.heap.size + 1, 0, none⟩) 1 1) rfl rfl hr9 ?_)
            clear hr9
            go_roundg (many - i)
            case measure => omega
            case rel => exact ⟨i + 1, P, ⟨st.deeds, st.deed ++ [⟨key, val, gone⟩], st.used⟩, by omega, by omega, by simp, by simp only [List.length_append, List.length_singleton]; rw [unhide Hm5]; omega, by rw [unhide Hm4]; omega, HPd, HE, HD9⟩
        · -- an end
          unfold kindC at hkd
          subst hkd
          have hst := unhide Hst
          rw [if_neg (show ¬ (⟨#[99]⟩ : ByteArray) = kindO by decide), if_pos (show (⟨#[99]⟩ : ByteArray) = kindC from rfl), unhide Hm5] at hst
          have e81 := count_calls m5 (by omega) w7
          have e81' : (⟨(leB m5 4).toArray⟩ : ByteArray) = mkB (leB m5 4) := rfl
          rw [e81'] at e81
          obtain ⟨Cn, hCn⟩ : ∃ C, mkB (leB m5 4) = C := ⟨_, rfl⟩
          rw [hCn] at hst e81
          by_cases hBC : Bd = Cn
          · subst hBC
            rw [if_pos rfl] at hst
            have hnext := unhide HG2 _ hst
            have hbe : (Bd.toList == Bd.toList) = true := by simp
            have E81 := hide e81
            have HE := hide hnext
            clear e81 hst hnext Hst HG1 HG2 HK hCn
            go_wp2_with fail
            refine (unhide E81).mono ?_
            rintro e w8 ⟨rfl, hb8⟩
            have hD8 := (unhide HD7).over hb8
            obtain ⟨dp, a1, a2⟩ := hD8.back
            rw [List.cons_append, List.append_assoc] at a1
            obtain ⟨v9, w9, hr9, h9⟩ := deeds_add a1 rfl (by rw [unhide Hm4]; omega)
            have hD9 := a2 w9 (rowI (.slice none 0 0) [] :: (deedsR v9 (P ++ [(.slice p5 m5 c5, st.deed)]) ++ (logR lb db fr many first st.used :: l2))) (by rw [List.cons_append, List.append_assoc]; exact h9)
            obtain ⟨_, _, _, k49, f49⟩ := unhide HLog (_ :: deedsR _ _) st.used w9 hD9
            have hD10 := DiskIn.store (_ :: deedsR _ _) hD9 4 (.int .i64 ((i : Int) + 1)) _ rfl
            have HD10 : Hid (DiskIn w0 (w9.setCell ⟨lb, 4, none⟩ (.int .i64 ((i : Int) + 1))) db d (rowI (.slice none 0 0) [] :: (deedsR v9 (P ++ [(.slice p5 m5 c5, st.deed)]) ++ (logR lb db fr many first (i + 1) :: l2)))) := by
              unfold logR
              rw [show ((i + 1 : Nat) : Int) = (i : Int) + 1 by omega]
              exact hD10
            clear hb8 hD8 a1 a2 h9 E81 hD9 hD10
            go_wp2_with (at_builtin; refine wpList_appendI rfl _ _ 69 69 rfl (.slice p4 m4 c4) (.slice (some ⟨w8.heap.size, 0, none⟩) 1 1) rfl rfl hr9 ?_)
            clear hr9
            go_roundg (many - i)
            case measure => omega
            case rel => exact ⟨i + 1, P ++ [(.slice p5 m5 c5, st.deed)], _, by omega, by omega, by simp, by simp, by simp only [List.length_append, List.length_singleton]; rw [unhide Hm4]; omega, by show _ = _; rw [List.map_append, unhide HPd]; rfl, HE, HD10⟩
          · rw [if_neg hBC] at hst
            have hend := unhide HG1 hst
            have hbe : (Bd.toList == Cn.toList) = false := by rw [beq_eq_false_iff_ne, Ne, toList_same]; exact hBC
            have E81 := hide e81
            have HE := hide hend
            clear e81 hst hend Hst HG1 HG2 HK hCn hBC
            go_wp2_with fail
            refine (unhide E81).mono ?_
            rintro e w8 ⟨rfl, hb8⟩
            have HD8 := hide ((unhide HD7).over hb8)
            clear hb8 E81
            go_wp2_with fail
            go_ret2
            exact ⟨_, P, rfl, by rw [unhide HE]; exact unhide HPd, by rw [unhide HE]; exact (unhide HD8).lose [_]⟩
        · -- none
          unfold nilB at hkd
          subst hkd
          have hst := unhide Hst
          rw [if_neg (show ¬ (⟨#[]⟩ : ByteArray) = kindO by decide), if_neg (show ¬ (⟨#[]⟩ : ByteArray) = kindC by decide)] at hst
          have hend := unhide HG1 hst
          have HE := hide hend
          clear hst hend Hst HG1 HG2 HK
          go_wp2_with fail
          go_ret2
          exact ⟨_, P, rfl, by rw [unhide HE]; exact unhide HPd, by rw [unhide HE]; exact (unhide HD7).lose [_]⟩
    · have hiz : ¬ (i : Int) < (many : Int) := by omega
      have hie : i = many := by omega
      subst hie
      have hR := unhide HR
      rw [Nat.sub_self, goR] at hR
      have HE := hide hR
      clear hR HR
      go_wp2_with fail
      go_ret2
      exact ⟨_, rfl, P, by rw [unhide HE]; exact unhide HPd, by rw [unhide HE]; exact (unhide HD).lose [_]⟩
#print axioms read_log_calls
end Go.Proofs.Ytcjfhfalffngjaa
