/-
  The contracts of the document's four and ClosedDeeds: they read sectors as the log does.
-/
import Derived.Test.YtcjfhfalffngjaaLDs
import Derived.Test.YtcjfhfalffngjaaRowQ
import Derived.Test.YtcjfhfalffngjaaCGood
namespace Go.Proofs.Ytcjfhfalffngjaa
open Go.RowKit Go.Lib
set_option maxRecDepth 100000
set_option linter.unusedVariables false
set_option linter.unusedSimpArgs false

theorem conv_four (w : World) (a b c d : UInt8) : (convert 105 9 (.slice (some ⟨w.heap.size, 0, none⟩) 4 4)).run Try.prog (w.alloc (.cells #[.int .u8 (a.toNat : Int), .int .u8 (b.toNat : Int), .int .u8 (c.toNat : Int), .int .u8 (d.toNat : Int)] 5)) = .ok (.string ⟨[a, b, c, d].toArray⟩) (w.alloc (.cells #[.int .u8 (a.toNat : Int), .int .u8 (b.toNat : Int), .int .u8 (c.toNat : Int), .int .u8 (d.toNat : Int)] 5)) :=
  conv_bytes _ w.heap.size 0 [a, b, c, d] 4 4 rfl (fun j v hv => by
    have h1 := (Hold.init w).made 5 (secV [a, b, c, d])
    rw [Nat.zero_add]
    exact h1.cellAt (.head _) hv)
theorem four_leB (n : Nat) : leB n 4 = [UInt8.ofNat (n % 256), UInt8.ofNat (n / 256 % 256), UInt8.ofNat (n / 65536 % 256), UInt8.ofNat (n / 16777216 % 256)] := by
  simp only [leB, Nat.div_div_eq_div_mul]
theorem u8_nat (n : Nat) : ((UInt8.ofNat (n % 256)).toNat : Int) = ((n % 256 : Nat) : Int) := by simp

theorem four_calls (n : Nat) (hn : n ≤ 4000000) (w : World) : Calls Try.prog 69 #[.int .i64 n] w fun e w' => e = .returned (.string (mkB (leB n 4))) ∧ Below w.heap.size w w' := by
  have hc := conv_four w (UInt8.ofNat (n % 256)) (UInt8.ofNat (n / 256 % 256)) (UInt8.ofNat (n / 65536 % 256)) (UInt8.ofNat (n / 16777216 % 256))
  rw [← four_leB] at hc
  simp only [u8_nat] at hc
  have e0 : ((n % 256 : Nat) : Int) = (n : Int) % 256 := by omega
  have e1 : ((n / 256 % 256 : Nat) : Int) = (n : Int) / 256 % 256 := by omega
  have e2 : ((n / 65536 % 256 : Nat) : Int) = (n : Int) / 65536 % 256 := by omega
  have e3 : ((n / 16777216 % 256 : Nat) : Int) = (n : Int) / 16777216 % 256 := by omega
  rw [e0, e1, e2, e3] at hc
  have hS : (⟨(leB n 4).toArray⟩ : ByteArray) = mkB (leB n 4) := rfl
  rw [hS] at hc
  obtain ⟨S, hSS⟩ : ∃ S, mkB (leB n 4) = S := ⟨_, rfl⟩
  rw [hSS] at hc ⊢
  have t1 : Int.tmod (n : Int) 256 = (n : Int) % 256 := by rw [Int.tmod_eq_emod_of_nonneg (by omega)]
  have t2 : Int.tdiv (n : Int) 256 = (n : Int) / 256 := by rw [Int.tdiv_eq_ediv_of_nonneg (by omega)]
  clear e0 e1 e2 e3 hS hSS
  go_enter Try.func69, Try.ntmps69
  go_wp2_with fail
  go_ret
  exact ⟨rfl, (Below.refl _ w).alloc (Nat.le_refl _) _⟩
#print axioms four_calls

theorem leB_numB : ∀ l : List UInt8, leB (numB l) l.length = l
  | [] => rfl
  | b :: r => by
    have hb := b.toNat_lt
    rw [List.length_cons, leB, numB]
    have e1 : (b.toNat + 256 * numB r) % 256 = b.toNat := by omega
    have e2 : (b.toNat + 256 * numB r) / 256 = numB r := by omega
    rw [e1, e2, leB_numB r]
    simp
theorem first_byte (S : ByteArray) (h : 0 < S.size) : S.extract 0 1 = mkB [S[0]] := by
  obtain ⟨l, rfl⟩ : ∃ l, S = mkB l := ⟨S.data.toList, (mkB_of S).symm⟩
  rw [mkB_extract]
  cases l with
  | nil => simp [mkB_size] at h
  | cons b l => rfl
theorem len_bytes (S : ByteArray) (h : 6 < S.size) : lenS S = S[5].toNat + 256 * S[6].toNat := by
  have e : (S.extract 5 7).data.toList = [S[5], S[6]] := by
    obtain ⟨l, rfl⟩ : ∃ l, S = mkB l := ⟨S.data.toList, (mkB_of S).symm⟩
    rw [mkB_extract, mkB_list]
    rw [mkB_size] at h
    match l, h with
    | b0 :: b1 :: b2 :: b3 :: b4 :: b5 :: b6 :: r, _ => rfl
  unfold lenS
  rw [e]
  simp [numB]
theorem num_bytes (S : ByteArray) (h : S.size = 140) (num : Nat) (hn : num < 4294967296) : S.extract 1 5 = mkB (leB num 4) ↔ numS S = num := by
  have hl : (S.extract 1 5).data.toList.length = 4 := by rw [Array.length_toList]; show (S.extract 1 5).size = 4; rw [ByteArray.size_extract, h]; rfl
  constructor
  · intro e
    unfold numS
    rw [e, mkB_list, numB_leB 4 num hn]
  · intro e
    have := leB_numB (S.extract 1 5).data.toList
    rw [hl] at this
    unfold numS at e
    rw [← e, this, mkB_of]
def bodyS (S : ByteArray) : ByteArray := S.extract 7 (7 + lenS S)
section
variable {S : ByteArray} {num i : Nat} {st : RS}
theorem step_bad (h : ¬ numS S = num ∨ 133 < lenS S) : stepR S num i st = none := by
  have hG : ¬ GoodS S num := fun g => by rcases h with h | h; exact h g.2.1; have := g.2.2; omega
  have hp : parseS S num = (nilB, nilB) := by unfold parseS; rw [if_neg hG]
  unfold stepR
  rw [hp, if_neg (show ¬ (nilB, nilB).1 = kindO by decide), if_neg (show ¬ (nilB, nilB).1 = kindC by decide)]
theorem parse_good (hk : S.extract 0 1 = kindO ∨ S.extract 0 1 = kindC) (h1 : numS S = num) (h2 : lenS S ≤ 133) : parseS S num = (S.extract 0 1, bodyS S) := by
  unfold parseS
  rw [if_pos ⟨hk, h1, by omega⟩]
  rfl
theorem step_kindless (hk : ¬ S.extract 0 1 = kindO) (hk2 : ¬ S.extract 0 1 = kindC) : stepR S num i st = none := by
  have hG : ¬ GoodS S num := fun g => by rcases g.1 with h | h; exact hk h; exact hk2 h
  have hp : parseS S num = (nilB, nilB) := by unfold parseS; rw [if_neg hG]
  unfold stepR
  rw [hp, if_neg (show ¬ (nilB, nilB).1 = kindO by decide), if_neg (show ¬ (nilB, nilB).1 = kindC by decide)]
theorem step_end (hk : S.extract 0 1 = kindC) (h1 : numS S = num) (h2 : lenS S ≤ 133) : stepR S num i st = if bodyS S = mkB (leB st.deed.length 4) then some ⟨st.deeds ++ [st.deed], [], i + 1⟩ else none := by
  unfold stepR
  rw [parse_good (.inr hk) h1 h2, hk, if_neg (show ¬ (kindC, bodyS S).1 = kindO by show ¬ kindC = kindO; decide), if_pos (show (kindC, bodyS S).1 = kindC from rfl)]
theorem step_change (hk : S.extract 0 1 = kindO) (h1 : numS S = num) (h2 : lenS S ≤ 133) : stepR S num i st = (parseP (bodyS S)).map fun c => ⟨st.deeds, st.deed ++ [c], st.used⟩ := by
  unfold stepR
  rw [parse_good (.inl hk) h1 h2, hk, if_pos (show (kindO, bodyS S).1 = kindO from rfl)]
end

/-- A row of texts that can be read. -/
def StrOk (w : World) (v : Value) (l : List (List UInt8)) : Prop := (l = [] ∧ ∃ p c, v = .slice p 0 c) ∨ ∃ b off c, v = .slice (some ⟨b, off, none⟩) l.length c ∧ l.length ≤ 9223372036854775807 ∧ b < w.heap.size ∧ ∀ j s, l[j]? = some s → w.cell? ⟨b, off + j, none⟩ = some (.string (mkB s))
theorem StrOk.slice {w : World} {v : Value} {l : List (List UInt8)} (h : StrOk w v l) : ∃ p c, v = .slice p l.length c := by
  rcases h with ⟨rfl, p, c, h⟩ | ⟨b, off, c, h, _⟩
  · exact ⟨p, c, h⟩
  · exact ⟨_, c, h⟩
theorem StrOk.below {w w' : World} {v : Value} {l : List (List UInt8)} (h : StrOk w v l) (hb : Below w.heap.size w w') : StrOk w' v l := by
  rcases h with h | ⟨b, off, c, h1, h2, h3, h4⟩
  · exact .inl h
  · have hs := hb.size
    refine .inr ⟨b, off, c, h1, h2, by omega, fun j p hp => ?_⟩
    rw [cell_below hb h3]
    exact h4 j p hp
theorem str_of_row {w0 w : World} {rs : List Res} (H : Hold w0 w rs) {v : Value} {l : List (List UInt8)} (hm : strR v l ∈ rs) : StrOk w v l := by
  have hr := H.rowAt hm
  cases hL : l with
  | nil =>
    subst hL
    obtain ⟨p, c, hv, _⟩ := row_slice hr
    exact .inl ⟨rfl, p, c, hv⟩
  | cons c0 L' =>
    rw [← hL]
    have hpos : 0 < l.length := by rw [hL]; simp
    obtain ⟨g, cap, hv, hnc, hcm⟩ := row_shape hr hpos
    have hm' : Res.row (.slice (some ⟨g, 0, none⟩) l.length cap) 9 1 l.length (strV l) ∈ rs := by rw [← hv]; exact hm
    refine .inr ⟨g, 0, cap, hv, by omega, (World.ownsRow.lt hr g (by rw [hv]; rfl)).2, fun j s hj => ?_⟩
    rw [Nat.zero_add]
    exact H.rowCell hm' (strV_get hj)

def ClosedEnd (w : World) (RP : RS) (e : Ending) (w' : World) : Prop := ∃ v P, e = .returned (.tuple #[v, .int .i64 (RP.used : Int)]) ∧ P.map (·.2) = RP.deeds ∧ Hold w w' (deedsR v P)
theorem closed_mk {w w' : World} {RP : RS} {v : Value} {P : List (Value × List ChD)} {st : RS} (he : RP = st) (hP : P.map (·.2) = st.deeds) {x : Res} (hH : Hold w w' (x :: (deedsR v P ++ []))) : ClosedEnd w RP (.returned (.tuple #[v, .int .i64 (st.used : Int)])) w' := by
  subst he
  exact ⟨v, P, rfl, hP, by have := hH.forget []; simpa using this⟩
set_option maxHeartbeats 4000000 in
theorem closed_calls (v : Value) (l : List (List UInt8)) (first : Nat) (w : World) (h : StrOk w v l) (hl : l.length ≤ 200) (hf : first ≤ 1000000) (hs : ∀ s ∈ l, s.length = 140) :
    Calls Try.prog 40 #[v, .int .i64 first] w fun e w' => ClosedEnd w (goR (fun i => mkB (l.getD i [])) first l.length 0 st0) e w' := by
  obtain ⟨pv, cv, hv⟩ := h.slice
  subst hv
  have HH := hide h
  have HS := hide hs
  obtain ⟨n, hn⟩ : ∃ n, l.length = n := ⟨_, rfl⟩
  rw [hn] at HH hl ⊢
  have Hn := hide hn
  obtain ⟨RP, hRP⟩ : ∃ RP, goR (fun i => mkB (l.getD i [])) first n 0 st0 = RP := ⟨_, rfl⟩
  have HR0 : Hid (RP = goR (fun i => mkB (l.getD i [])) first (n - 0) 0 st0) := hRP.symm
  rw [hRP]
  have H0 : Hid (Hold w w (rowI (.slice none 0 0) [] :: (deedsR (.slice none 0 0) [] ++ []))) := ((Hold.init w).nilRow 36 1).nilRow 54 3
  clear h hs hn hRP
  go_enter Try.func40, Try.ntmps40
  go_wp2_with fail
  go_loopg [6, 7, 8, 9] (n + 1) (fun g v6 v7 v8 vi wr => ∃ (i : Nat) (P : List (Value × List ChD)) (st : RS), n - i < g ∧ i ≤ n ∧ vi = .int .i64 i ∧ v8 = .int .i64 (st.used : Int) ∧ st.deed.length ≤ i ∧ P.length ≤ i ∧ Hid (P.map (·.2) = st.deeds) ∧ Hid (RP = goR (fun i => mkB (l.getD i [])) first (n - i) i st) ∧ Hid (Hold w wr (rowI v7 st.deed :: (deedsR v6 P ++ []))))
  case atStart => exact ⟨0, [], st0, by omega, by omega, rfl, rfl, by simp [st0], by simp, rfl, HR0, H0⟩
  case round =>
    clear HR0 H0
    obtain ⟨i, P, st, hg, hi, rfl, rfl, hdl, hpl, HPd, HR, HD⟩ := hrel
    obtain ⟨p7, c7, hv7, _⟩ := row_slice ((unhide HD).rowAt (.head _))
    obtain ⟨p6, c6, hv6, _⟩ := row_slice ((unhide HD).rowAt (.tail _ (.head _)))
    obtain ⟨m7, hm7⟩ : ∃ m, st.deed.length = m := ⟨_, rfl⟩
    obtain ⟨m6, hm6⟩ : ∃ m, P.length = m := ⟨_, rfl⟩
    rw [hm7] at hv7 hdl
    rw [hm6] at hv6 hpl
    subst hv7 hv6
    have Hm7 := hide hm7
    have Hm6 := hide hm6
    clear hm7 hm6
    by_cases hin : i < n
    · have hiz : (i : Int) < (n : Int) := by omega
      rcases unhide HH with ⟨h0, _⟩ | ⟨b, off, c, hv1, _, hbW, hcs⟩
      · have := unhide Hn; rw [h0] at this; simp at this; omega
      injection hv1 with e1 e2 e3
      subst e1 e3
      clear e2
      obtain ⟨s, hx⟩ : ∃ s, l[i]? = some s := ⟨_, List.getElem?_eq_getElem (by rw [unhide Hn]; exact hin)⟩
      have q0 := (cell_below (unhide HD).below (p := ⟨b, off + i, none⟩) hbW).trans (hcs i s hx)
      have hgd : mkB (l.getD i []) = mkB s := by rw [List.getD, hx]; rfl
      have hsl : s.length = 140 := unhide HS s (List.mem_of_getElem? hx)
      obtain ⟨S, hSS⟩ : ∃ S, mkB s = S := ⟨_, rfl⟩
      have hsz : S.size = 140 := by rw [← hSS, mkB_size, hsl]
      rw [hSS] at q0 hgd
      have hR := unhide HR
      obtain ⟨kk, hkk⟩ : ∃ kk, n - i = kk + 1 := ⟨n - i - 1, by omega⟩
      rw [hkk] at hR
      have hkk2 : n - (i + 1) = kk := by omega
      have hgo1 : stepR S (first + i) i st = none → RP = st := fun hx => by rw [hR]; exact goR_end (get := fun i => mkB (l.getD i [])) (by show stepR (mkB (l.getD i [])) _ _ _ = _; rw [hgd]; exact hx)
      have hgo2 : ∀ st', stepR S (first + i) i st = some st' → RP = goR (fun i => mkB (l.getD i [])) first (n - (i + 1)) (i + 1) st' := fun st' hx => by rw [hR, hkk2]; exact goR_next (get := fun i => mkB (l.getD i [])) (by show stepR (mkB (l.getD i [])) _ _ _ = _; rw [hgd]; exact hx)
      have HG1 := hide hgo1
      have HG2 := hide hgo2
      have hln := len_bytes S (by omega)
      have hk0 := first_byte S (by omega)
      have hz5 : 5 < S.size := by omega
      have hz6 : 6 < S.size := by omega
      have hz0 : 0 < S.size := by omega
      clear hcs hx hgd hsl hSS hR hkk hkk2 hgo1 hgo2 HR
      obtain ⟨x5, hx5, b5⟩ : ∃ x, (S[5]'hz5).toNat = x ∧ x < 256 := ⟨_, rfl, UInt8.toNat_lt _⟩
      obtain ⟨x6, hx6, b6⟩ : ∃ x, (S[6]'hz6).toNat = x ∧ x < 256 := ⟨_, rfl, UInt8.toNat_lt _⟩
      rw [hx5, hx6] at hln
      obtain ⟨ln, hlnn⟩ : ∃ ln, lenS S = ln := ⟨_, rfl⟩
      rw [hlnn] at hln
      have hlnb : ln < 65536 := by omega
      have Y5 : Hid (wrap64 (x5 : Int) = (x5 : Int)) := IntWalk.wrap64_in _ (by omega)
      have Y6 : Hid (wrap64 (x6 : Int) = (x6 : Int)) := IntWalk.wrap64_in _ (by omega)
      have Y7 : Hid (wrap64 (256 * (x6 : Int)) = 256 * (x6 : Int)) := IntWalk.wrap64_in _ (by omega)
      have Y8 : Hid (wrap64 ((x5 : Int) + 256 * (x6 : Int)) = (ln : Int)) := (IntWalk.wrap64_in _ (by omega)).trans (by omega)
      have Hx5 := hide hx5
      have Hx6 := hide hx6
      have HLnn := hide hlnn
      have HK0 := hide hk0
      clear hln hk0 hx5 hx6 hlnn b5 b6
      go_wp2_with fail
      go_quiet (fail)
      rw [unhide Hx5, unhide Hx6, unhide Y5, unhide Y6, unhide Y7, unhide Y8]
      obtain ⟨w1, hw1⟩ : ∃ w1, wr.drewN nq = w1 := ⟨_, rfl⟩
      have HD1 : Hid (Hold w w1 (rowI (.slice p7 m7 c7) st.deed :: (deedsR (.slice p6 m6 c6) P ++ []))) := by rw [← hw1]; exact (unhide HD).drewN nq
      rw [hw1]
      have ef := fun u : Later w1 => four_calls (first + i) (by omega) u.wld
      obtain ⟨S4, hS4⟩ : ∃ S4, mkB (leB (first + i) 4) = S4 := ⟨_, rfl⟩
      have hnb := num_bytes S hsz (first + i) (by omega)
      rw [hS4] at ef hnb
      have hce : ((first + i : Nat) : Int) = (first : Int) + (i : Int) := by omega
      rw [hce] at ef
      have EF := hide ef
      clear Hx5 Hx6 Y5 Y6 Y7 Y8 hw1 HD ef hS4 hce q0
      obtain ⟨kb, hkb, hkb2⟩ : ∃ x, (S[0]'hz0).toNat = x ∧ S[0]'hz0 = UInt8.ofNat x := ⟨_, rfl, by simp⟩
      have Hkb := hide hkb
      have hk0 := unhide HK0
      rw [show S[0] = S[0]'hz0 from rfl, hkb2] at hk0
      have HK1 := hide hk0
      clear hkb hkb2 hk0 HK0
      by_cases hnum : numS S = first + i
      · have hbe : ((S.extract 1 5).toList == S4.toList) = true := by rw [(hnb.2 hnum)]; simp
        by_cases hbig : 133 < ln
        · have hbz : (133 : Int) < (ln : Int) := by omega
          have HE : Hid (RP = st) := unhide HG1 (step_bad (.inr (by rw [unhide HLnn]; exact hbig)))
          clear hnb
          go_wp2_with fail
          refine wp_region_later (by kernel_rfl) (by kernel_rfl) ?_
          repeat (go_big_quiet_step (first | (go_at_call 69; refine Calls.later (unhide EF _))))
          refine wpQuiet_nil ?_
          intro _ hw'
          obtain ⟨uq, hw''⟩ := hw'
          subst hw''
          have HD2 := hide ((unhide HD1).over uq.bel)
          obtain ⟨w2, hw2⟩ : ∃ w2, uq.wld = w2 := ⟨_, rfl⟩
          rw [hw2] at HD2 ⊢
          clear hw2 HD1 EF
          go_wp2_with fail
          go_ret2
          exact closed_mk (unhide HE) (unhide HPd) (unhide HD2)
        · have hbz : ¬ (133 : Int) < (ln : Int) := by omega
          have hl133 : ln ≤ 133 := by omega
          have Hnum := hide hnum
          have Hl133 : Hid (lenS S ≤ 133) := by show _ ≤ _; rw [unhide HLnn]; exact hl133
          have hbody : bodyS S = S.extract 7 (7 + ln) := by unfold bodyS; rw [unhide HLnn]
          have Hbody := hide hbody
          have hbsz : (S.extract 7 (7 + ln)).size ≤ 140 := by rw [ByteArray.size_extract]; omega
          have Hbsz := hide hbsz
          have hsz7 : (7 : Int) + (ln : Int) ≤ (S.size : Int) := by omega
          clear hnb hnum hbody hbsz
          go_wp2_with fail
          refine wp_region_later (by kernel_rfl) (by kernel_rfl) ?_
          repeat (go_big_quiet_step (first | (go_at_call 69; refine Calls.later (unhide EF _))))
          refine wpQuiet_nil ?_
          intro _ hw'
          obtain ⟨uq, hw''⟩ := hw'
          subst hw''
          have HD2 := hide ((unhide HD1).over uq.bel)
          obtain ⟨w2, hw2⟩ : ∃ w2, uq.wld = w2 := ⟨_, rfl⟩
          rw [hw2] at HD2 ⊢
          clear hw2 HD1 EF
          by_cases h99 : kb = 99
          · subst h99
            have e4 := four_calls m7 (by omega) w2
            obtain ⟨C4, hC4⟩ : ∃ C, mkB (leB m7 4) = C := ⟨_, rfl⟩
            rw [hC4] at e4
            have hst := step_end (st := st) (i := i) (unhide HK1) (unhide Hnum) (unhide Hl133)
            rw [unhide Hbody, unhide Hm7, hC4] at hst
            obtain ⟨Bd, hBd⟩ : ∃ B, S.extract 7 (7 + ln) = B := ⟨_, rfl⟩
            rw [hBd] at hst
            have E4 := hide e4
            have HBd := hide hBd
            have k99 : ((S[0]'hz0).toNat : Int) = 99 := by rw [unhide Hkb]; rfl
            by_cases hBC : Bd = C4
            · subst hBC
              rw [if_pos rfl] at hst
              have HE := hide (unhide HG2 _ hst)
              have hbe2 : ((S.extract 7 (7 + ln)).toList == Bd.toList) = true := by rw [unhide HBd]; simp
              clear e4 hst hC4 hBd HG1 HG2
              go_wp2_with fail
              refine (unhide E4).mono ?_
              rintro e w3 ⟨rfl, hb3⟩
              have a1 := (unhide HD2).over hb3
              obtain ⟨v9, w9, hr9, h9⟩ := deeds_add a1 rfl (by rw [unhide Hm6]; omega)
              have HD9 := hide h9
              clear hb3 E4 a1 h9
              go_wp2_with (at_builtin; refine wpList_appendI rfl _ _ 69 69 rfl (.slice p6 m6 c6) (.slice (some ⟨w3.heap.size, 0, none⟩) 1 1) rfl rfl hr9 ?_)
              clear hr9
              go_roundg (n - i)
              case measure => omega
              case rel => exact ⟨i + 1, P ++ [(.slice p7 m7 c7, st.deed)], ⟨st.deeds ++ [st.deed], [], i + 1⟩, by omega, by omega, by simp, by simp, by simp, by simp only [List.length_append, List.length_singleton]; rw [unhide Hm6]; omega, by show _ = _; rw [List.map_append, unhide HPd]; rfl, HE, HD9⟩
            · rw [if_neg hBC] at hst
              have HE := hide (unhide HG1 hst)
              have hbe2 : ((S.extract 7 (7 + ln)).toList == C4.toList) = false := by rw [unhide HBd, beq_eq_false_iff_ne, Ne, toList_same]; exact hBC
              clear e4 hst hC4 hBd HG1 HG2 hBC
              go_wp2_with fail
              refine (unhide E4).mono ?_
              rintro e w3 ⟨rfl, hb3⟩
              have HD3 := hide ((unhide HD2).over hb3)
              clear hb3 E4
              go_wp2_with fail
              go_ret2
              exact closed_mk (unhide HE) (unhide HPd) (unhide HD3)
          · by_cases h111 : kb = 111
            · subst h111
              have k111 : ((S[0]'hz0).toNat : Int) = 111 := by rw [unhide Hkb]; rfl
              have hst := step_change (st := st) (i := i) (unhide HK1) (unhide Hnum) (unhide Hl133)
              rw [unhide Hbody] at hst
              have e31 := of_calls (S.extract 7 (7 + ln)) (by have := unhide Hbsz; omega) w2
              obtain ⟨Bd, hBd⟩ : ∃ B, S.extract 7 (7 + ln) = B := ⟨_, rfl⟩
              rw [hBd] at hst e31
              unfold OfEnd parseE at e31
              have HBd := hide hBd
              cases hp : parseP Bd with
              | none =>
                rw [hp] at hst e31
                have HE := hide (unhide HG1 hst)
                unfold chV at e31
                simp only [Option.getD_none, Option.isSome_none, chZ, noE] at e31
                have E31 := hide e31
                clear e31 hst hp HG1 HG2
                go_wp2_with fail
                refine (unhide E31).mono ?_
                rintro e w3 ⟨rfl, hb3⟩
                have HD3 := hide (((unhide HD2).over hb3).alloc (.cells #[.string ⟨#[]⟩, .string ⟨#[]⟩, .bool false] 54))
                clear hb3 E31
                go_wp2_with fail
                go_ret2
                exact closed_mk (unhide HE) (unhide HPd) (unhide HD3)
              | some c =>
                rw [hp] at hst e31
                obtain ⟨key, val, gone⟩ := c
                have HE := hide (unhide HG2 _ hst)
                unfold chV at e31
                simp only [Option.getD_some, Option.isSome_some, noE] at e31
                have E31 := hide e31
                clear e31 hst hp HG1 HG2
                go_wp2_with fail
                refine (unhide E31).mono ?_
                rintro e w3 ⟨rfl, hb3⟩
                have a1 := ((unhide HD2).over hb3).alloc (.cells #[.string key, .string val, .bool gone] 54)
                obtain ⟨v9, w9, hr9, h9⟩ := hold_add a1 ⟨key, val, gone⟩ (by rw [unhide Hm7]; omega)
                rw [show (w3.alloc (.cells #[.string key, .string val, .bool gone] 54)).heap.size = w3.heap.size + 1 by simp] at hr9
                have HD9 := hide h9
                clear hb3 E31 a1 h9
                go_wp2_with (at_builtin; refine wpList_appendI rfl _ _ 36 36 rfl (.slice p7 m7 c7) (.slice (some ⟨w3.heap.size + 1, 0, none⟩) 1 1) rfl rfl hr9 ?_)
                clear hr9
                go_roundg (n - i)
                case measure => omega
                case rel => exact ⟨i + 1, P, ⟨st.deeds, st.deed ++ [⟨key, val, gone⟩], st.used⟩, by omega, by omega, by simp, rfl, by simp only [List.length_append, List.length_singleton]; rw [unhide Hm7]; omega, by rw [unhide Hm6]; omega, HPd, HE, HD9⟩
            · have hne : kb < 256 := by rw [← unhide Hkb]; exact UInt8.toNat_lt _
              have hk1 : ¬ S.extract 0 1 = kindO := fun e => by
                rw [unhide HK1] at e
                have := mkB_inj (a := [UInt8.ofNat kb]) (b := [111]) e
                simp only [List.cons.injEq, and_true] at this
                have h2 := congrArg UInt8.toNat this
                simp at h2
                omega
              have hk2 : ¬ S.extract 0 1 = kindC := fun e => by
                rw [unhide HK1] at e
                have := mkB_inj (a := [UInt8.ofNat kb]) (b := [99]) e
                simp only [List.cons.injEq, and_true] at this
                have h2 := congrArg UInt8.toNat this
                simp at h2
                omega
              have HE := hide (unhide HG1 (step_kindless hk1 hk2))
              have k99 : ¬ ((S[0]'hz0).toNat : Int) = 99 := by rw [unhide Hkb]; omega
              have k111 : ¬ ((S[0]'hz0).toNat : Int) = 111 := by rw [unhide Hkb]; omega
              clear HG1 HG2 hk1 hk2
              go_wp2_with fail
              go_ret2
              exact closed_mk (unhide HE) (unhide HPd) (unhide HD2)
      · have hbe : ((S.extract 1 5).toList == S4.toList) = false := by rw [beq_eq_false_iff_ne, Ne, toList_same]; exact fun e => hnum (hnb.1 e)
        have HE : Hid (RP = st) := unhide HG1 (step_bad (.inl hnum))
        clear hnb hnum
        go_wp2_with fail
        refine wp_region_later (by kernel_rfl) (by kernel_rfl) ?_
        repeat (go_big_quiet_step (first | (go_at_call 69; refine Calls.later (unhide EF _))))
        refine wpQuiet_nil ?_
        intro _ hw'
        obtain ⟨uq, hw''⟩ := hw'
        subst hw''
        have HD2 := hide ((unhide HD1).over uq.bel)
        obtain ⟨w2, hw2⟩ : ∃ w2, uq.wld = w2 := ⟨_, rfl⟩
        rw [hw2] at HD2 ⊢
        clear hw2 HD1 EF
        go_wp2_with fail
        go_ret2
        exact closed_mk (unhide HE) (unhide HPd) (unhide HD2)
    · have hiz : ¬ (i : Int) < (n : Int) := by omega
      have hie : i = n := by omega
      subst hie
      have hR := unhide HR
      rw [Nat.sub_self, goR] at hR
      have HE := hide hR
      clear hR HR
      go_wp2_with fail
      go_ret2
      exact closed_mk (unhide HE) (unhide HPd) (unhide HD)
#print axioms closed_calls
end Go.Proofs.Ytcjfhfalffngjaa
