/-
  The walk of TopList: who lists bit by bit misses nothing.
-/
import Derived.Test.YtjpmomklkkifjaaGreatDoorCFListP
namespace Go.Proofs.YtjpmomklkkifjaaGreatDoor.T
open Go.RowKit Go.Lib
set_option maxRecDepth 100000
set_option linter.unusedVariables false
set_option linter.unusedSimpArgs false

theorem and3 (x : Int) : ∃ nn : Nat, wrap64 (1 + bits .and .i64 x 3) = (nn : Int) ∧ 1 ≤ nn ∧ nn ≤ 4 := by
  have h : (BitVec.ofInt 64 x &&& BitVec.ofInt 64 3).toNat ≤ 3 := by
    rw [BitVec.toNat_and]
    exact Nat.le_trans Nat.and_le_right (by decide)
  have e : bits .and .i64 x 3 = (((BitVec.ofInt 64 x &&& BitVec.ofInt 64 3).toNat : Nat) : Int) := by
    show IntKind.i64.wrap (((BitVec.ofInt 64 x &&& BitVec.ofInt 64 3).toNat : Nat) : Int) = _
    rw [IntKind.wrap_i64]
    omega
  refine ⟨1 + (BitVec.ofInt 64 x &&& BitVec.ofInt 64 3).toNat, ?_, by omega, by omega⟩
  rw [e]
  unfold wrap64
  omega
/-- What is known of the folder that is listed. -/
structure Fold (N : List NV) (F : Forest) (next : Int) (k : Nat) (nid : Int) : Prop where
  good : Good k N F next
  kind : ∀ v ∈ N, v.id = nid → v.kind = 1
  pos : 1 ≤ nid ∧ nid < next
theorem at_or {N : List NV} {F : Forest} {next : Int} (hw : Whole N F next) (i : Int) : (atN N i ∈ N ∧ (atN N i).id = i) ∨ atN N i = NV.zero := by
  unfold atN
  cases h : findN N i with
  | none => exact .inr rfl
  | some v => exact .inl (findN_some h)
theorem ents_zero (F : Forest) : entsK F NV.zero = [] := rfl
theorem Fold.ents {N : List NV} {F : Forest} {next : Int} {k : Nat} {nid : Int} (h : Fold N F next k nid) : Keyd (entsK F (atN N nid)) ∧ Sorted (entsK F (atN N nid)) ∧ (entsK F (atN N nid)).length ≤ k := by
  rcases at_or h.good.whole nid with ⟨h1, h2⟩ | h1
  · have := h.good.whole.ents h.good.fits h1
    refine ⟨fun x hx => ⟨this.key x hx, this.name x hx⟩, this.sorted, ?_⟩
    unfold entsK
    split
    · unfold entsOf
      split
      · simp
      · exact h.good.few.look _
    · simp
  · rw [h1, ents_zero]
    exact ⟨fun x hx => (by cases hx), List.Pairwise.nil, Nat.zero_le _⟩
theorem find_same {N : List NV} {F : Forest} {next : Int} {k : Nat} {nid : Int} (h : Fold N F next k nid) {s : ByteArray} {m : NV} (hf : findP N F s = .ok m) (hm : m.id = nid) : m = atN N nid ∧ m.kind = 1 := by
  obtain ⟨i, hi⟩ := findP_at hf
  rcases at_or h.good.whole i with ⟨h1, h2⟩ | h1
  · rw [← hi] at h1
    have h3 := atN_of h.good.whole.linked.nodup h1
    rw [hm] at h3
    exact ⟨h3.symm, h.kind m h1 hm⟩
  · rw [hi, h1] at hm
    have : (0 : Int) = nid := hm
    have := h.pos
    omega
theorem Fold.step {N N' : List NV} {F F' : Forest} {next next' : Int} {k : Nat} {nid : Int} (h : Fold N F next k nid) (hg : Good (k + 1) N' F' next') (hs : StepOk N F next N' F' next') :
    Fold N' F' next' (k + 1) nid ∧ ∀ key, (afterL (entsK F' (atN N' nid)) key).length ≤ (afterL (entsK F (atN N nid)) key).length + 1 := by
  have hp := h.pos
  have hn := hs.next
  refine ⟨⟨hg, fun v hv hid => ?_, hp.1, by omega⟩, fun key => ?_⟩
  · obtain ⟨u, hu, e1, e2, _⟩ := hs.node v hv (by omega)
    rw [← e2]
    exact h.kind u hu (by rw [e1, hid])
  · rcases at_or hg.whole nid with ⟨h1, h2⟩ | h1
    · obtain ⟨u, hu, e1, e2, e3⟩ := hs.node _ h1 (by rw [h2]; omega)
      have hku := h.kind u hu (by rw [e1, h2])
      have hau : atN N nid = u := by
        have := atN_of h.good.whole.linked.nodup hu
        rw [e1, h2] at this
        exact this
      obtain ⟨tb, htb, ht⟩ := h.good.fits.tree u hu hku
      rw [hau, entsK_folder hku htb, entsK_folder (e2 ▸ hku) (e3 ▸ htb)]
      exact hs.tree tb ht key
    · rw [h1, ents_zero]
      simp [afterL]

theorem row_slice {w : World} {base : Nat} {v : Value} {e : TypeId} {k n : Nat} {xs : List Value} (h : w.ownsRow base e k v n xs) : ∃ p c, v = .slice p n c := by
  rcases h.2 with ⟨h1, h2⟩ | ⟨g, cap, cur, h1, _⟩
  · exact ⟨none, 0, by rw [h1, h2]⟩
  · exact ⟨_, cap, h1⟩
set_option maxHeartbeats 64000000 in
theorem topList_walk (va : Value) (na : Nat) (fa : Nat → ActD) (vm : Value) (nm : Nat) (fm : Nat → ActD) (s : ByteArray) (many : Int) (W : World) (hR : Ready W) (hA : ActsOk W va na fa) (hM : ActsOk W vm nm fm) (hw : (Lit.int .i64 many).wf = true) :
    Calls Tryz.prog 9 #[va, vm, .string s, .int .i64 many] W fun e w' => e = .returned (.bool true) ∧ Below W.heap.size W w' := by
  have hmade := made_calls hR (H0.start W) (Nat.le_refl _)
  have hgr := fun w1 (h1 : H0 W w1 []) => grown_calls hR h1 va na fa hA
  obtain ⟨pm, cm, hvm⟩ : ∃ p c, vm = .slice p nm c := by
    rcases hM with ⟨⟨p, c, h1⟩, h2⟩ | ⟨b, off, c, h1, _⟩
    · exact ⟨p, c, by rw [h2]; exact h1⟩
    · exact ⟨_, c, h1⟩
  subst hvm
  have hla := fun wx (hb : Below W.heap.size W wx) => lightActs_told (.slice pm nm cm) nm fm wx (hM.later hb) 30 (by decide)
  have HMd := hide hmade
  have HGr := hide hgr
  have HR := hide hR
  have HM := hide hM
  have HLa := hide hla
  clear hmade hgr hA hR hM hla hw
  go_enter Tryz.func9, Tryz.ntmps9
  go_wp2_with fail
  refine (unhide HMd).mono ?_
  rintro e w1 ⟨rfl, h1⟩
  have H1 := hide h1
  clear h1 HMd
  go_wp2_with fail
  refine (unhide HGr w1 (unhide H1)).mono ?_
  rintro e w2 (⟨rfl, h2⟩ | ⟨fb, mb, N, F, next, rfl, h2, hG⟩)
  · have H2 := hide h2
    clear h2 HGr H1
    go_wp2_with fail
    go_ret
    exact ⟨rfl, H0.below (unhide H2)⟩
  clear HGr H1
  have hla2 := unhide HLa w2 h2.below
  have H2 := hide h2
  have HG := hide hG
  have HL2 := hide hla2
  clear h2 hG hla2 HLa
  go_wp2_with fail
  refine (unhide HL2).mono ?_
  rintro e w3 ⟨⟨r, rfl, hlr⟩, rfl⟩
  cases r with
  | false =>
    clear HL2 hlr
    go_wp2_with fail
    go_ret
    exact ⟨rfl, (unhide H2).below⟩
  | true =>
  obtain ⟨hn30, hszm⟩ := hlr rfl
  have HSz := hide hszm
  clear HL2 hlr hszm
  by_cases hs : 100 < s.size
  · have hsz : (100 : Int) < (s.size : Int) := by omega
    go_wp2_with fail
    go_ret
    exact ⟨rfl, (unhide H2).below⟩
  have hsz : ¬ (100 : Int) < (s.size : Int) := by omega
  have hfd := fsFind_calls W _ fb mb N F next [] (unhide HR) (unhide H2) (unhide HG).fits s (by omega)
  cases hf0 : findP N F s with
  | error k =>
    rw [hf0] at hfd
    unfold findRet at hfd
    simp only [resN, resE, errV] at hfd
    have HFd := hide hfd
    clear hfd hf0
    go_wp2_with fail
    refine (unhide HFd).mono ?_
    rintro e w4 ⟨rfl, h4⟩
    have H4 := hide h4
    clear h4 HFd H2
    go_wp2_with fail
    go_ret
    exact ⟨rfl, ((unhide H4).alloc _).below⟩
  | ok n =>
  rw [hf0] at hfd
  unfold findRet at hfd
  simp only [resN, resE, errV] at hfd
  have HFd := hide hfd
  clear hfd
  cases hnk : (n.kind == 1) with
  | false =>
    have hnk2 : ¬ n.kind = 1 := by simpa using hnk
    clear hf0
    go_wp2_with fail
    refine (unhide HFd).mono ?_
    rintro e w4 ⟨rfl, h4⟩
    have H4 := hide h4
    clear h4 HFd H2
    go_wp2_with fail
    go_ret
    exact ⟨rfl, ((unhide H4).alloc _).below⟩
  | true =>
  have hnk1 : n.kind = 1 := by simpa using hnk
  have hnN : n ∈ N ∧ n = atN N n.id := by
    obtain ⟨i, hi⟩ := findP_at hf0
    rcases at_or (unhide HG).whole i with ⟨h1, h2⟩ | h1
    · rw [← hi] at h1
      exact ⟨h1, (atN_of (unhide HG).whole.linked.nodup h1).symm⟩
    · rw [hi, h1] at hnk1
      exact absurd hnk1 (by decide)
  have hfold : Fold N F next 60 n.id := ⟨unhide HG, fun v hv hid => by rw [uniq_of (unhide HG).whole.linked.nodup hv hnN.1 hid]; exact hnk1, (unhide HG).whole.ids n hnN.1⟩
  have hfull : Full (entsK F (atN N n.id)) := fun x hx => by
    rw [← hnN.2] at hx
    have := (unhide HG).whole.ents (unhide HG).fits hnN.1
    rw [this.key x hx]
    exact key_full (this.name x hx)
  have hstart := Bit.start hfold.ents.1 hfull hfold.ents.2.2
  have hL60 := hfold.ents.2.2
  obtain ⟨nid, hnid⟩ : ∃ nid, n.id = nid := ⟨_, rfl⟩
  rw [hnid] at hfold hstart HFd hL60
  rw [hnk1] at HFd
  have hpos := hfold.pos
  have hwfn : WfI nid := by
    have := (unhide HG).fits.id n hnN.1
    rw [hnid] at this
    exact wfI_of (by omega) (by omega)
  have HFo := hide hfold
  have HSt := hide hstart
  have Hwn := hide hwfn
  clear hnN hf0 hnk hnk1 hfold hfull hstart hnid HG hwfn
  go_wp2_with fail
  refine (unhide HFd).mono ?_
  rintro e w4 ⟨rfl, h4⟩
  obtain ⟨X, hX⟩ : ∃ X, w4.heap.size = X := ⟨_, rfl⟩
  have h5 := h4.made 33 [.int .i64 nid, .int .i64 1, .int .i64 n.up, .int .i64 n.links, .string n.text]
  rw [hX] at h5
  have hen := entries_calls h5 (unhide HFo).good.fits nid (unhide Hwn)
  have HEn := hide hen
  clear h4 h5 hen HFd H2
  go_wp2_with fail
  refine (unhide HEn).mono ?_
  rintro e w6 ⟨v0, rfl, h6⟩
  have H6 := hide h6
  obtain ⟨kk, hkk, hkk1, hkk4⟩ := and3 many
  have HKK := hide hkk
  clear h6 HEn hX hkk
  obtain ⟨L0, hL0⟩ : ∃ L0, entsK F (atN N nid) = L0 := ⟨_, rfl⟩
  rw [hL0] at H6 HSt hL60
  have HL0 := hide hL0
  clear hL0
  go_wp2_with fail
  rw [unhide HKK]
  go_loopg [13, 14, 16, 17, 18, 19, 20, 21, 22, 23, 24] 101 (fun k vA vE v16 vT v18 v19 v20 v21 v22 v23 v24 wr => ∃ (i : Nat) (N : List NV) (F : Forest) (next : Int) (T A E : List Item) (aft cur : ByteArray) (rest : List Res),
    100 - i < k ∧ i ≤ 100 ∧ v18 = .int .i64 i ∧ v16 = .string aft ∧ T.length ≤ 4 * i ∧ A.length ≤ 60 ∧ E.length ≤ 100 * i + 60 ∧
    Hid (FSIn W wr fb mb N F next (rowE vT T :: rest)) ∧ Hid (rowE vA A ∈ rest ∧ rowE vE E ∈ rest ∧ Res.cell X 33 [.int .i64 nid, .int .i64 1, .int .i64 n.up, .int .i64 n.links, .string n.text] ∈ rest) ∧
    Hid (∃ q, q ≤ 60 + min i nm ∧ Fold N F next q nid) ∧ Hid ((aft = ⟨#[]⟩ ∧ cur = ⟨#[]⟩) ∨ (checkP aft = none ∧ cur = keyS aft)) ∧ Hid (Bit (entsK F (atN N nid)) T A E cur (60 - (i - nm))))
  case atStart => exact ⟨0, N, F, next, [], L0, L0, ⟨#[]⟩, ⟨#[]⟩, _, by omega, by omega, rfl, rfl, by simp, hL60, by omega, (unhide H6).nilRow 38 2, ⟨.head _, .head _, .tail _ (.head _)⟩, ⟨60, by omega, unhide HFo⟩, .inl ⟨rfl, rfl⟩, by rw [unhide HL0, show 60 - (0 - nm) = 60 by omega]; exact HSt⟩
  case round =>
    obtain ⟨i, N, F, next, T, A, E, aft, cur, rest, hk, hi, rfl, rfl, hT4, hA9, hE9, HI, Hrs, HFq, Hcur, HB⟩ := hrel
    clear H6 HSt HFo hL60 HL0
    by_cases hi100 : i < 100
    · have hiz : (i : Int) < 100 := by omega
      obtain ⟨q, hq, hfo⟩ := unhide HFq
      have hfd := fsFind_calls W _ fb mb N F next _ (unhide HR) (unhide HI) hfo.good.fits s (by omega)
      cases hf0 : findP N F s with
      | error ke =>
        rw [hf0] at hfd
        unfold findRet at hfd
        simp only [resN, resE, errV] at hfd
        have HFd := hide hfd
        clear hfd hf0 hfo HI
        go_wp2_with fail
        refine (unhide HFd).mono ?_
        rintro e w7 ⟨rfl, h7⟩
        have H7 := hide h7
        clear h7 HFd
        go_wp2_with fail
        go_ret
        exact ⟨rfl, ((unhide H7).alloc _).below⟩
      | ok m =>
        rw [hf0] at hfd
        unfold findRet at hfd
        simp only [resN, resE, errV] at hfd
        by_cases hmn : m.id = nid
        · obtain ⟨hme, hmk⟩ := find_same hfo hf0 hmn
          rw [hmn] at hfd
          have HFd := hide hfd
          have Hme := hide hme
          have Hmk := hide hmk
          have Hf0 := hide hf0
          have HFo := hide hfo
          clear hfd hf0 hfo hmn hme hmk
          go_wp2_with fail
          refine (unhide HFd).mono ?_
          rintro e w7 ⟨rfl, h7⟩
          have x0 := h7.cellAt (List.mem_cons_of_mem _ (unhide Hrs).2.2) (j := 0) rfl
          have x1 : ∀ obj, (w7.alloc obj).cell? ⟨X, 0, none⟩ = some (.int .i64 nid) := fun obj => Lib.cell?_alloc_some obj x0
          obtain ⟨Y, hY⟩ : ∃ Y, w7.heap.size = Y := ⟨_, rfl⟩
          have h8 := h7.made 33 [.int .i64 nid, .int .i64 m.kind, .int .i64 m.up, .int .i64 m.links, .string m.text]
          rw [hY] at h8
          have hls := list_calls (unhide HR) h8 (unhide HFo).good.fits s aft (by omega) (unhide Hf0) (unhide Hmk) cur (unhide Hcur) kk (by omega) (by omega)
          have hem : entsK F m = entsK F (atN N nid) := congrArg (entsK F) (unhide Hme)
          rw [Int.toNat_natCast, hem] at hls
          clear hem
          have hkL := (unhide HFo).ents.1
          have hsL := (unhide HFo).ents.2.1
          obtain ⟨L, hL⟩ : ∃ L, entsK F (atN N nid) = L := ⟨_, rfl⟩
          rw [hL] at hls hkL hsL HB
          obtain ⟨P, hP⟩ : ∃ P, (afterL L cur).take kk = P := ⟨_, rfl⟩
          rw [hP] at hls
          have hPk : P.length ≤ kk := by rw [← hP]; exact List.length_take_le _ _
          have HLs := hide hls
          have HL := hide hL
          have HP := hide hP
          have HkL := hide hkL
          have HsL := hide hsL
          clear h7 h8 hls hL hP hkL hsL HFd HI x0
          go_wp2_with fail
          refine (unhide HLs).mono ?_
          rintro e w9 ⟨vP, rfl, h9⟩
          obtain ⟨pp, cp, rfl⟩ : ∃ p c, vP = .slice p P.length c := row_slice (h9.rowAt (.head _))
          obtain ⟨pl, hpl⟩ : ∃ pl, P.length = pl := ⟨_, rfl⟩
          rw [hpl] at h9 hPk ⊢
          have Hpl := hide hpl
          have hkz : ¬ (kk : Int) < (pl : Int) := by omega
          clear HLs x1 hY hpl
          by_cases hpl0 : pl = 0
          · have hA0 : afterL L cur = [] := by
              have h1 : ((afterL L cur).take kk).length = 0 := by rw [unhide HP, unhide Hpl, hpl0]
              rw [List.length_take] at h1
              exact List.eq_nil_of_length_eq_zero (by omega)
            have HBd : Hid (Sorted T ∧ Keyd T ∧ (∀ t ∈ T, t ∈ E) ∧ (∀ a ∈ A, a ∈ T) ∧ Keyd A ∧ Keyd E) := ⟨(unhide HB).sorted, (unhide HB).keyT, (unhide HB).te, (unhide HB).done hA0, (unhide HB).keyA, (unhide HB).keyE⟩
            obtain ⟨l, hl⟩ : ∃ l, (rowE (.slice pp pl cp) P :: Res.cell Y 33 [.int .i64 nid, .int .i64 m.kind, .int .i64 m.up, .int .i64 m.links, .string m.text] :: rowE u17 T :: rest) = l := ⟨_, rfl⟩
            have Hmem : Hid (rowE u17 T ∈ l ∧ rowE u13 A ∈ l ∧ rowE u14 E ∈ l) := by
              rw [← hl]
              exact ⟨.tail _ (.tail _ (.head _)), List.mem_cons_of_mem _ (List.mem_cons_of_mem _ (List.mem_cons_of_mem _ (unhide Hrs).1)), List.mem_cons_of_mem _ (List.mem_cons_of_mem _ (List.mem_cons_of_mem _ (unhide Hrs).2.1))⟩
            have HF0 : Hid (FSIn W w9 fb mb N F next l) := by
              rw [← hl]; exact h9
            clear h9 hl hA0 HB HP HkL HsL HL Hpl Hrs Hcur HFq HFo Hme Hmk Hf0
            subst hpl0
            obtain ⟨pT, cT, rfl⟩ : ∃ p c, u17 = .slice p T.length c := row_slice ((unhide HF0).rowAt (unhide Hmem).1)
            obtain ⟨pA, cA, rfl⟩ : ∃ p c, u13 = .slice p A.length c := row_slice ((unhide HF0).rowAt (unhide Hmem).2.1)
            obtain ⟨tl, htl⟩ : ∃ tl, T.length = tl := ⟨_, rfl⟩
            obtain ⟨al, hal⟩ : ∃ al, A.length = al := ⟨_, rfl⟩
            rw [htl] at hT4 Hmem ⊢
            rw [hal] at hA9 Hmem ⊢
            have Htl := hide htl
            have Hal := hide hal
            clear htl hal
            go_wp2_with fail
            go_loopg [25] (tl + 1) (fun k v25 wr2 => ∃ j : Nat, tl - j < k ∧ j ≤ tl ∧ v25 = .int .i64 j ∧ Hid (FSIn W wr2 fb mb N F next l))
            case atStart => exact ⟨0, by omega, by omega, rfl, HF0⟩
            case round =>
              obtain ⟨j, hkj, hjt, rfl, HJ⟩ := hrel
              clear HF0
              by_cases hjl : j < tl
              · have hjz : (j : Int) < (tl : Int) := by omega
                obtain ⟨x, hx⟩ : ∃ x, T[j]? = some x := ⟨T[j]'(by have := unhide Htl; omega), by simp⟩
                have hrT := (unhide HJ).rowAt (unhide Hmem).1
                rw [unhide Htl] at hrT
                obtain ⟨gT, cT', hpT, _⟩ := row_shape hrT (by omega)
                injection hpT with hpT1 _ hpT2
                subst hpT1 hpT2
                have hxT := List.mem_of_getElem? hx
                obtain ⟨hsT, hkT, hte, _, _, hkE⟩ := unhide HBd
                have hin := (named_iff hkE (hkT x hxT).1).2 (hte x hxT)
                have ei : ∀ q : Later wr, Calls Tryz.prog 35 #[u14, .agg #[.string x.name, .int .i64 x.node]] q.wld fun e w' => e = .returned (.bool true) ∧ Below q.wld.heap.size q.wld w' := fun q => by
                  have := in_calls (((unhide HJ).step q.bel).rowAt (unhide Hmem).2.2) (by omega) x.name x.node
                  rw [hin] at this
                  exact this
                have q0 := fun q : Later wr => cell_later q.bel (entry_cell hrT hx).1
                have q1 := fun q : Later wr => cell_later q.bel (entry_cell hrT hx).2
                rcases Nat.eq_zero_or_pos j with h0 | h0
                · have hz0 : ¬ (0 : Int) < (j : Int) := by omega
                  have hz1 : ¬ 0 < j := by omega
                  obtain ⟨xn, hxn⟩ : ∃ xn, x.name = xn := ⟨_, rfl⟩
                  obtain ⟨xd, hxd⟩ : ∃ xd, x.node = xd := ⟨_, rfl⟩
                  rw [hxn] at q0 ei
                  rw [hxd] at q1 ei
                  have EI := hide ei
                  clear hx hrT hxT hsT hkT hte hkE hin ei h0 hxn hxd
                  go_wp2_with fail
                  refine wp_region_later (by kernel_rfl) (by kernel_rfl) ?_
                  repeat (go_big_quiet_step (refine Calls.later (unhide EI _)))
                  refine wpQuiet_nil ?_
                  intro _ hw'
                  obtain ⟨uq, hw''⟩ := hw'
                  subst hw''
                  clear q0 q1 EI
                  go_wp2_with fail
                  go_roundg (tl - j)
                  case measure => omega
                  case rel => exact ⟨j + 1, by omega, by omega, by simp, (unhide HJ).step uq.bel⟩
                · obtain ⟨jq, hjq⟩ : ∃ jq, j = jq + 1 := ⟨j - 1, by omega⟩
                  have hm1 : (j : Int) - 1 = (jq : Int) := by omega
                  have hz0 : (0 : Int) < (j : Int) := by omega
                  have hqm : (jq : Int) < (tl : Int) := by omega
                  obtain ⟨y, hy⟩ : ∃ y, T[jq]? = some y := ⟨T[jq]'(by have := unhide Htl; omega), by simp⟩
                  have hyT := List.mem_of_getElem? hy
                  have hlt : kLt y.key x.key := by
                    have hjl1 : jq < T.length := (List.getElem?_eq_some_iff.1 hy).1
                    have hjl2 : j < T.length := (List.getElem?_eq_some_iff.1 hx).1
                    have := List.pairwise_iff_getElem.1 hsT jq j hjl1 hjl2 (by omega)
                    rw [(List.getElem?_eq_some_iff.1 hy).2, (List.getElem?_eq_some_iff.1 hx).2] at this
                    exact this
                  rw [(hkT y hyT).1, (hkT x hxT).1] at hlt
                  have ec := fun q : Later wr => compareS_calls (hkT y hyT).2 (hkT x hxT).2 q.wld (((unhide HJ).ready (unhide HR)).later q.bel)
                  have q2 := fun q : Later wr => cell_later q.bel (entry_cell hrT hy).1
                  unfold kLt at hlt
                  generalize cmpB (keyS y.name) (keyS x.name) = cc at hlt ec
                  have hc0 : ¬ (0 : Int) ≤ cc := by omega
                  obtain ⟨xn, hxn⟩ : ∃ xn, x.name = xn := ⟨_, rfl⟩
                  obtain ⟨xd, hxd⟩ : ∃ xd, x.node = xd := ⟨_, rfl⟩
                  obtain ⟨yn, hyn⟩ : ∃ yn, y.name = yn := ⟨_, rfl⟩
                  rw [hxn] at q0 ei ec
                  rw [hxd] at q1 ei
                  rw [hyn] at q2 ec
                  have EI := hide ei
                  have EC := hide ec
                  have Hjq := hide hjq
                  clear hx hrT hxT hsT hkT hte hkE hin ei hxn hxd hyn hy hyT hlt ec hjq
                  go_wp2_with fail
                  refine wp_region_later (by kernel_rfl) (by kernel_rfl) ?_
                  repeat (go_big_quiet_step (first | (go_at_call 35; refine Calls.later (unhide EI _)) | (go_at_call 18; refine Calls.later (unhide EC _))))
                  refine wpQuiet_nil ?_
                  intro _ hw'
                  obtain ⟨uq, hw''⟩ := hw'
                  subst hw''
                  clear q0 q1 q2 EI EC
                  go_wp2_with fail
                  go_roundg (tl - j)
                  case measure => omega
                  case rel => exact ⟨j + 1, by omega, by omega, by simp, (unhide HJ).step uq.bel⟩
              · have hjz : ¬ (j : Int) < (tl : Int) := by omega
                go_wp2_with fail
                go_loopg [26] (al + 1) (fun k v26 wr2 => ∃ j : Nat, al - j < k ∧ j ≤ al ∧ v26 = .int .i64 j ∧ Hid (FSIn W wr2 fb mb N F next l))
                case atStart => exact ⟨0, by omega, by omega, rfl, HJ⟩
                case round =>
                  obtain ⟨j2, hkj2, hjt2, rfl, HJ2⟩ := hrel
                  clear HJ
                  by_cases hjl2 : j2 < al
                  · have hjz2 : (j2 : Int) < (al : Int) := by omega
                    obtain ⟨x, hx⟩ : ∃ x, A[j2]? = some x := ⟨A[j2]'(by have := unhide Hal; omega), by simp⟩
                    have hrA := (unhide HJ2).rowAt (unhide Hmem).2.1
                    rw [unhide Hal] at hrA
                    obtain ⟨gA, cA', hpA, _⟩ := row_shape hrA (by omega)
                    injection hpA with hpA1 _ hpA2
                    subst hpA1 hpA2
                    have hxA := List.mem_of_getElem? hx
                    obtain ⟨_, hkT, _, hat, hkA, _⟩ := unhide HBd
                    have hin := (named_iff hkT (hkA x hxA).1).2 (hat x hxA)
                    obtain ⟨q0, q1⟩ := entry_cell hrA hx
                    have ei := in_calls ((unhide HJ2).rowAt (unhide Hmem).1) (by have := unhide Htl; omega) x.name x.node
                    rw [hin] at ei
                    have EI := hide ei
                    clear hx hrA hxA hkT hat hkA hin ei
                    go_wp2_with fail
                    refine (unhide EI).mono ?_
                    rintro e w20 ⟨rfl, hb20⟩
                    have H20 := hide ((unhide HJ2).step hb20)
                    clear hb20 EI q0 q1
                    go_wp2_with fail
                    go_roundg (al - j2)
                    case measure => omega
                    case rel => exact ⟨j2 + 1, by omega, by omega, by simp, H20⟩
                  · have hjz2 : ¬ (j2 : Int) < (al : Int) := by omega
                    go_wp2_with fail
                    go_ret
                    exact ⟨rfl, (unhide HJ2).below⟩
          · obtain ⟨gp, cp', hpp, _⟩ := row_shape (by have := h9.rowAt (v := .slice pp pl cp) (.head _); rw [unhide Hpl] at this; exact this) (by omega)
            injection hpp with hpp1 _ hpp2
            subst hpp1 hpp2
            have hne : P ≠ [] := by
              intro e
              have := unhide Hpl
              rw [e] at this
              simp at this
              omega
            obtain ⟨Q, p, hQ⟩ : ∃ Q p, P = Q ++ [p] := ⟨P.dropLast, P.getLast hne, (List.dropLast_concat_getLast hne).symm⟩
            have hnx := (unhide HB).next (unhide HkL) (unhide HsL) (k := kk) (p := p) (Q := Q) (by rw [unhide HP, hQ])
            rw [← hQ] at hnx
            have Hnx := hide hnx
            obtain ⟨pq, hpq⟩ : ∃ pq, pl = pq + 1 := ⟨pl - 1, by omega⟩
            have hpq1 : (pl : Int) - 1 = (pq : Int) := by omega
            have hpq2 : (pq : Int) < (pl : Int) := by omega
            have hPq : P[pq]? = some p := by
              have h1 := unhide Hpl
              rw [hQ] at h1 ⊢
              simp at h1
              rw [List.getElem?_append_right (by omega)]
              simp [show pq - Q.length = 0 by omega]
            obtain ⟨vT2, w10, hap, h10⟩ := FSIn.appE [_, _] (v := u17) (L := T) h9 (t := .slice (some ⟨gp, 0, none⟩) pl cp) (C := P) (by have := h9.rowAt (v := .slice (some ⟨gp, 0, none⟩) pl cp) (.head _); exact this) (by have := unhide Hpl; omega) 30
            have hr10 := h10.rowAt (v := .slice (some ⟨gp, 0, none⟩) pl cp) (.head _)
            rw [unhide Hpl] at hr10
            have p0 := (entry_cell hr10 hPq).1
            have HAp := hide hap
            have H10 : Hid (FSIn W w10 fb mb N F next (rowE (.slice (some ⟨gp, 0, none⟩) pl cp) P :: .cell Y 33 [.int .i64 nid, .int .i64 m.kind, .int .i64 m.up, .int .i64 m.links, .string m.text] :: rowE vT2 (T ++ P) :: rest)) := h10
            have Hpl0 := hide hpl0
            have hTP : (T ++ P).length ≤ 4 * (i + 1) := by rw [List.length_append, unhide Hpl]; omega
            have hPpos : 0 < pl := by omega
            clear h9 hap h10 hr10 hne hQ hnx hpq hPq hpl0
            by_cases hinm : i < nm
            · have hinz : (i : Int) < (nm : Int) := by omega
              rcases unhide HM with ⟨_, h0⟩ | ⟨b, off, c, hv, hn63, hbb, hcells⟩
              · omega
              injection hv with hvp _ hvc
              subst hvp hvc
              obtain ⟨r0, r1, r2, r3, ⟨uk, r4⟩, r5, rch⟩ := hcells i hinm
              have below := (unhide H10).below
              have hcb : ∀ a : Addr, a.block = b → w10.cell? a = W.cell? a := fun a ha => World.cell?_of_block (w := W) (below.block a.block (by rw [ha]; exact hbb))
              have s0 := (hcb ⟨b, off + i * 6, none⟩ rfl).trans r0
              have s1 := (hcb ⟨b, off + i * 6 + 1, none⟩ rfl).trans r1
              have s2 := (hcb ⟨b, off + i * 6 + 2, none⟩ rfl).trans r2
              have s3 := (hcb ⟨b, off + i * 6 + 3, none⟩ rfl).trans r3
              have s4 := (hcb ⟨b, off + i * 6 + 4, none⟩ rfl).trans r4
              have s5 := (hcb ⟨b, off + i * 6 + 5, none⟩ rfl).trans r5
              obtain ⟨hs1, hs2⟩ := unhide HSz i hinm
              obtain ⟨cp3, cn3, cc3, hch⟩ : ∃ cp cn cc, (fm i).ch = .slice cp cn cc := by
                rcases rch with ⟨p, c, h1⟩ | ⟨b, off, m, c, h1, _⟩
                · exact ⟨_, _, _, h1⟩
                · exact ⟨_, _, _, h1⟩
              rw [hch] at s5
              have hd := done_good2 (unhide HR) (unhide H10) (unhide HFo).good (by omega) (fm i) uk cp3 cn3 cc3 (by omega) (by omega)
              have HD := hide hd
              clear hcells r0 r1 r2 r3 r4 r5 rch below hcb hd hch
              go_wp2_with (at_builtin; refine wpList_appendI rfl _ _ 30 30 rfl _ _ rfl rfl (unhide HAp) ?_)
              refine (unhide HD).mono ?_
              rintro e w11 ⟨o, N', F', next', rfl, h11, hG', hStep, _⟩
              obtain ⟨hfo', hle⟩ := (unhide HFo).step hG' hStep
              have H11 := hide h11
              have HFo' := hide hfo'
              have HFq' : Hid (∃ q, q ≤ 60 + min (i + 1) nm ∧ Fold N' F' next' q nid) := ⟨q + 1, by omega, hfo'⟩
              have Hmany : Hid ((afterL (entsK F' (atN N' nid)) p.key).length ≤ 60 - (i + 1 - nm)) := by
                have h1 := hle p.key
                rw [unhide HL] at h1
                have h2 := (unhide Hnx).2.2.2.2.2.1
                show _ ≤ _
                omega
              have hq9 : q + 1 ≤ 90 := by omega
              obtain ⟨ov, hov⟩ : ∃ ov, errV o = ov := ⟨_, rfl⟩
              rw [hov]
              clear h11 hG' hStep hle hfo' hov HD H10 HAp s0 s1 s2 s3 s4 s5 p0
              have x1 := (unhide H11).cellAt (List.mem_cons_of_mem _ (List.mem_cons_of_mem _ (List.mem_cons_of_mem _ (unhide Hrs).2.2))) (j := 0) rfl
              have x0 : World.cell? _ ⟨X, 0, none⟩ = some (.int .i64 nid) := x1
              clear x1
              go_wp2_with fail
              have hen := entries_calls (unhide H11) (unhide HFo').good.fits nid (unhide Hwn)
              have hL9 := (unhide HFo').ents.2.2
              have hkL' := (unhide HFo').ents.1
              obtain ⟨L', hL'⟩ : ∃ L', entsK F' (atN N' nid) = L' := ⟨_, rfl⟩
              rw [hL'] at hen hL9 hkL'
              have HL' := hide hL'
              have HEn := hide hen
              have HkL' := hide hkL'
              clear hen hL' hkL'
              go_wp2_with fail
              refine (unhide HEn).mono ?_
              rintro e w12 ⟨vN, rfl, h12⟩
              have h12n := h12.nilRow 38 2
              obtain ⟨vE1, w13, hap1, h13⟩ := FSIn.appE [] (v := .slice none 0 0) (L := []) h12n (t := u14) (C := E) (h12n.rowAt (v := u14) (List.mem_cons_of_mem _ (List.mem_cons_of_mem _ (List.mem_cons_of_mem _ (List.mem_cons_of_mem _ (List.mem_cons_of_mem _ (unhide Hrs).2.1)))))) (by simp; omega) 30
              rw [List.nil_append, List.nil_append] at h13
              obtain ⟨vE2, w14, hap2, h14⟩ := FSIn.appE [] h13 (t := vN) (C := L') (h13.rowAt (.tail _ (.head _))) (by omega) 30
              rw [List.nil_append] at h14
              obtain ⟨pA, cA, hvA⟩ : ∃ p c, u13 = .slice p A.length c := row_slice (h14.rowAt (List.mem_cons_of_mem _ (List.mem_cons_of_mem _ (List.mem_cons_of_mem _ (List.mem_cons_of_mem _ (List.mem_cons_of_mem _ (unhide Hrs).1))))))
              obtain ⟨rest2, hrest2⟩ : ∃ rest2, (rowE vE2 (E ++ L') :: rowE vN L' :: rowE (.slice (some ⟨gp, 0, none⟩) pl cp) P :: .cell Y 33 [.int .i64 nid, .int .i64 m.kind, .int .i64 m.up, .int .i64 m.links, .string m.text] :: rowE vT2 (T ++ P) :: rest) = rest2 := ⟨_, rfl⟩
              rw [hrest2] at h14
              have Hr2 : Hid (rowE u13 A ∈ rest2 ∧ rowE vN L' ∈ rest2) := by
                rw [← hrest2]
                exact ⟨List.mem_cons_of_mem _ (List.mem_cons_of_mem _ (List.mem_cons_of_mem _ (List.mem_cons_of_mem _ (List.mem_cons_of_mem _ (unhide Hrs).1)))), .tail _ (.head _)⟩
              have Hrest2 := hide hrest2
              have HA1 := hide hap1
              have HA2 := hide hap2
              have H14 := hide h14
              subst hvA
              obtain ⟨al, hal⟩ : ∃ al, A.length = al := ⟨_, rfl⟩
              rw [hal] at hA9 Hr2 ⊢
              have Hal := hide hal
              clear h12 h12n hap1 h13 hap2 h14 hrest2 hal HEn H11 x0
              go_wp2_with (at_builtin; (first | refine wpList_appendI rfl _ _ 30 30 rfl _ _ rfl rfl (unhide HA1) ?_ | refine wpList_appendI rfl _ _ 30 30 rfl _ _ rfl rfl (unhide HA2) ?_))
              go_loopg [23, 24] (al + 1) (fun k v23 v24 wr2 => ∃ (j : Nat) (Bo : List Item), al - j < k ∧ j ≤ al ∧ v24 = .int .i64 j ∧ Bo.length ≤ j ∧ Hid (Bo = (A.take j).filter fun a => namedB L' a.name a.node) ∧ Hid (FSIn W wr2 fb mb N' F' next' (rowE v23 Bo :: rest2)))
              case atStart => exact ⟨0, [], by omega, by omega, rfl, by simp, (by show _ = _; simp), (unhide H14).nilRow 38 2⟩
              case round =>
                obtain ⟨j, Bo, hkj, hjl, rfl, hBo, HBo, HJ⟩ := hrel
                clear H14 HA1 HA2
                by_cases hja : j < al
                · have hjz : (j : Int) < (al : Int) := by omega
                  obtain ⟨x, hx⟩ : ∃ x, A[j]? = some x := ⟨A[j]'(by have := unhide Hal; omega), by simp⟩
                  have hrA := (unhide HJ).rowAt (List.mem_cons_of_mem _ (unhide Hr2).1)
                  rw [unhide Hal] at hrA
                  obtain ⟨gA, cA', hpA, _⟩ := row_shape hrA (by omega)
                  injection hpA with hpA1 _ hpA2
                  subst hpA1 hpA2
                  obtain ⟨q0, q1⟩ := entry_cell hrA hx
                  have ei := in_calls ((unhide HJ).rowAt (List.mem_cons_of_mem _ (unhide Hr2).2)) (by omega) x.name x.node
                  have Htk : Hid ((A.take (j + 1)).filter (fun a => namedB L' a.name a.node) = Bo ++ if namedB L' x.name x.node then [x] else []) := by
                    show _ = _
                    rw [List.take_add_one, hx, List.filter_append, unhide HBo]
                    simp only [Option.toList_some, List.filter_cons, List.filter_nil]
                  cases hnb : namedB L' x.name x.node with
                  | false =>
                    rw [hnb] at ei Htk
                    have EI := hide ei
                    clear hx hrA ei hnb HBo
                    go_wp2_with fail
                    refine (unhide EI).mono ?_
                    rintro e w20 ⟨rfl, hb20⟩
                    have H20 := hide ((unhide HJ).step hb20)
                    clear hb20 EI q0 q1
                    go_wp2_with fail
                    go_roundg (al - j)
                    case measure => omega
                    case rel => exact ⟨j + 1, Bo, by omega, by omega, by simp, by omega, (by show _ = _; rw [unhide Htk]; simp), H20⟩
                  | true =>
                    rw [hnb] at ei Htk
                    have EI := hide ei
                    have Hx := hide hx
                    clear hx hrA ei hnb HBo
                    go_wp2_with fail
                    refine (unhide EI).mono ?_
                    rintro e w20 ⟨rfl, hb20⟩
                    have h20 := (unhide HJ).step hb20
                    have hrA2 := h20.rowAt (List.mem_cons_of_mem _ (unhide Hr2).1)
                    rw [unhide Hal] at hrA2
                    obtain ⟨p0, p1⟩ := entry_cell hrA2 (unhide Hx)
                    have h21 := h20.alloc (.cells #[.string x.name, .int .i64 x.node] 38)
                    have hlit := World.ownsRow_lit (base := W.heap.size) (e := 38) (size := 2) w20 #[.string x.name, .int .i64 x.node] 1 h20.low (by unfold maxLen; omega) rfl
                    obtain ⟨vB2, w22, hap3, h22⟩ := FSIn.appE [] h21 (C := [x]) hlit (by simp; omega) 30
                    have HA3 := hide hap3
                    have H22 := hide h22
                    clear hb20 EI q0 q1 h20 hrA2 h21 hlit hap3 h22 HJ
                    go_wp2_with (at_builtin; refine wpList_appendI rfl _ _ 30 30 rfl _ _ rfl rfl (unhide HA3) ?_)
                    go_roundg (al - j)
                    case measure => omega
                    case rel => exact ⟨j + 1, Bo ++ [x], by omega, by omega, by simp, by simp; omega, (by show _ = _; rw [unhide Htk]; simp), H22⟩
                · have hjz : ¬ (j : Int) < (al : Int) := by omega
                  have hBf : Bo = A.filter fun a => namedB L' a.name a.node := by rw [unhide HBo, List.take_of_length_le (by rw [unhide Hal]; omega)]
                  have h30 := unhide HJ
                  rw [← unhide Hrest2] at h30
                  have h31 := FSIn.front [_, _, _, _, _] h30
                  have H31 := hide h31
                  have Hb := hide hBf
                  clear HJ h30 h31 hBf HBo
                  go_wp2_with fail
                  go_roundg (100 - i)
                  case measure => omega
                  case rel =>
                    refine ⟨i + 1, N', F', next', T ++ P, Bo, E ++ L', p.name, p.key, _, by omega, by omega, by simp, rfl, (by have := unhide Hpl; simp; omega), by omega, by simp; omega, H31, ⟨?_, ?_, ?_⟩, HFq', .inr ⟨(unhide HkL p (unhide Hnx).2.2.2.2.2.2).2, (unhide HkL p (unhide Hnx).2.2.2.2.2.2).1⟩, ?_⟩
                    · exact .head _
                    · exact .tail _ (.head _)
                    · exact List.mem_cons_of_mem _ (List.mem_cons_of_mem _ (List.mem_cons_of_mem _ (List.mem_cons_of_mem _ (List.mem_cons_of_mem _ (unhide Hrs).2.2))))
                    · show Bit _ _ _ _ _ _
                      rw [unhide HL', unhide Hb]
                      obtain ⟨n1, n2, n3, n4, n5, n6, _⟩ := unhide Hnx
                      exact (unhide HB).after (unhide HkL') n1 n2 n3 n4 n5 (by have := unhide Hmany; rw [unhide HL'] at this; exact this)
            · have hinz : ¬ (i : Int) < (nm : Int) := by omega
              obtain ⟨N', hN'⟩ : ∃ N', N = N' := ⟨_, rfl⟩
              obtain ⟨F', hF'⟩ : ∃ F', F = F' := ⟨_, rfl⟩
              obtain ⟨next', hnext'⟩ : ∃ next', next = next' := ⟨_, rfl⟩
              have H11 : Hid (FSIn W w10 fb mb N' F' next' (rowE (.slice (some ⟨gp, 0, none⟩) pl cp) P :: .cell Y 33 [.int .i64 nid, .int .i64 m.kind, .int .i64 m.up, .int .i64 m.links, .string m.text] :: rowE vT2 (T ++ P) :: rest)) := by
                rw [← hN', ← hF', ← hnext']; exact H10
              have HFo' : Hid (Fold N' F' next' q nid) := by rw [← hN', ← hF', ← hnext']; exact HFo
              have HFq' : Hid (∃ q, q ≤ 60 + min (i + 1) nm ∧ Fold N' F' next' q nid) := ⟨q, by omega, unhide HFo'⟩
              have Hmany : Hid ((afterL (entsK F' (atN N' nid)) p.key).length ≤ 60 - (i + 1 - nm)) := by
                rw [← hN', ← hF']
                show _ ≤ _
                rw [unhide HL]
                have h2 := (unhide Hnx).2.2.2.2.2.1
                omega
              have hq9 : q ≤ 90 := by omega
              clear hN' hF' hnext' H10
              have x1 := (unhide H11).cellAt (List.mem_cons_of_mem _ (List.mem_cons_of_mem _ (List.mem_cons_of_mem _ (unhide Hrs).2.2))) (j := 0) rfl
              have x0 : World.cell? _ ⟨X, 0, none⟩ = some (.int .i64 nid) := x1
              clear x1
              go_wp2_with (at_builtin; refine wpList_appendI rfl _ _ 30 30 rfl _ _ rfl rfl (unhide HAp) ?_)
              clear HAp p0
              have hen := entries_calls (unhide H11) (unhide HFo').good.fits nid (unhide Hwn)
              have hL9 := (unhide HFo').ents.2.2
              have hkL' := (unhide HFo').ents.1
              obtain ⟨L', hL'⟩ : ∃ L', entsK F' (atN N' nid) = L' := ⟨_, rfl⟩
              rw [hL'] at hen hL9 hkL'
              have HL' := hide hL'
              have HEn := hide hen
              have HkL' := hide hkL'
              clear hen hL' hkL'
              go_wp2_with fail
              refine (unhide HEn).mono ?_
              rintro e w12 ⟨vN, rfl, h12⟩
              have h12n := h12.nilRow 38 2
              obtain ⟨vE1, w13, hap1, h13⟩ := FSIn.appE [] (v := .slice none 0 0) (L := []) h12n (t := u14) (C := E) (h12n.rowAt (v := u14) (List.mem_cons_of_mem _ (List.mem_cons_of_mem _ (List.mem_cons_of_mem _ (List.mem_cons_of_mem _ (List.mem_cons_of_mem _ (unhide Hrs).2.1)))))) (by simp; omega) 30
              rw [List.nil_append, List.nil_append] at h13
              obtain ⟨vE2, w14, hap2, h14⟩ := FSIn.appE [] h13 (t := vN) (C := L') (h13.rowAt (.tail _ (.head _))) (by omega) 30
              rw [List.nil_append] at h14
              obtain ⟨pA, cA, hvA⟩ : ∃ p c, u13 = .slice p A.length c := row_slice (h14.rowAt (List.mem_cons_of_mem _ (List.mem_cons_of_mem _ (List.mem_cons_of_mem _ (List.mem_cons_of_mem _ (List.mem_cons_of_mem _ (unhide Hrs).1))))))
              obtain ⟨rest2, hrest2⟩ : ∃ rest2, (rowE vE2 (E ++ L') :: rowE vN L' :: rowE (.slice (some ⟨gp, 0, none⟩) pl cp) P :: .cell Y 33 [.int .i64 nid, .int .i64 m.kind, .int .i64 m.up, .int .i64 m.links, .string m.text] :: rowE vT2 (T ++ P) :: rest) = rest2 := ⟨_, rfl⟩
              rw [hrest2] at h14
              have Hr2 : Hid (rowE u13 A ∈ rest2 ∧ rowE vN L' ∈ rest2) := by
                rw [← hrest2]
                exact ⟨List.mem_cons_of_mem _ (List.mem_cons_of_mem _ (List.mem_cons_of_mem _ (List.mem_cons_of_mem _ (List.mem_cons_of_mem _ (unhide Hrs).1)))), .tail _ (.head _)⟩
              have Hrest2 := hide hrest2
              have HA1 := hide hap1
              have HA2 := hide hap2
              have H14 := hide h14
              subst hvA
              obtain ⟨al, hal⟩ : ∃ al, A.length = al := ⟨_, rfl⟩
              rw [hal] at hA9 Hr2 ⊢
              have Hal := hide hal
              clear h12 h12n hap1 h13 hap2 h14 hrest2 hal HEn H11 x0
              go_wp2_with (at_builtin; (first | refine wpList_appendI rfl _ _ 30 30 rfl _ _ rfl rfl (unhide HA1) ?_ | refine wpList_appendI rfl _ _ 30 30 rfl _ _ rfl rfl (unhide HA2) ?_))
              go_loopg [23, 24] (al + 1) (fun k v23 v24 wr2 => ∃ (j : Nat) (Bo : List Item), al - j < k ∧ j ≤ al ∧ v24 = .int .i64 j ∧ Bo.length ≤ j ∧ Hid (Bo = (A.take j).filter fun a => namedB L' a.name a.node) ∧ Hid (FSIn W wr2 fb mb N' F' next' (rowE v23 Bo :: rest2)))
              case atStart => exact ⟨0, [], by omega, by omega, rfl, by simp, (by show _ = _; simp), (unhide H14).nilRow 38 2⟩
              case round =>
                obtain ⟨j, Bo, hkj, hjl, rfl, hBo, HBo, HJ⟩ := hrel
                clear H14 HA1 HA2
                by_cases hja : j < al
                · have hjz : (j : Int) < (al : Int) := by omega
                  obtain ⟨x, hx⟩ : ∃ x, A[j]? = some x := ⟨A[j]'(by have := unhide Hal; omega), by simp⟩
                  have hrA := (unhide HJ).rowAt (List.mem_cons_of_mem _ (unhide Hr2).1)
                  rw [unhide Hal] at hrA
                  obtain ⟨gA, cA', hpA, _⟩ := row_shape hrA (by omega)
                  injection hpA with hpA1 _ hpA2
                  subst hpA1 hpA2
                  obtain ⟨q0, q1⟩ := entry_cell hrA hx
                  have ei := in_calls ((unhide HJ).rowAt (List.mem_cons_of_mem _ (unhide Hr2).2)) (by omega) x.name x.node
                  have Htk : Hid ((A.take (j + 1)).filter (fun a => namedB L' a.name a.node) = Bo ++ if namedB L' x.name x.node then [x] else []) := by
                    show _ = _
                    rw [List.take_add_one, hx, List.filter_append, unhide HBo]
                    simp only [Option.toList_some, List.filter_cons, List.filter_nil]
                  cases hnb : namedB L' x.name x.node with
                  | false =>
                    rw [hnb] at ei Htk
                    have EI := hide ei
                    clear hx hrA ei hnb HBo
                    go_wp2_with fail
                    refine (unhide EI).mono ?_
                    rintro e w20 ⟨rfl, hb20⟩
                    have H20 := hide ((unhide HJ).step hb20)
                    clear hb20 EI q0 q1
                    go_wp2_with fail
                    go_roundg (al - j)
                    case measure => omega
                    case rel => exact ⟨j + 1, Bo, by omega, by omega, by simp, by omega, (by show _ = _; rw [unhide Htk]; simp), H20⟩
                  | true =>
                    rw [hnb] at ei Htk
                    have EI := hide ei
                    have Hx := hide hx
                    clear hx hrA ei hnb HBo
                    go_wp2_with fail
                    refine (unhide EI).mono ?_
                    rintro e w20 ⟨rfl, hb20⟩
                    have h20 := (unhide HJ).step hb20
                    have hrA2 := h20.rowAt (List.mem_cons_of_mem _ (unhide Hr2).1)
                    rw [unhide Hal] at hrA2
                    obtain ⟨p0, p1⟩ := entry_cell hrA2 (unhide Hx)
                    have h21 := h20.alloc (.cells #[.string x.name, .int .i64 x.node] 38)
                    have hlit := World.ownsRow_lit (base := W.heap.size) (e := 38) (size := 2) w20 #[.string x.name, .int .i64 x.node] 1 h20.low (by unfold maxLen; omega) rfl
                    obtain ⟨vB2, w22, hap3, h22⟩ := FSIn.appE [] h21 (C := [x]) hlit (by simp; omega) 30
                    have HA3 := hide hap3
                    have H22 := hide h22
                    clear hb20 EI q0 q1 h20 hrA2 h21 hlit hap3 h22 HJ
                    go_wp2_with (at_builtin; refine wpList_appendI rfl _ _ 30 30 rfl _ _ rfl rfl (unhide HA3) ?_)
                    go_roundg (al - j)
                    case measure => omega
                    case rel => exact ⟨j + 1, Bo ++ [x], by omega, by omega, by simp, by simp; omega, (by show _ = _; rw [unhide Htk]; simp), H22⟩
                · have hjz : ¬ (j : Int) < (al : Int) := by omega
                  have hBf : Bo = A.filter fun a => namedB L' a.name a.node := by rw [unhide HBo, List.take_of_length_le (by rw [unhide Hal]; omega)]
                  have h30 := unhide HJ
                  rw [← unhide Hrest2] at h30
                  have h31 := FSIn.front [_, _, _, _, _] h30
                  have H31 := hide h31
                  have Hb := hide hBf
                  clear HJ h30 h31 hBf HBo
                  go_wp2_with fail
                  go_roundg (100 - i)
                  case measure => omega
                  case rel =>
                    refine ⟨i + 1, N', F', next', T ++ P, Bo, E ++ L', p.name, p.key, _, by omega, by omega, by simp, rfl, (by have := unhide Hpl; simp; omega), by omega, by simp; omega, H31, ⟨?_, ?_, ?_⟩, HFq', .inr ⟨(unhide HkL p (unhide Hnx).2.2.2.2.2.2).2, (unhide HkL p (unhide Hnx).2.2.2.2.2.2).1⟩, ?_⟩
                    · exact .head _
                    · exact .tail _ (.head _)
                    · exact List.mem_cons_of_mem _ (List.mem_cons_of_mem _ (List.mem_cons_of_mem _ (List.mem_cons_of_mem _ (List.mem_cons_of_mem _ (unhide Hrs).2.2))))
                    · show Bit _ _ _ _ _ _
                      rw [unhide HL', unhide Hb]
                      obtain ⟨n1, n2, n3, n4, n5, n6, _⟩ := unhide Hnx
                      exact (unhide HB).after (unhide HkL') n1 n2 n3 n4 n5 (by have := unhide Hmany; rw [unhide HL'] at this; exact this)
        · have hmz : (m.id == nid) = false := by simpa using hmn
          obtain ⟨mid, hmid⟩ : ∃ mid, m.id = mid := ⟨_, rfl⟩
          rw [hmid] at hfd hmn hmz
          have HFd := hide hfd
          clear hfd hf0 hfo HI hmid
          go_wp2_with fail
          refine (unhide HFd).mono ?_
          rintro e w7 ⟨rfl, h7⟩
          have x0 := h7.cellAt (List.mem_cons_of_mem _ (unhide Hrs).2.2) (j := 0) rfl
          have x1 : ∀ obj, (w7.alloc obj).cell? ⟨X, 0, none⟩ = some (.int .i64 nid) := fun obj => Lib.cell?_alloc_some obj x0
          have H7 := hide h7
          clear h7 HFd x0
          go_wp2_with fail
          go_ret
          exact ⟨rfl, ((unhide H7).alloc _).below⟩
    · have hiz : ¬ (i : Int) < 100 := by omega
      have hA0 : afterL (entsK F (atN N nid)) cur = [] := List.eq_nil_of_length_eq_zero (by have := (unhide HB).many; omega)
      have HBd : Hid (Sorted T ∧ Keyd T ∧ (∀ t ∈ T, t ∈ E) ∧ (∀ a ∈ A, a ∈ T) ∧ Keyd A ∧ Keyd E) := ⟨(unhide HB).sorted, (unhide HB).keyT, (unhide HB).te, (unhide HB).done hA0, (unhide HB).keyA, (unhide HB).keyE⟩
      obtain ⟨l, hl⟩ : ∃ l, (rowE u17 T :: rest) = l := ⟨_, rfl⟩
      have Hmem : Hid (rowE u17 T ∈ l ∧ rowE u13 A ∈ l ∧ rowE u14 E ∈ l) := by
        rw [← hl]
        exact ⟨.head _, List.mem_cons_of_mem _ (unhide Hrs).1, List.mem_cons_of_mem _ (unhide Hrs).2.1⟩
      have HF0 := HI
      rw [hl] at HF0
      clear HI hl hA0 HB Hrs Hcur HFq
      obtain ⟨pT, cT, rfl⟩ : ∃ p c, u17 = .slice p T.length c := row_slice ((unhide HF0).rowAt (unhide Hmem).1)
      obtain ⟨pA, cA, rfl⟩ : ∃ p c, u13 = .slice p A.length c := row_slice ((unhide HF0).rowAt (unhide Hmem).2.1)
      obtain ⟨tl, htl⟩ : ∃ tl, T.length = tl := ⟨_, rfl⟩
      obtain ⟨al, hal⟩ : ∃ al, A.length = al := ⟨_, rfl⟩
      rw [htl] at hT4 Hmem ⊢
      rw [hal] at hA9 Hmem ⊢
      have Htl := hide htl
      have Hal := hide hal
      clear htl hal
      go_wp2_with fail
      go_loopg [25] (tl + 1) (fun k v25 wr2 => ∃ j : Nat, tl - j < k ∧ j ≤ tl ∧ v25 = .int .i64 j ∧ Hid (FSIn W wr2 fb mb N F next l))
      case atStart => exact ⟨0, by omega, by omega, rfl, HF0⟩
      case round =>
        obtain ⟨j, hkj, hjt, rfl, HJ⟩ := hrel
        clear HF0
        by_cases hjl : j < tl
        · have hjz : (j : Int) < (tl : Int) := by omega
          obtain ⟨x, hx⟩ : ∃ x, T[j]? = some x := ⟨T[j]'(by have := unhide Htl; omega), by simp⟩
          have hrT := (unhide HJ).rowAt (unhide Hmem).1
          rw [unhide Htl] at hrT
          obtain ⟨gT, cT', hpT, _⟩ := row_shape hrT (by omega)
          injection hpT with hpT1 _ hpT2
          subst hpT1 hpT2
          have hxT := List.mem_of_getElem? hx
          obtain ⟨hsT, hkT, hte, _, _, hkE⟩ := unhide HBd
          have hin := (named_iff hkE (hkT x hxT).1).2 (hte x hxT)
          have ei : ∀ q : Later wr, Calls Tryz.prog 35 #[u14, .agg #[.string x.name, .int .i64 x.node]] q.wld fun e w' => e = .returned (.bool true) ∧ Below q.wld.heap.size q.wld w' := fun q => by
            have := in_calls (((unhide HJ).step q.bel).rowAt (unhide Hmem).2.2) (by omega) x.name x.node
            rw [hin] at this
            exact this
          have q0 := fun q : Later wr => cell_later q.bel (entry_cell hrT hx).1
          have q1 := fun q : Later wr => cell_later q.bel (entry_cell hrT hx).2
          rcases Nat.eq_zero_or_pos j with h0 | h0
          · have hz0 : ¬ (0 : Int) < (j : Int) := by omega
            have hz1 : ¬ 0 < j := by omega
            obtain ⟨xn, hxn⟩ : ∃ xn, x.name = xn := ⟨_, rfl⟩
            obtain ⟨xd, hxd⟩ : ∃ xd, x.node = xd := ⟨_, rfl⟩
            rw [hxn] at q0 ei
            rw [hxd] at q1 ei
            have EI := hide ei
            clear hx hrT hxT hsT hkT hte hkE hin ei h0 hxn hxd
            go_wp2_with fail
            refine wp_region_later (by kernel_rfl) (by kernel_rfl) ?_
            repeat (go_big_quiet_step (refine Calls.later (unhide EI _)))
            refine wpQuiet_nil ?_
            intro _ hw'
            obtain ⟨uq, hw''⟩ := hw'
            subst hw''
            clear q0 q1 EI
            go_wp2_with fail
            go_roundg (tl - j)
            case measure => omega
            case rel => exact ⟨j + 1, by omega, by omega, by simp, (unhide HJ).step uq.bel⟩
          · obtain ⟨jq, hjq⟩ : ∃ jq, j = jq + 1 := ⟨j - 1, by omega⟩
            have hm1 : (j : Int) - 1 = (jq : Int) := by omega
            have hz0 : (0 : Int) < (j : Int) := by omega
            have hqm : (jq : Int) < (tl : Int) := by omega
            obtain ⟨y, hy⟩ : ∃ y, T[jq]? = some y := ⟨T[jq]'(by have := unhide Htl; omega), by simp⟩
            have hyT := List.mem_of_getElem? hy
            have hlt : kLt y.key x.key := by
              have hjl1 : jq < T.length := (List.getElem?_eq_some_iff.1 hy).1
              have hjl2 : j < T.length := (List.getElem?_eq_some_iff.1 hx).1
              have := List.pairwise_iff_getElem.1 hsT jq j hjl1 hjl2 (by omega)
              rw [(List.getElem?_eq_some_iff.1 hy).2, (List.getElem?_eq_some_iff.1 hx).2] at this
              exact this
            rw [(hkT y hyT).1, (hkT x hxT).1] at hlt
            have ec := fun q : Later wr => compareS_calls (hkT y hyT).2 (hkT x hxT).2 q.wld (((unhide HJ).ready (unhide HR)).later q.bel)
            have q2 := fun q : Later wr => cell_later q.bel (entry_cell hrT hy).1
            unfold kLt at hlt
            generalize cmpB (keyS y.name) (keyS x.name) = cc at hlt ec
            have hc0 : ¬ (0 : Int) ≤ cc := by omega
            obtain ⟨xn, hxn⟩ : ∃ xn, x.name = xn := ⟨_, rfl⟩
            obtain ⟨xd, hxd⟩ : ∃ xd, x.node = xd := ⟨_, rfl⟩
            obtain ⟨yn, hyn⟩ : ∃ yn, y.name = yn := ⟨_, rfl⟩
            rw [hxn] at q0 ei ec
            rw [hxd] at q1 ei
            rw [hyn] at q2 ec
            have EI := hide ei
            have EC := hide ec
            have Hjq := hide hjq
            clear hx hrT hxT hsT hkT hte hkE hin ei hxn hxd hyn hy hyT hlt ec hjq
            go_wp2_with fail
            refine wp_region_later (by kernel_rfl) (by kernel_rfl) ?_
            repeat (go_big_quiet_step (first | (go_at_call 35; refine Calls.later (unhide EI _)) | (go_at_call 18; refine Calls.later (unhide EC _))))
            refine wpQuiet_nil ?_
            intro _ hw'
            obtain ⟨uq, hw''⟩ := hw'
            subst hw''
            clear q0 q1 q2 EI EC
            go_wp2_with fail
            go_roundg (tl - j)
            case measure => omega
            case rel => exact ⟨j + 1, by omega, by omega, by simp, (unhide HJ).step uq.bel⟩
        · have hjz : ¬ (j : Int) < (tl : Int) := by omega
          go_wp2_with fail
          go_loopg [26] (al + 1) (fun k v26 wr2 => ∃ j : Nat, al - j < k ∧ j ≤ al ∧ v26 = .int .i64 j ∧ Hid (FSIn W wr2 fb mb N F next l))
          case atStart => exact ⟨0, by omega, by omega, rfl, HJ⟩
          case round =>
            obtain ⟨j2, hkj2, hjt2, rfl, HJ2⟩ := hrel
            clear HJ
            by_cases hjl2 : j2 < al
            · have hjz2 : (j2 : Int) < (al : Int) := by omega
              obtain ⟨x, hx⟩ : ∃ x, A[j2]? = some x := ⟨A[j2]'(by have := unhide Hal; omega), by simp⟩
              have hrA := (unhide HJ2).rowAt (unhide Hmem).2.1
              rw [unhide Hal] at hrA
              obtain ⟨gA, cA', hpA, _⟩ := row_shape hrA (by omega)
              injection hpA with hpA1 _ hpA2
              subst hpA1 hpA2
              have hxA := List.mem_of_getElem? hx
              obtain ⟨_, hkT, _, hat, hkA, _⟩ := unhide HBd
              have hin := (named_iff hkT (hkA x hxA).1).2 (hat x hxA)
              obtain ⟨q0, q1⟩ := entry_cell hrA hx
              have ei := in_calls ((unhide HJ2).rowAt (unhide Hmem).1) (by have := unhide Htl; omega) x.name x.node
              rw [hin] at ei
              have EI := hide ei
              clear hx hrA hxA hkT hat hkA hin ei
              go_wp2_with fail
              refine (unhide EI).mono ?_
              rintro e w20 ⟨rfl, hb20⟩
              have H20 := hide ((unhide HJ2).step hb20)
              clear hb20 EI q0 q1
              go_wp2_with fail
              go_roundg (al - j2)
              case measure => omega
              case rel => exact ⟨j2 + 1, by omega, by omega, by simp, H20⟩
            · have hjz2 : ¬ (j2 : Int) < (al : Int) := by omega
              go_wp2_with fail
              go_ret
              exact ⟨rfl, (unhide HJ2).below⟩
end Go.Proofs.YtjpmomklkkifjaaGreatDoor.T
