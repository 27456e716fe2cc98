import Derived.Test.YtjpmomklkkifjaaGreatDoorCFNodes
import Derived.Test.YtjpmomklkkifjaaGreatDoorCFGood
import Derived.Test.YtjpmomklkkifjaaGreatDoorCFOps
import Derived.Test.YtjpmomklkkifjaaGreatDoorCFFind
import Derived.BigQuiet
set_option maxRecDepth 100000
set_option linter.unusedVariables false
set_option linter.unusedSimpArgs false
namespace Go.Proofs.YtjpmomklkkifjaaGreatDoor.T
open Go.RowKit
open Go.Maps (Keyed)
variable {w0 w w' : World} {fb mb : Nat} {N : List NV} {F : Forest} {next : Int} {l2 : List Res}
abbrev someB (b : Nat) : Res := .obj b (fun _ => True)
theorem FSIn.foundObj (h : FSIn w0 w fb mb N F next l2) (hb : Below w.heap.size w w') {b : Nat} (h1 : w.heap.size ≤ b) (h2 : b < w'.heap.size) : FSIn w0 w' fb mb N F next (someB b :: l2) := by
  obtain ⟨rs, hr, H⟩ := h
  have hs := Hold.size H
  have H1 := Hold.new (r := someB b) H (Kept.of_below hb) ⟨by omega, _, Array.getElem?_eq_getElem h2, trivial⟩ (fun x hx => by obtain rfl := one_pos.1 hx; exact h1) (one_le b)
  refine ⟨rs, hr, Hold.conv H1 (fun x => ?_) fun r hr => Hold.sat H1 r ?_⟩
  · simp only [total_cons, total_append]; omega
  · simp only [List.mem_cons, List.mem_append] at hr ⊢
    rcases hr with h | h | h | h | h <;> simp [h]
theorem FSIn.turned (l1 : List Res) {b : Nat} (h : FSIn w0 w fb mb N F next (l1 ++ someB b :: l2)) (hg : w.grownBy w' (some b)) : FSIn w0 w' fb mb N F next (l1 ++ someB b :: l2) := by
  obtain ⟨rs, hr, H⟩ := h
  have e : (.cell fb 77 [.map (some mb), .int .i64 next] :: .obj mb (IsMapN N) :: (rs ++ (l1 ++ someB b :: l2)) : List Res) = (.cell fb 77 [.map (some mb), .int .i64 next] :: .obj mb (IsMapN N) :: (rs ++ l1)) ++ someB b :: l2 := by simp
  rw [e] at H
  refine ⟨rs, hr, ?_⟩
  rw [e]
  have hs := Hold.sat H (someB b) (by simp)
  obtain ⟨hb1, o, ho, _⟩ := hs
  have hlt : b < w.heap.size := (Array.getElem?_eq_some_iff.1 ho).1
  exact Hold.put _ H ((Kept.refl _ w).grown hg fun x hx _ => by cases hx; show 0 < one b b; rw [one_self]; decide) ⟨hb1, _, Array.getElem?_eq_getElem (Nat.lt_of_lt_of_le hlt hg.size), trivial⟩ (fun x _ => Nat.le_refl _) (one_le b)
theorem FSIn.grow (l1 : List Res) {v v' : Value} {e : TypeId} {k n n' : Nat} {xs ys : List Value} (h : FSIn w0 w fb mb N F next (l1 ++ .row v e k n xs :: l2)) (hg : w.grownBy w' v.ownBlock) (hr : w'.ownsRow w0.heap.size e k v' n' ys) (ha : v'.ownBlock = v.ownBlock ∨ ∃ x, v'.ownBlock = some x ∧ w.heap.size ≤ x) : FSIn w0 w' fb mb N F next (l1 ++ .row v' e k n' ys :: l2) := by
  obtain ⟨rs, hr2, H⟩ := h
  have e1 : ∀ q : Res, (.cell fb 77 [.map (some mb), .int .i64 next] :: .obj mb (IsMapN N) :: (rs ++ (l1 ++ q :: l2)) : List Res) = (.cell fb 77 [.map (some mb), .int .i64 next] :: .obj mb (IsMapN N) :: (rs ++ l1)) ++ q :: l2 := fun q => by simp
  rw [e1] at H
  refine ⟨rs, hr2, ?_⟩
  rw [e1]
  exact Hold.grow _ H hg hr ha
theorem FSIn.apart {v : Value} {e : TypeId} {k n : Nat} {xs : List Value} {b : Nat} (h : FSIn w0 w fb mb N F next (.row v e k n xs :: someB b :: l2)) : some mb ≠ v.ownBlock ∧ some b ≠ v.ownBlock := by
  obtain ⟨rs, _, H⟩ := h
  constructor
  · intro e1
    have h1 := Hold.uniq H mb
    have h2 : 0 < blkN v mb := blkN_pos.2 e1.symm
    simp only [total_cons, total_append, foot_row] at h1
    have h3 : (Res.obj mb (IsMapN N)).foot mb = 1 := by show one mb mb = 1; rw [one_self]
    omega
  · intro e1
    have h1 := Hold.uniq H b
    have h2 : 0 < blkN v b := blkN_pos.2 e1.symm
    simp only [total_cons, total_append, foot_row] at h1
    have h3 : (someB b).foot b = 1 := by show one b b = 1; rw [one_self]
    omega
theorem FSIn.low (h : FSIn w0 w fb mb N F next l2) : w0.heap.size ≤ w.heap.size := h.size
structure Came (N : List NV) (acc : List NV) (left : Lit → Bool) : Prop where
  sub : ∀ u ∈ acc, u ∈ N
  nodup : (acc.map NV.id).Nodup
  left : ∀ i, WfI i → (left (.int .i64 i) = true ↔ (findN N i).isSome = true ∧ i ∉ acc.map NV.id)
theorem Came.all {acc : List NV} {left : Lit → Bool} (h : Came N acc left) (hn : (N.map NV.id).Nodup) (hw : ∀ v ∈ N, WfI v.id) (h0 : ∀ kl, left kl = false) : acc.Perm N := by
  have hsub : ∀ v ∈ N, v ∈ acc := fun v hv => by
    have h1 := h.left v.id (hw v hv)
    rw [h0] at h1
    have h2 : v.id ∈ acc.map NV.id := by
      apply Classical.byContradiction
      intro hno
      have := h1.2 ⟨by rw [findN_mem hn hv]; rfl, hno⟩
      cases this
    obtain ⟨u, hu, e⟩ := List.mem_map.1 h2
    have : u = v := by
      have a := findN_mem hn (h.sub u hu)
      have b := findN_mem hn hv
      rw [e, b] at a
      exact (Option.some.inj a).symm
    rw [← this]; exact hu
  have hna : acc.Nodup := (List.pairwise_map.1 h.nodup).imp fun hne e => hne (by rw [e])
  have hnN : N.Nodup := (List.pairwise_map.1 hn).imp fun hne e => hne (by rw [e])
  exact (List.perm_ext_iff_of_nodup hna hnN).2 fun v => ⟨fun hv => h.sub v hv, hsub v⟩
theorem Came.more {acc : List NV} {left : Lit → Bool} (h : Came N acc left) {u : NV} (hw : WfI u.id) (hu : findN N u.id = some u) (hl : left (.int .i64 u.id) = true) : Came N (acc ++ [u]) (fun z => left z && !z.sameKey (.int .i64 u.id)) := by
  have h1 := (h.left u.id hw).1 hl
  refine ⟨fun x hx => ?_, ?_, fun i hi => ?_⟩
  · rcases List.mem_append.1 hx with hx | hx
    · exact h.sub x hx
    · rw [List.mem_singleton.1 hx]; exact (findN_some hu).1
  · rw [List.map_append, List.nodup_append]
    refine ⟨h.nodup, by simp, fun a ha b hb e => ?_⟩
    simp at hb
    subst hb
    rw [e] at ha
    exact h1.2 ha
  · have hs : (Lit.int .i64 i).sameKey (.int .i64 u.id) = decide (i = u.id) := by
      simp [Lit.sameKey]
    simp only [hs]
    rw [List.map_append, List.mem_append]
    by_cases e : i = u.id
    · subst e; simp
    · have := h.left i hi
      simp [e, this]
theorem nodup_subN {acc : List NV} (h1 : (acc.map NV.id).Nodup) (h2 : ∀ u ∈ acc, u ∈ N) (hn : (N.map NV.id).Nodup) : acc.length ≤ N.length := by
  have := nodup_sub h1 (m := N.map NV.id) fun x hx => by
    obtain ⟨u, hu, rfl⟩ := List.mem_map.1 hx
    exact List.mem_map.2 ⟨u, h2 u hu, rfl⟩
  rwa [List.length_map, List.length_map] at this
theorem cell_list_new (w : World) (vs : List Value) (t : TypeId) : ∀ j u, vs[j]? = some u → (w.alloc (.cells vs.toArray t)).cell? ((⟨w.heap.size, 0, none⟩ : Addr).add j) = some u := by
  intro j u hj
  rw [Addr.add_lit, Nat.zero_add, cell_of_row _ _ j _ t (0, 0) (heap_alloc_new w _)]
  simpa using hj
set_option maxHeartbeats 8000000 in
theorem nodes_calls (h : FSIn w0 w fb mb N F next l2) (hF : Fits N F next) (hn : (N.map NV.id).Nodup) (hne : N ≠ []) :
    Calls Tryz.prog 15 #[.pointer (some ⟨fb, 0, none⟩)] w fun e w' => ∃ v L, e = .returned (.tuple #[v, .int .i64 next]) ∧ L.Perm N ∧ L.Pairwise (fun a b => a.id ≤ b.id) ∧ FSIn w0 w' fb mb N F next (rowNd v L :: l2) := by
  obtain ⟨i0, hi, hz0, hz1, hz2⟩ := info_parts infoNode
  have hwf : ∀ v ∈ N, WfI v.id := fun v hv => by have := hF.id v hv; exact wfI_of (by omega) (by omega)
  obtain ⟨D, hown, hm⟩ := sat_owns h.mapSat
  have q0 := h.map0
  have h16 := hF.few
  have H1 := hide h
  have HN := hide hn
  have HW := hide hwf
  have HM := hide hm
  have hcame : Came N [] (Maps.has D) := ⟨by simp, by simp, fun i hi => by rw [hm.has hi]; simp⟩
  have hsz : Maps.size D = N.length := hm.size
  have HC := hide hcame
  have Hsz := hide hsz
  clear h hn hwf hF hm hcame hsz
  go_enter Tryz.func15, Tryz.ntmps15
  go_wp2_with (first | (at_range; refine wpList_range_own _ rfl _ 75 rfl 3 80 kI Tryz.underlying75 Rv mb N.length D rfl hown ?_; intro w1 hrg1 hg1 hs1) | go_in)
  go_frame
  have hb1 : Below w.heap.size w w1 := (Below.refl _ w).grown hg1 (Nat.le_refl _) (fun j hj => by cases hj)
  have h2 := ((unhide H1).foundObj hb1 (b := w.heap.size) (Nat.le_refl _) (by omega)).nilRow 33 5
  have H2 : Hid (FSIn w0 w1 fb mb N F next (rowNd (.slice none 0 0) [] :: someB w.heap.size :: l2)) := h2
  have Hrg := hide hrg1
  clear h2 hb1 hg1 hs1 hown hrg1 q0 H1
  go_wp2_with fail
  go_loopg [2, 5] (N.length + 1) (fun k v2 v5 wr => ∃ (acc : List NV) (left : Lit → Bool) (cnt : Nat), cnt < k ∧ acc.length ≤ 16 ∧ Hid (wr.ranges Tryz.prog 3 Rv mb w.heap.size N.length D left cnt) ∧ Hid (FSIn w0 wr fb mb N F next (rowNd v2 acc :: someB w.heap.size :: l2)) ∧ Hid (Came N acc left))
  case atStart => exact ⟨[], _, _, by have := unhide Hsz; omega, by simp, Hrg, H2, HC⟩
  case round =>
    obtain ⟨acc, left, cnt, hk, hacc, Hrg3, HI, HC3⟩ := hrel
    clear Hrg H2 HC Hsz
    have hrg := unhide Hrg3
    go_wp2_with (first | (at_next; refine wpList_next_ranges _ rfl _ rfl 3 kI Rv (Value.int .i64) id (fun key kl hkey => (by obtain ⟨x, hx, _⟩ := Maps.keyOf_int_inv Tryz.underlying3 hkey; exact ⟨x, hx⟩)) (fun v y hv => ⟨v, rfl⟩) mb w.heap.size N.length D left cnt rfl hrg ?_ ?_) | go_in)
    · intro hc0 hl0
      have hperm := (unhide HC3).all (unhide HN) (unhide HW) hl0
      have hlen : acc.length = N.length := hperm.length_eq
      have hpos : 0 < acc.length := by rw [hlen]; exact List.length_pos_iff.2 hne
      have hrow := (unhide HI).rowAt (.head _)
      obtain ⟨g, cap, rfl, hc1, hc2⟩ := row_shape hrow hpos
      have hso := sortNodes_calls hrow rfl (by omega)
      have HSo := hide hso
      have Hp := hide hperm
      clear hrow hso hperm hc0 hl0 hrg hlen hpos hc1 hc2
      obtain ⟨n, hnn⟩ : ∃ n, acc.length = n := ⟨_, rfl⟩
      rw [hnn] at HSo
      have Hnn := hide hnn
      rw [hnn]
      clear hnn
      go_wp2_with fail
      refine (unhide HSo).mono ?_
      rintro e w5 ⟨rfl, L', hp', hsorted, hrow5, hgrow5⟩
      have hLl : L'.length = n := by rw [hp'.length_eq, unhide Hnn]
      have h5 : FSIn w0 w5 fb mb N F next (rowNd (.slice (some ⟨g, 0, none⟩) n cap) L' :: someB w.heap.size :: l2) := by
        unfold rowNd
        rw [hLl]
        exact FSIn.grow [] (unhide HI) hgrow5 hrow5 (.inl rfl)
      have q1 := h5.next1
      have H5 := hide h5
      have Hs := hide hsorted
      have Hp2 := hide (hp'.trans (unhide Hp))
      clear h5 hrow5 hgrow5 hp' hsorted Hp HSo HI hLl Hnn
      go_wp2_with fail
      go_region
      all_goals go_wp2_with fail
      all_goals refine bodyPost_ret (results_tmp2 rfl _ _ _) rfl ?_
      all_goals exact ⟨_, L', rfl, unhide Hp2, unhide Hs, ((unhide H5).forget [_]).drew⟩
    · intro x c kl y1 y2 w2 cnt2 hkey hlk hv hat hrg2 hlt hgr hsz2 hen
      obtain ⟨x', ex, hkl, hwx⟩ := Maps.keyOf_int_inv Tryz.underlying3 hkey
      cases ex
      subst hkl
      have hy : y1 = .held c := by
        have : some ((.held c, []) : DataW Value × List MemPlace) = some (y1, y2) := hv
        exact (congrArg Prod.fst (Option.some.inj this)).symm
      subst hy
      obtain ⟨u, hu, hcu⟩ : ∃ u, findN N x = some u ∧ c = u.val := by
        have hl := fun z => (unhide HM).look x z hwx
        cases hf : findN N x with
        | none =>
          exfalso
          have h1 := hl (.lit (.bool true))
          rw [hat, hf] at h1
          cases h1
        | some u =>
          refine ⟨u, rfl, ?_⟩
          have h1 := hl (.lit (.bool true))
          rw [hat, hf] at h1
          exact DataW.held.inj h1
      subst hcu
      have hid : u.id = x := (findN_some hu).2
      subst hid
      have hmore := (unhide HC3).more hwx hu hlk
      have hsub16 : (acc ++ [u]).length ≤ 16 := by
        have := (nodup_subN hmore.nodup hmore.sub (unhide HN))
        omega
      have h3 := FSIn.turned [_] (unhide HI) hgr
      have hap := h3.apart
      have hlow := h3.low
      have hr3 := h3.rowAt (.head _)
      have hr4 := (hr3.alloc (.cells #[.int .i64 u.id, .int .i64 u.kind, .int .i64 u.up, .int .i64 u.links, .string u.text, .pointer u.ptr] 80)).alloc (.cells #[.int .i64 u.id, .int .i64 u.kind, .int .i64 u.up, .int .i64 u.links, .string u.text] 33)
      have h4 := (h3.alloc (.cells #[.int .i64 u.id, .int .i64 u.kind, .int .i64 u.up, .int .i64 u.links, .string u.text, .pointer u.ptr] 80)).alloc (.cells #[.int .i64 u.id, .int .i64 u.kind, .int .i64 u.up, .int .i64 u.links, .string u.text] 33)
      have hrg4 := (hrg2.alloc (.cells #[.int .i64 u.id, .int .i64 u.kind, .int .i64 u.up, .int .i64 u.links, .string u.text, .pointer u.ptr] 80)).alloc (.cells #[.int .i64 u.id, .int .i64 u.kind, .int .i64 u.up, .int .i64 u.links, .string u.text] 33)
      have hcells := cell_list_new (w2.alloc (.cells #[.int .i64 u.id, .int .i64 u.kind, .int .i64 u.up, .int .i64 u.links, .string u.text, .pointer u.ptr] 80)) [.int .i64 u.id, .int .i64 u.kind, .int .i64 u.up, .int .i64 u.links, .string u.text] 33
      rw [World.size_alloc] at hcells
      have Hr4 := hide hr4
      have H4 := hide h4
      have Hrg4 := hide hrg4
      have Hap := hide hap
      have Hmore := hide hmore
      have Hcl := hide hcells
      obtain ⟨n, hnn⟩ : ∃ n, acc.length = n := ⟨_, rfl⟩
      rw [hnn] at Hr4 hacc
      have Hnn := hide hnn
      unfold NV.val at hen
      clear hkey hv hat hrg2 hgr hsz2 hlk hrg hr3 hr4 h3 h4 hrg4 hap hmore hcells HI HC3 Hrg3 hu hwx hnn
      go_wp2_with (at_builtin; refine wpList_append_own_at _ rfl _ _ 27 rfl w0.heap.size 33 i0 (.agg #[.int .i64 0, .int .i64 0, .int .i64 0, .int .i64 0, .string ⟨#[]⟩]) 5 48 Tryz.underlying27 hi hz0 hz1 hz2 rfl (by decide) _ _ _ rfl (unhide Hr4) ⟨w2.heap.size + 1, 0, none⟩ 1 1 [.int .i64 u.id, .int .i64 u.kind, .int .i64 u.up, .int .i64 u.links, .string u.text] rfl rfl (unhide Hcl) (fun y hy => by simp at hy; rcases hy with rfl | rfl | rfl | rfl | rfl <;> rfl) (by unfold maxLen; omega) (by omega) (by simp; omega) ?_; intro v4 w4 hown4 hgrow4 hnil4 hat4)
      have h5 := FSIn.grow [] (v' := v4) (unhide H4) hgrow4 hown4 (by rcases hat4 with h | h; exact .inl h; exact .inr ⟨_, h, Nat.le_refl _⟩)
      have hrg5 := (unhide Hrg4).kept hgrow4 (unhide Hap).1 (unhide Hap).2
      have H5 : Hid (FSIn w0 w4 fb mb N F next (rowNd v4 (acc ++ [u]) :: someB w.heap.size :: l2)) := by
        show FSIn _ _ _ _ _ _ _ _
        unfold rowNd
        rw [List.length_append, unhide Hnn, flatN_snoc]
        exact h5
      have Hrg5 := hide hrg5
      clear h5 hrg5 hown4 hgrow4 hnil4 hat4 H4 Hrg4 Hr4 Hap Hcl
      go_wp2_with fail
      go_roundg cnt
      case measure => omega
      case rel => exact ⟨acc ++ [u], _, cnt2, hlt, hsub16, Hrg5, H5, Hmore⟩
end Go.Proofs.YtjpmomklkkifjaaGreatDoor.T
namespace Go.Proofs.YtjpmomklkkifjaaGreatDoor.T
open Go.RowKit
theorem splitS_data (s : ByteArray) : (splitS s).map (·.data.toList) = cutS s.data.toList := by
  unfold splitS
  rw [Lib.splitB_data, show Lib.countB s ⟨#[47]⟩ = Lib.count s.data.toList [47] from rfl, Lib.count_one]
  exact splitK_cut _
theorem data_inj {a b : List ByteArray} (h : a.map (·.data.toList) = b.map (·.data.toList)) : a = b := by
  induction a generalizing b with
  | nil => cases b with
    | nil => rfl
    | cons y b => simp at h
  | cons x a ih => cases b with
    | nil => simp at h
    | cons y b =>
      simp only [List.map_cons, List.cons.injEq] at h
      rw [toList_inj h.1, ih h.2]
theorem encL_ne {rs : List Int} (hs : ∀ r ∈ rs, SmallR r) (h : rs ≠ []) : encL rs ≠ [] := by
  intro e
  have h1 := (encL_len rs hs).1
  rw [e] at h1
  have h2 := List.length_pos_iff.2 h
  have h3 : rs.length ≤ 0 := h1
  omega
theorem data_enc (rs : List Int) : (encS rs).data.toList = encL rs := by simp [encS]
theorem parts_one {s t : ByteArray} (h : checkP s = none) (ht : t.data.toList = 47 :: s.data.toList) : partsP t = .ok [s] := by
  obtain ⟨hn, he, hd⟩ := name_of_check h
  have hsz : t.size = s.size + 1 := by rw [Lib.size_eq, ht, Lib.size_eq]; rfl
  have h24 : ¬ (s.size = 0 ∨ 24 < s.size) := by
    intro hx
    rw [checkP_size hx] at h
    cases h
  have h47 : (47 : UInt8) ∉ s.data.toList := by
    rw [he, data_enc]
    exact encL_no47 (Name.no47 hn)
  have hsp : splitS (t.extract 1 t.size) = [s] := by
    apply data_inj
    rw [splitS_data, Lib.extract_to_end, ht]
    exact cutS_none h47
  have hne : s.data.toList ≠ [] := by
    intro e
    have : s.size = 0 := by rw [Lib.size_eq, e]; rfl
    omega
  unfold partsP
  rw [if_neg (by omega), if_neg (by rw [ht]; simp [Lib.hasPrefix]), if_neg (by rw [Lib.toList_data, ht]; simpa using hne), hsp]
  have : partErr [s] = none := by
    unfold partErr
    rw [hd, h]
    rfl
  rw [if_neg (by simp), this]
theorem only_of (rs : List Int) (hz : ∀ r ∈ rs, isZ r = true) : ∀ (f : Nat) (done rest : List Int), rs = done ++ rest → onlyFrom (encS rs) f (encL done).length = true
  | 0, _, _, _ => rfl
  | f + 1, done, rest, he => by
    cases rest with
    | nil =>
      apply onlyFrom_end
      rw [encS_size, he, List.append_nil]
      omega
    | cons r rest =>
      have hr : r ∈ rs := by rw [he]; simp
      have hd := decode_at done r rest (is_small (hz r hr))
      rw [← he] at hd
      unfold onlyFrom
      split
      · rw [hd]
        have h0 : (((r.toNat : Nat) : Int)) = r := by have := (is_small (hz r hr)).1; omega
        simp only [h0, hz r hr, Bool.true_and]
        have := only_of rs hz f (done ++ [r]) rest (by rw [he]; simp)
        rw [encL_append, encL_one, List.length_append] at this
        exact this
      · rfl
theorem valid_enc : ∀ (rs : List Int), (∀ r ∈ rs, SmallR r) → Lib.validD (encL rs) = true
  | [], _ => rfl
  | r :: rs, h => by
    have hs := h r (by simp)
    have hne : encL (r :: rs) ≠ [] := encL_ne h (by simp)
    rw [Lib.validD_step _ hne, encL_cons, decode_enc hs]
    have hlt := hs.2
    rw [if_neg (by rintro ⟨h1, _⟩; simp only at h1; omega)]
    simp only [List.drop_left]
    exact valid_enc rs fun q hq => h q (by simp [hq])
theorem check_of_name {ts : List Int} (h : Name ts) (hd : dotsB (encS ts) = false) : checkP (encS ts) = none := by
  have hz := encS_size ts
  have hb := h.bytes
  have hp := List.length_pos_iff.2 (encL_ne h.small h.ne)
  unfold checkP
  rw [if_neg (by omega), if_neg (by rw [data_enc, valid_enc ts h.small]; simp), if_neg, signsOf_enc h.small]
  · obtain ⟨r, t, hts⟩ : ∃ r t, ts = r :: t := by
      cases ts with
      | nil => exact absurd rfl h.ne
      | cons r t => exact ⟨r, t, rfl⟩
    have hf := h.first r t hts
    have h0 : ts.headD 0 = r := by rw [hts]; rfl
    rw [h0, if_neg (by simpa using hf), if_neg (by rw [hd]; simp), if_neg (by have := h.few; omega)]
  · have := only_of ts h.signs (encS ts).size [] ts rfl
    rw [encL_nil, List.length_nil] at this
    unfold onlyB
    rw [this]; simp
end Go.Proofs.YtjpmomklkkifjaaGreatDoor.T
namespace Go.Proofs.YtjpmomklkkifjaaGreatDoor.T
open Go.RowKit
theorem enc_a : encS [97] = ⟨#[97]⟩ := by first | kernel_rfl | rfl
theorem enc_A : encS [65] = ⟨#[65]⟩ := by first | kernel_rfl | rfl
theorem signs_a : signsOf ⟨#[97]⟩ = [97] := by rw [← enc_a]; exact signsOf_enc (fun r hr => by rw [List.mem_singleton.1 hr]; unfold SmallR; omega)
theorem signs_A : signsOf ⟨#[65]⟩ = [65] := by rw [← enc_A]; exact signsOf_enc (fun r hr => by rw [List.mem_singleton.1 hr]; unfold SmallR; omega)
theorem key_aA : keyS ⟨#[97]⟩ = keyS ⟨#[65]⟩ := by unfold keyS; rw [signs_a, signs_A]; kernel_rfl
end Go.Proofs.YtjpmomklkkifjaaGreatDoor.T
namespace Go.Proofs.YtjpmomklkkifjaaGreatDoor.T
open Go.RowKit
theorem place_one {N : List NV} {F : Forest} {s t : ByteArray} (h : checkP s = none) (ht : t.data.toList = 47 :: s.data.toList) : placeP N F t = if (atN N 1).kind ≠ 1 then .error 7 else .ok ⟨atN N 1, keyS s, s⟩ := by
  have hd := (name_of_check h).2.2
  unfold placeP
  rw [parts_one h ht]
  simp only [List.getLast_singleton, hd, List.length_nil, List.take_zero, walkP]
  rfl
theorem find_one {N : List NV} {F : Forest} {s t : ByteArray} (h : checkP s = none) (ht : t.data.toList = 47 :: s.data.toList) : findP N F t = if (atN N 1).kind ≠ 1 then .error 7 else match getL (entsOf F (atN N 1)) (keyS s) with | none => .error 5 | some it => .ok (atN N it.node) := by
  have hd := (name_of_check h).2.2
  unfold dotsB at hd
  simp only [Bool.or_eq_false_iff] at hd
  have hw : findP N F t = stepP N F (atN N 1) s := by
    unfold findP
    rw [parts_one h ht]
    simp only [walkP]
    cases stepP N F (atN N 1) s <;> rfl
  rw [hw]
  unfold stepP
  rw [hd.1, hd.2]
  rfl
theorem name_one {x : Int} (h1 : isZ x = true) (h2 : classZ x = 0) (h3 : (encL [x]).length ≤ 24) (h4 : (splitL [x]).length ≤ 12) : Name [x] := ⟨fun r hr => by rw [List.mem_singleton.1 hr]; exact h1, by simp, fun r t e => by cases e; exact h2, h3, h4⟩
theorem check_a : checkP ⟨#[97]⟩ = none := by
  rw [← enc_a]
  exact check_of_name (name_one (by decide +kernel) (by decide) (by decide +kernel) (by decide +kernel)) (by rw [enc_a]; decide +kernel)
theorem check_A : checkP ⟨#[65]⟩ = none := by
  rw [← enc_A]
  exact check_of_name (name_one (by decide +kernel) (by decide) (by decide +kernel) (by decide +kernel)) (by rw [enc_A]; decide +kernel)
theorem path_a : (⟨#[47, 97]⟩ : ByteArray).data.toList = 47 :: (⟨#[97]⟩ : ByteArray).data.toList := rfl
theorem path_A : (⟨#[47, 65]⟩ : ByteArray).data.toList = 47 :: (⟨#[65]⟩ : ByteArray).data.toList := rfl
theorem putL_has : ∀ (L : List Item) (it : Item), it ∈ putL L it
  | [], it => by simp [putL]
  | x :: L, it => by
    unfold putL
    split
    · simp
    split
    · simp
    · exact List.mem_cons_of_mem _ (putL_has L it)
theorem getL_putL {key : ByteArray} {it : Item} (hk : it.key = key) : ∀ {L : List Item}, Sorted L → getL (putL L it) key = some it := by
  intro L hs
  have := putL_sorted (it := it) hs
  rw [← hk]
  exact getL_some this (putL_has L it)
theorem free_root (tb : Nat) : freeP [rootN tb] [(tb, [])] ⟨#[47, 97]⟩ = .ok ⟨rootN tb, keyS ⟨#[97]⟩, ⟨#[97]⟩⟩ := by
  have h1 : atN [rootN tb] 1 = rootN tb := by simp [atN, findN, rootN]
  unfold freeP
  rw [place_one check_a path_a, h1, if_neg (by simp [rootN])]
  have h2 : entsOf [(tb, ([] : List Item))] (rootN tb) = [] := by simp [entsOf, rootN, lookF]
  simp only [h2]
  rfl
theorem find_root (tb t2 : Nat) (text : ByteArray) : ∃ u, u.id = 2 ∧ findP (putN [rootN tb] ⟨2, 1, 1, 1, text, some t2⟩) (putF ((t2, []) :: [(tb, [])]) tb ⟨keyS ⟨#[97]⟩, ⟨#[97]⟩, 2⟩) ⟨#[47, 65]⟩ = .ok u := by
  have hp : putN [rootN tb] ⟨2, 1, 1, 1, text, some t2⟩ = [rootN tb, ⟨2, 1, 1, 1, text, some t2⟩] := by simp [putN, findN, rootN]
  have h1 : atN [rootN tb, ⟨2, 1, 1, 1, text, some t2⟩] 1 = rootN tb := by simp [atN, findN, rootN]
  have h2 : atN [rootN tb, ⟨2, 1, 1, 1, text, some t2⟩] 2 = ⟨2, 1, 1, 1, text, some t2⟩ := by simp [atN, findN, rootN]
  refine ⟨⟨2, 1, 1, 1, text, some t2⟩, rfl, ?_⟩
  rw [find_one check_A path_A, hp, h1, if_neg (by simp [rootN])]
  have h3 : entsOf (putF ((t2, []) :: [(tb, [])]) tb ⟨keyS ⟨#[97]⟩, ⟨#[97]⟩, 2⟩) (rootN tb) = putL [] ⟨keyS ⟨#[97]⟩, ⟨#[97]⟩, 2⟩ := by
    show lookF _ tb = _
    unfold putF
    rw [lookF_set _ _ _ (by simp)]
    have : lookF ((t2, ([] : List Item)) :: [(tb, [])]) tb = [] := by
      unfold lookF
      rw [List.find?_cons]
      split
      · rfl
      · simp
    rw [this]
  rw [h3, ← key_aA, getL_putL (key := keyS ⟨#[97]⟩) rfl List.Pairwise.nil]
  simp only [h2]
end Go.Proofs.YtjpmomklkkifjaaGreatDoor.T
namespace Go.Proofs.YtjpmomklkkifjaaGreatDoor.T
open Go.RowKit
set_option maxHeartbeats 2000000 in
theorem made_calls {w0 w : World} {l2 : List Res} (hR : Ready w0) (h : H0 w0 w l2) (hb : w0.heap.size ≤ w.heap.size) :
    Calls Tryz.prog 13 #[] w fun e w' => e = .returned (.bool true) ∧ H0 w0 w' l2 := by
  have hnew := fsNew_calls h hb
  have HNw := hide hnew
  have HR := hide hR
  clear h hnew hR
  go_enter Tryz.func13, Tryz.ntmps13
  go_wp2_with fail
  refine (unhide HNw).mono ?_
  rintro e w2 ⟨fb, mb, tb, rfl, h2⟩
  have hm := mkdir_calls w0 w2 fb mb _ _ 2 l2 (unhide HR) h2 (good_new tb).fits ⟨#[47, 97]⟩ (by decide)
  have hpl := freeP_ok (good_new tb).fits (free_root tb)
  have Hg : Hid (∀ t2, t2 ∉ [tb] → Good 1 (putN [rootN tb] ⟨2, 1, 1, 1, ⟨#[]⟩, some t2⟩) (putF ((t2, []) :: [(tb, [])]) tb ⟨keyS ⟨#[97]⟩, ⟨#[97]⟩, 2⟩) (2 + 1)) := fun t2 ht =>
    (good_new tb).addFolder (by omega) hpl (by simp) (by omega) ht
  have hm2 : Calls Tryz.prog 24 #[.pointer (some ⟨fb, 0, none⟩), .string ⟨#[47, 97]⟩] w2 fun e w' => e = .returned .nilIface ∧ ∃ t2, FSIn w0 w' fb mb (putN [rootN tb] ⟨2, 1, 1, 1, ⟨#[]⟩, some t2⟩) (putF ((t2, []) :: [(tb, [])]) tb ⟨keyS ⟨#[97]⟩, ⟨#[97]⟩, 2⟩) (2 + 1) l2 := by
    refine hm.mono fun e w' hE => ?_
    unfold AddFolderEnd at hE
    rw [free_root tb] at hE
    simp only at hE
    rw [if_neg (by simp)] at hE
    exact hE
  have HM := hide hm2
  clear h2 hm hm2 hpl HNw
  go_wp2_with fail
  refine (unhide HM).mono ?_
  rintro e w3 ⟨rfl, t2, h3⟩
  obtain ⟨u, hu, hf⟩ := find_root tb t2 ⟨#[]⟩
  have hF := fsFind_calls w0 w3 fb mb _ _ _ l2 (unhide HR) h3 (unhide Hg t2 (fresh_of (G := []) h3)).fits ⟨#[47, 65]⟩ (by decide)
  rw [hf] at hF
  unfold findRet at hF
  simp only [resN, resE, errV, hu] at hF
  have HF : Hid (Calls Tryz.prog 21 #[.pointer (some ⟨fb, 0, none⟩), .string ⟨#[47, 65]⟩] w3 fun e w' => e = .returned (.tuple #[.agg #[.int .i64 2, .int .i64 u.kind, .int .i64 u.up, .int .i64 u.links, .string u.text], .nilIface]) ∧ H0 w0 w' l2) :=
    hF.mono fun e w' ⟨he, hI⟩ => ⟨he, hI.rest⟩
  clear h3 hF hf hu HM Hg
  go_wp2_with fail
  refine (unhide HF).mono ?_
  rintro e w4 ⟨rfl, h4⟩
  have H4 := hide h4
  clear h4 HF
  go_wp2_with fail
  go_ret
  exact ⟨rfl, Hold.alloc (unhide H4) _⟩
end Go.Proofs.YtjpmomklkkifjaaGreatDoor.T
namespace Go.Proofs.YtjpmomklkkifjaaGreatDoor.T
open Go.RowKit Go.Lib
structure Later (w : World) where
  wld : World
  bel : Below w.heap.size w wld
instance (w : World) : Nonempty (Later w) := ⟨⟨w, Below.refl _ _⟩⟩
theorem wp_region_later {P : Program} {id : Nat} {Q : Exit → Act → World → Prop} {a : Act} {w : World} {l : List Oper} (hm : P.follows .mixedOrders = true) (hB : Region.lexB .any l.toArray = true)
    (h : wpQuiet P l.toArray (fun w' => ∃ u : Later w, w' = u.wld) (fun a' => ∀ w', (∃ u : Later w, w' = u.wld) → Q .normal a' w') l a) : (Code.region id l.toArray true).wp P Q a w :=
  wp_region_quiet (C := fun w' => ∃ u : Later w, w' = u.wld) hm hB ⟨⟨_, (Below.refl _ _).drew⟩, rfl⟩ (by simpa using h)
theorem Calls.later {P : Program} {f : FuncId} {args : Array Value} {w : World} {u : Later w} {v : Value}
    (h : Calls P f args u.wld fun e w' => e = .returned v ∧ Below u.wld.heap.size u.wld w') : Calls P f args u.wld fun e w'' => e = .returned v ∧ ∃ u' : Later w, w'' = u'.wld :=
  h.mono fun _ w' ⟨he, hb⟩ => ⟨he, ⟨w', u.bel.trans (hb.mono u.bel.size)⟩, rfl⟩
variable {k : Nat} {N : List NV} {F : Forest} {next : Int}
structure EntsOk (N : List NV) (es : List Item) : Prop where
  key : ∀ x ∈ es, x.key = keyS x.name
  name : ∀ x ∈ es, checkP x.name = none
  node : ∀ x ∈ es, x.node ≠ 1 ∧ ∃ v ∈ N, v.id = x.node
  sorted : Sorted es
  few : es.length ≤ 900
theorem Whole.ents (h : Whole N F next) (hF : Fits N F next) {u : NV} (hu : u ∈ N) : EntsOk N (entsK F u) := by
  unfold entsK
  split
  · rename_i hk
    obtain ⟨tb, htb, ht⟩ := h.tree u hu hk
    have he : entsOf F u = lookF F tb := by unfold entsOf; rw [htb]
    obtain ⟨h1, h2⟩ := h.trees.look ht
    rw [he]
    refine ⟨fun x hx => (h2 x hx).1, fun x hx => (h2 x hx).2, fun x hx => ?_, h1, (show Few 900 F from hF.many).look tb⟩
    have hp : (u.id, x) ∈ pairs N F := List.mem_flatMap.2 ⟨u, hu, List.mem_map.2 ⟨x, by rw [entsK_folder hk htb]; exact hx, rfl⟩⟩
    exact h.linked.named _ hp
  · exact ⟨by simp, by simp, by simp, List.Pairwise.nil, by simp⟩
end Go.Proofs.YtjpmomklkkifjaaGreatDoor.T
