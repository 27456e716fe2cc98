import Derived.Test.YtjpmomklkkifjaaGreatDoorCBDropLast
import Derived.Test.YtjpmomklkkifjaaGreatDoorCSort
import Derived.Test.YtjpmomklkkifjaaGreatDoorCBTree
set_option maxRecDepth 100000
set_option linter.unusedVariables false
set_option linter.unusedSimpArgs false
namespace Go.Proofs.YtjpmomklkkifjaaGreatDoor.T
open Go.RowKit Go.Lib
theorem dropL_none {L : List Item} {key : ByteArray} (h : ∀ x ∈ L, x.key ≠ key) : dropL L key = L := by
  unfold dropL
  rw [List.filter_eq_self]
  intro x hx
  simp [h x hx]
theorem dropL_append (A B : List Item) (key : ByteArray) : dropL (A ++ B) key = dropL A key ++ dropL B key := by simp [dropL]
theorem dropL_at {A C : List Item} {x : Item} (h : Sorted (A ++ x :: C)) : dropL (A ++ x :: C) x.key = A ++ C := by
  have h1 := List.pairwise_append.1 h
  have h2 := List.pairwise_cons.1 h1.2.1
  rw [dropL_append, dropL_none (fun y hy => kLt_ne (h1.2.2 y hy x (by simp)))]
  congr 1
  have e : dropL (x :: C) x.key = dropL C x.key := by simp [dropL]
  rw [e, dropL_none (fun y hy => (kLt_ne (h2.1 y hy)).symm)]
theorem dropL_mid {A M C : List Item} {key : ByteArray} (ha : ∀ x ∈ A, kLt x.key key) (hc : ∀ x ∈ C, kLt key x.key) : dropL (A ++ M ++ C) key = A ++ dropL M key ++ C := by
  rw [dropL_append, dropL_append, dropL_none (fun x hx => kLt_ne (ha x hx)), dropL_none (fun x hx => (kLt_ne (hc x hx)).symm)]
theorem dropL_sorted {L : List Item} {key : ByteArray} (h : Sorted L) : Sorted (dropL L key) := List.Pairwise.sublist (List.filter_sublist) h
def DropEnd (base : Nat) (w0 : World) (K0 : Nat → Nat) (h : Nat) (k : Kid) (key : ByteArray) (l2 : List Res) (e : Ending) (w' : World) : Prop :=
  e = .returned (.bool (getL k.L key).isSome) ∧ ∃ k' : Kid, k'.b = k.b ∧ k'.L = dropL k.L key ∧ k'.c ≤ k.c ∧ k.c ≤ k'.c + 1 ∧ Hold base w0 K0 w' (.sub h k' :: l2)
def DropSpec (h : Nat) : Prop := ∀ (base : Nat) (w0 : World) (K0 : Nat → Nat) (w : World) (k : Kid) (key : ByteArray) (l2 : List Res), Hold base w0 K0 w (.sub h k :: l2) → Sorted k.L → (h = 0 ∨ 1 ≤ k.c) → k.c ≤ 3 →
  Calls Tryz.prog 193 #[.pointer (some ⟨k.b, 0, none⟩), .string key] w fun e w' => DropEnd base w0 K0 h k key l2 e w'
set_option maxRecDepth 100000 in
set_option maxHeartbeats 4000000 in
theorem drop_leaf (base : Nat) (w0 : World) (K0 : Nat → Nat) (w : World) (k : Kid) (key : ByteArray) (l2 : List Res) (H : Hold base w0 K0 w (.sub 0 k :: l2)) (hs : Sorted k.L) (hc3 : k.c ≤ 3) :
    Calls Tryz.prog 193 #[.pointer (some ⟨k.b, 0, none⟩), .string key] w fun e w' => DropEnd base w0 K0 0 k key l2 e w' := by
  obtain ⟨its, kids, v0, v1, hcc, hL, hsh, hfit, H1⟩ := H.open []
  simp only [List.nil_append] at H1
  have hk0 : kids = [] := by rcases hsh with ⟨_, h⟩ | ⟨h, _⟩; exact h; omega
  subst hk0
  simp only [List.map_nil, inter_nil] at hL
  rw [hL] at hs
  obtain ⟨b, hb⟩ : ∃ b, k.b = b := ⟨_, rfl⟩
  rw [hb] at H1 ⊢
  have e1 := find_calls b v0 its key w (H1.cellAt (b := b) (t := 188) (vs := [v0, v1]) (by simp [nodeR]) (j := 0) rfl) base (H1.rowAt (by simp [rowI])) hs (by omega)
  have E1 := hide e1
  have HH := hide H1
  have HS := hide hs
  have HL := hide hL
  have Hcc := hide hcc
  have Hb := hide hb
  clear H H1 e1 hs hL hcc hb hsh hfit
  go_enter Tryz.func193, Tryz.ntmps193
  go_wp2_with fail
  refine (unhide E1).mono ?_
  rintro e w2 ⟨at', is', rfl, hF, hB⟩
  have h3 := (unhide HH).below hB
  have q1 : w2.cell? ⟨b, 1, none⟩ = some v1 := h3.cellAt (t := 188) (vs := [v0, v1]) (by simp [nodeR]) rfl
  have e2 := leaf_calls b (.slice none 0 0) v1 0 w2 q1 base [] (h3.rowAt (by simp [rowN])) (by omega)
  have E2 := hide e2
  have H3 := hide h3
  clear HH hB E1 e2
  rcases hF.split with ⟨rfl, a, x, c, rfl, ha, hx, hlow⟩ | ⟨rfl, a, c, rfl, ha, hlow, hhigh⟩
  · obtain ⟨n, hn⟩ : ∃ n, (a ++ x :: c).length = n := ⟨_, rfl⟩
    have hn3 : n ≤ 3 := by have := unhide Hcc; omega
    have r0 : w2.ownsRow base 190 3 v0 n (flat (a ++ x :: c)) := by rw [← hn]; exact h3.rowAt (by simp [rowI])
    obtain ⟨g0, cap0, rfl, hc0, hm0⟩ := row_shape r0 (by rw [← hn]; simp only [List.length_append, List.length_cons]; omega)
    have q0 : w2.cell? ⟨b, 0, none⟩ = some (.slice (some ⟨g0, 0, none⟩) n cap0) := h3.cellAt (t := 188) (vs := [.slice (some ⟨g0, 0, none⟩) n cap0, v1]) (by simp [nodeR]) rfl
    have e3 := hold_deleteI [nodeR b (.slice (some ⟨g0, 0, none⟩) n cap0) v1] h3 ha hn (by omega)
    have E3 := hide e3
    have HX := hide hx
    have haz : (at' : Int) ≤ 3 := by have : at' < n := by rw [← hn, ← ha]; simp
                                     omega
    clear e3 r0 h3 hF hlow ha hx hn q1
    go_wp2_with fail
    refine (unhide E2).mono ?_
    rintro e w3 ⟨rfl, rfl⟩
    simp only [decide_true]
    go_wp2_with fail
    refine (unhide E3).mono ?_
    rintro e w4 ⟨g4, cap4, rfl, _, _, H4⟩
    simp only [List.cons_append, List.nil_append] at H4
    have k0 : w4.cell? ⟨b, 0, none⟩ = some (.slice (some ⟨g0, 0, none⟩) n cap0) := H4.cellAt (t := 188) (vs := [.slice (some ⟨g0, 0, none⟩) n cap0, v1]) (by simp [nodeR]) rfl
    have kf : w4.frozen? ⟨b, 0, none⟩ = false := H4.frozenAt (t := 188) (vs := [.slice (some ⟨g0, 0, none⟩) n cap0, v1]) (by simp [nodeR]) 0
    have H5 := hide (H4.store [] 0 (.slice (some ⟨g4, 0, none⟩) (n - 1) cap4) _ rfl)
    clear H4 E3 E2
    go_wp2_with fail
    go_ret
    have hs := unhide HS
    have hx := unhide HX
    obtain ⟨k', b1, n1, L1, h8⟩ := Hold.shut [] (h := 0) (b := b) (its := a ++ c) (kids := []) (v0 := .slice (some ⟨g4, 0, none⟩) (n - 1) cap4) (v1 := v1) (l2 := l2) (unhide H5) (.inl ⟨rfl, rfl⟩) (by simp)
    refine ⟨?_, k', by rw [b1]; exact (unhide Hb).symm, ?_, ?_, ?_, h8⟩
    · rw [unhide HL, ← hx, getL_some hs (by simp)]; rfl
    · rw [L1, unhide HL, ← hx, dropL_at hs]; simp [inter_nil]
    · rw [n1, unhide Hcc]; simp
    · rw [n1, unhide Hcc]; simp; omega
  · have Hlow := hide hlow
    have Hhigh := hide hhigh
    clear hF hlow hhigh ha h3 q1
    go_wp2_with fail
    refine (unhide E2).mono ?_
    rintro e w3 ⟨rfl, rfl⟩
    simp only [decide_true]
    go_wp2_with fail
    go_ret
    have hne : ∀ x ∈ a ++ c, x.key ≠ key := fun x hx => by
      rcases List.mem_append.1 hx with h1 | h1
      · exact kLt_ne (unhide Hlow x h1)
      · exact (kLt_ne (unhide Hhigh x h1)).symm
    obtain ⟨k', b1, n1, L1, h8⟩ := Hold.shut [] (h := 0) (b := b) (its := a ++ c) (kids := []) (v0 := v0) (v1 := v1) (l2 := l2) (unhide H3) (.inl ⟨rfl, rfl⟩) (by simp)
    refine ⟨?_, k', by rw [b1]; exact (unhide Hb).symm, ?_, ?_, ?_, h8⟩
    · rw [unhide HL, getL_none hne]; rfl
    · rw [L1, unhide HL, dropL_none hne]; simp [inter_nil]
    · rw [n1, unhide Hcc]; simp
    · rw [n1, unhide Hcc]; simp
set_option maxRecDepth 100000 in
set_option maxHeartbeats 4000000 in
theorem drop_inner (h : Nat) (ih : DropSpec h) (base : Nat) (w0 : World) (K0 : Nat → Nat) (w : World) (k : Kid) (key : ByteArray) (l2 : List Res) (H : Hold base w0 K0 w (.sub (h + 1) k :: l2)) (hs : Sorted k.L) (hc1 : 1 ≤ k.c) (hc3 : k.c ≤ 3) :
    Calls Tryz.prog 193 #[.pointer (some ⟨k.b, 0, none⟩), .string key] w fun e w' => DropEnd base w0 K0 (h + 1) k key l2 e w' := by
  obtain ⟨its, kids, v0, v1, hcc, hL, hsh, hfit, H1⟩ := H.open []
  simp only [List.nil_append, Nat.add_sub_cancel] at H1
  have hk0 : kids.length = its.length + 1 := by rcases hsh with ⟨h, _⟩ | ⟨_, h⟩; omega; exact h
  rw [hL] at hs
  obtain ⟨b, hb⟩ : ∃ b, k.b = b := ⟨_, rfl⟩
  rw [hb] at H1 ⊢
  have e1 := find_calls b v0 its key w (H1.cellAt (b := b) (t := 188) (vs := [v0, v1]) (by simp [nodeR]) (j := 0) rfl) base (H1.rowAt (by simp [rowI])) (hsh.sorted hs) (by omega)
  have E1 := hide e1
  have HH := hide H1
  have HS := hide hs
  have HL := hide hL
  have Hcc := hide hcc
  have Hb := hide hb
  have Hfit := hide hfit
  have IH := hide ih
  have Hk0 := hide hk0
  clear H H1 e1 hs hL hcc hb hsh hfit ih hk0
  go_enter Tryz.func193, Tryz.ntmps193
  go_wp2_with fail
  refine (unhide E1).mono ?_
  rintro e w2 ⟨at', is', rfl, hF, hB⟩
  have h3 := (unhide HH).below hB
  have hk0 := unhide Hk0
  have hcc := unhide Hcc
  obtain ⟨n, hn⟩ : ∃ n, its.length = n := ⟨_, rfl⟩
  have r1 : w2.ownsRow base 128 1 v1 (n + 1) (kids.map fun y => ptrV y.b) := by rw [← hn, ← hk0]; exact h3.rowAt (by simp [rowN])
  obtain ⟨g1, cap1, rfl, hcp1, hm1⟩ := row_shape r1 (by omega)
  have r0 : w2.ownsRow base 190 3 v0 n (flat its) := by rw [← hn]; exact h3.rowAt (by simp [rowI])
  obtain ⟨g0, cap0, rfl, hc0, hm0⟩ := row_shape r0 (by omega)
  have q0 : w2.cell? ⟨b, 0, none⟩ = some (.slice (some ⟨g0, 0, none⟩) n cap0) := h3.cellAt (t := 188) (vs := [.slice (some ⟨g0, 0, none⟩) n cap0, .slice (some ⟨g1, 0, none⟩) (n + 1) cap1]) (by simp [nodeR]) rfl
  have q1 : w2.cell? ⟨b, 1, none⟩ = some (.slice (some ⟨g1, 0, none⟩) (n + 1) cap1) := h3.cellAt (t := 188) (vs := [.slice (some ⟨g0, 0, none⟩) n cap0, .slice (some ⟨g1, 0, none⟩) (n + 1) cap1]) (by simp [nodeR]) rfl
  have e2 := leaf_calls b (.slice none 0 0) _ (n + 1) w2 q1 base _ r1 (by omega)
  rw [show decide (n + 1 = 0) = false from by simp] at e2
  have E2 := hide e2
  have hatn : at' ≤ n := by rw [← hn]; exact hF.1
  have hatk : at' < kids.length := by omega
  obtain ⟨ks1, kk, ks2, hkids, hks1⟩ : ∃ ks1 kk ks2, kids = ks1 ++ kk :: ks2 ∧ ks1.length = at' := ⟨kids.take at', kids[at'], kids.drop (at' + 1), by rw [← List.drop_eq_getElem_cons hatk, List.take_append_drop], by rw [List.length_take]; omega⟩
  have p1 := ptr_cell r1 (j := at') (k := kk) (by rw [hkids, ← hks1]; simp)
  have hfk : Fit kk := unhide Hfit kk (by rw [hkids]; simp)
  have hfk1 := hfk.1
  have hfk3 := hfk.2
  have hoth : ∀ kk' : Kid, ∀ j x, (ks1 ++ kk' :: ks2)[j]? = some x → j ≠ at' → Fit x := by
    intro kk' j x hj hne
    refine unhide Hfit x ?_
    rw [hkids]
    rcases Nat.lt_or_ge j ks1.length with h1 | h1
    · rw [List.getElem?_append_left h1] at hj
      simp [List.mem_of_getElem? hj]
    · rw [List.getElem?_append_right h1] at hj
      obtain ⟨j', hj'⟩ : ∃ j', j - ks1.length = j' + 1 := ⟨j - ks1.length - 1, by omega⟩
      rw [hj', List.getElem?_cons_succ] at hj
      simp [List.mem_of_getElem? hj]
  have hklen : ∀ kk' : Kid, (ks1 ++ kk' :: ks2).length = its.length + 1 := fun kk' => by rw [hkids] at hk0; simpa using hk0
  have hmend : ∀ (its' : List Item) (kk' : Kid) (wx : World), its'.length = n → kk'.c ≤ 3 → Hold base w0 K0 wx (nodeR b (.slice (some ⟨g0, 0, none⟩) n cap0) (.slice (some ⟨g1, 0, none⟩) (n + 1) cap1) :: rowI (.slice (some ⟨g0, 0, none⟩) n cap0) its' :: rowN (.slice (some ⟨g1, 0, none⟩) (n + 1) cap1) (ks1 ++ kk' :: ks2) :: .subs h (ks1 ++ kk' :: ks2) :: l2) →
      Calls Tryz.prog 216 #[.pointer (some ⟨b, 0, none⟩), .int .i64 at'] wx fun e w' => MendEnd base w0 K0 b h (inter its' ((ks1 ++ kk' :: ks2).map Kid.L)) its'.length l2 e w' := fun its' kk' wx hl hc hx =>
    mend_calls base w0 K0 wx b h at' its' (ks1 ++ kk' :: ks2) kk' _ _ l2 hx (by rw [hklen, hl, hn]) (by omega) (by omega) (by rw [← hks1]; simp) hc (hoth kk')
  have hfin : ∀ (its' : List Item) (kk' : Kid) (wx : World) (r : Bool), its'.length = n → inter its' ((ks1 ++ kk' :: ks2).map Kid.L) = dropL k.L key → r = (getL k.L key).isSome → OpenAt base w0 K0 wx b h (inter its' ((ks1 ++ kk' :: ks2).map Kid.L)) its'.length l2 → DropEnd base w0 K0 (h + 1) k key l2 (.returned (.bool r)) wx := by
    rintro its' kk' wx r hl hM rfl ⟨its2, kids2, V0, V1, e1, e2, e3, e4, e5, e6⟩
    obtain ⟨k', b1, n1, L1, h8⟩ := e6.shut [] (h := h + 1) (.inr ⟨by omega, e4⟩) e5
    refine ⟨rfl, k', by rw [b1]; exact (unhide Hb).symm, by rw [L1, e1, hM], by rw [n1, hcc]; omega, by rw [n1, hcc]; omega, h8⟩
  have HM := hide hmend
  have Hfin := hide hfin
  rw [hkids] at h3
  have h4 := (h3.take [nodeR b (.slice (some ⟨g0, 0, none⟩) n cap0) (.slice (some ⟨g1, 0, none⟩) (n + 1) cap1), rowI (.slice (some ⟨g0, 0, none⟩) n cap0) its, rowN (.slice (some ⟨g1, 0, none⟩) (n + 1) cap1) (ks1 ++ kk :: ks2)]).front [nodeR b (.slice (some ⟨g0, 0, none⟩) n cap0) (.slice (some ⟨g1, 0, none⟩) (n + 1) cap1), rowI (.slice (some ⟨g0, 0, none⟩) n cap0) its, rowN (.slice (some ⟨g1, 0, none⟩) (n + 1) cap1) (ks1 ++ kk :: ks2)]
  simp only [List.cons_append, List.nil_append] at h4
  have H4 := hide h4
  have hback : ∀ (kk' : Kid) (wx : World), kk'.b = kk.b → Hold base w0 K0 wx (.sub h kk' :: nodeR b (.slice (some ⟨g0, 0, none⟩) n cap0) (.slice (some ⟨g1, 0, none⟩) (n + 1) cap1) :: rowI (.slice (some ⟨g0, 0, none⟩) n cap0) its :: rowN (.slice (some ⟨g1, 0, none⟩) (n + 1) cap1) (ks1 ++ kk :: ks2) :: .subs h (ks1 ++ ks2) :: l2) → Hold base w0 K0 wx (nodeR b (.slice (some ⟨g0, 0, none⟩) n cap0) (.slice (some ⟨g1, 0, none⟩) (n + 1) cap1) :: rowI (.slice (some ⟨g0, 0, none⟩) n cap0) its :: rowN (.slice (some ⟨g1, 0, none⟩) (n + 1) cap1) (ks1 ++ kk' :: ks2) :: .subs h (ks1 ++ kk' :: ks2) :: l2) := by
    intro kk' wx hb' hx
    have e : rowN (.slice (some ⟨g1, 0, none⟩) (n + 1) cap1) (ks1 ++ kk :: ks2) = rowN (.slice (some ⟨g1, 0, none⟩) (n + 1) cap1) (ks1 ++ kk' :: ks2) := rowN_congr (by simp [hb'])
    rw [e] at hx
    exact (((hx.front [_, _, _]).front [_, _, _]).front [_, _, _]).give [_, _, _] ks1 ks2
  have HBk := hide hback
  have haz : (at' : Int) < (n : Int) + 1 := by omega
  have Hn := hide hn
  have Hks1 := hide hks1
  have Hkids := hide hkids
  clear e2 h3 h4 r1 hoth hklen hmend hfin hback HH hB E1 hfk
  rcases hF.split with ⟨rfl, a, x, c, hits, ha, hx, hlow⟩ | ⟨rfl, a, c, hits, ha, hlow, hhigh⟩
  · -- found here: the next lower one takes the place
    have han : at' < n := by rw [← hn, hits, ← ha]; simp
    have hanz : (at' : Int) < (n : Int) := by omega
    have e3 : ∀ wx, Hold base w0 K0 wx _ → Calls Tryz.prog 215 #[.pointer (some ⟨kk.b, 0, none⟩)] wx fun e w' => DropLastEnd base w0 K0 h kk (nodeR b (.slice (some ⟨g0, 0, none⟩) n cap0) (.slice (some ⟨g1, 0, none⟩) (n + 1) cap1) :: rowI (.slice (some ⟨g0, 0, none⟩) n cap0) its :: rowN (.slice (some ⟨g1, 0, none⟩) (n + 1) cap1) (ks1 ++ kk :: ks2) :: .subs h (ks1 ++ ks2) :: l2) e w' := fun wx hx => dropLast_spec h base w0 K0 wx kk _ hx hfk1 hfk3
    have E3 := hide e3
    obtain ⟨ls, lsr, hls2⟩ : ∃ l ls, ks2.map Kid.L = l :: ls := by
      cases hq : ks2 with
      | nil => rw [hkids, hq, hits] at hk0; simp at hk0; omega
      | cons y ys => exact ⟨y.L, ys.map Kid.L, rfl⟩
    have hl12 : a.length = (ks1.map Kid.L).length ∧ (x :: c).length = (ks2.map Kid.L).length := by
      rw [hkids, hits] at hk0
      simp only [List.length_append, List.length_cons] at hk0
      simp only [List.length_map, List.length_cons]
      omega
    have hint : ∀ (z : Item) (l : List Item), inter (a ++ z :: c) (ks1.map Kid.L ++ l :: ks2.map Kid.L) = pre a (ks1.map Kid.L) ++ l ++ z :: (ls ++ post c lsr) := fun z l => by
      rw [inter_split a _ (z :: c) l _ hl12.1 (by simpa using hl12.2), hls2]
      rfl
    have hLL : k.L = pre a (ks1.map Kid.L) ++ kk.L ++ x :: (ls ++ post c lsr) := by
      rw [unhide HL, hkids, hits]
      simp only [List.map_append, List.map_cons]
      exact hint x kk.L
    have hsl : Sorted k.L := by rw [unhide HL]; exact unhide HS
    have hget : true = (getL k.L key).isSome := by
      rw [← hx, getL_some hsl (by rw [hLL]; simp)]; rfl
    have hdrop : ∀ (y : Item) (kk' : Kid), kk.L = kk'.L ++ [y] → inter (a ++ y :: c) ((ks1 ++ kk' :: ks2).map Kid.L) = dropL k.L key := fun y kk' hy => by
      simp only [List.map_append, List.map_cons]
      rw [hint y kk'.L, ← hx, hLL, dropL_at (by rw [← hLL]; exact hsl), hy]
      simp
    have Hget := hide hget
    have Hdrop := hide hdrop
    have Hits := hide hits
    have Ha := hide ha
    clear e3 hF hlow hls2 hl12 hint hLL hsl hget hdrop hits ha hx hn hcc hks1 hkids hk0 r0
    go_wp2_with fail
    refine (unhide E2).mono ?_
    rintro e w3 ⟨rfl, rfl⟩
    go_wp2_with fail
    go_cut [] from 7 (fun wc => Hid (∃ (y : Item) (kk' : Kid), kk'.c ≤ 3 ∧ kk.L = kk'.L ++ [y] ∧ Hold base w0 K0 wc (nodeR b (.slice (some ⟨g0, 0, none⟩) n cap0) (.slice (some ⟨g1, 0, none⟩) (n + 1) cap1) :: rowI (.slice (some ⟨g0, 0, none⟩) n cap0) (a ++ y :: c) :: rowN (.slice (some ⟨g1, 0, none⟩) (n + 1) cap1) (ks1 ++ kk' :: ks2) :: .subs h (ks1 ++ kk' :: ks2) :: l2)))
    case first =>
      go_region_with ((go_at_call 215; refine (unhide E3 _ ?_).mono ?_; exact (unhide H4).drew; rintro e w4 ⟨y, kk', rfl, hb4, hL4, hc4, hc4', H5⟩; have H6 := unhide HBk kk' w4 hb4 H5; have k0 : w4.cell? ⟨b, 0, none⟩ = some (.slice (some ⟨g0, 0, none⟩) n cap0) := H6.cellAt (t := 188) (vs := [.slice (some ⟨g0, 0, none⟩) n cap0, .slice (some ⟨g1, 0, none⟩) (n + 1) cap1]) (by simp [nodeR]) rfl; have rr : w4.ownsRow base 190 3 (.slice (some ⟨g0, 0, none⟩) n cap0) n (flat its) := (by rw [← unhide Hn]; exact H6.rowAt (by simp [rowI, unhide Hn])); obtain ⟨s1, s2, s3⟩ := item_cell rr (j := at') (x := x) (by rw [unhide Hits, ← unhide Ha]; simp); have f1 := rr.frozenAt (at' * 3); have f2 := rr.frozenAt (at' * 3 + 1); have f3 := rr.frozenAt (at' * 3 + 2); have HH6 := hide H6; have HL4 := hide hL4; clear H5 H6 rr hL4 hb4))
      all_goals (go_wp2_with fail; go_meet; exact ⟨y, kk', by omega, unhide HL4, by
        have h7 := unhide HH6
        have hn7 := unhide Hn
        rw [unhide Hits] at h7 hn7
        exact store_item [nodeR b (.slice (some ⟨g0, 0, none⟩) n cap0) (.slice (some ⟨g1, 0, none⟩) (n + 1) cap1)] (it := y) h7 (unhide Ha) hn7⟩)
    case rest =>
    obtain ⟨y, kk', hc4, hL4, H7⟩ := unhide hcut
    have hly : (a ++ y :: c).length = n := by have h1 := unhide Hn; rw [unhide Hits] at h1; simpa using h1
    have e5 := unhide HM (a ++ y :: c) kk' wc hly hc4 H7
    have E5 := hide e5
    have hf := unhide Hfin (a ++ y :: c) kk'
    have Hf := hide fun wx => hf wx true hly (unhide Hdrop y kk' hL4) (unhide Hget)
    clear hcut e5 H7 hf hL4 hly E3 E2 q0 q1 p1 H4
    go_wp2_with fail
    refine (unhide E5).mono ?_
    rintro e w5 ⟨rfl, hO⟩
    have HO := hide hO
    clear hO
    go_wp2_with fail
    go_ret
    exact unhide Hf _ (unhide HO)
  · -- not here: below
    have hl12 : a.length = (ks1.map Kid.L).length ∧ c.length = (ks2.map Kid.L).length := by
      rw [hkids, hits] at hk0
      simp only [List.length_append, List.length_cons] at hk0
      simp only [List.length_map]
      omega
    have hLL : k.L = pre a (ks1.map Kid.L) ++ kk.L ++ post c (ks2.map Kid.L) := by
      rw [unhide HL, hkids, hits]
      simp only [List.map_append, List.map_cons]
      exact inter_split a _ c kk.L _ hl12.1 hl12.2
    have hsl : Sorted k.L := by rw [unhide HL]; exact unhide HS
    have hpl := pre_low hl12.1 (t := kk.L ++ post c (ks2.map Kid.L)) (key := key) (by rw [← List.append_assoc, ← hLL]; exact hsl) hlow
    have hph := post_high hl12.2 (t := pre a (ks1.map Kid.L) ++ kk.L) (key := key) (by rw [← hLL]; exact hsl) hhigh
    have hskk : Sorted kk.L := by rw [hLL] at hsl; exact hsl.mid
    have hget : (getL kk.L key).isSome = (getL k.L key).isSome := by rw [hLL, getL_mid hpl hph]
    have hdrop : ∀ (kk' : Kid), kk'.L = dropL kk.L key → inter its ((ks1 ++ kk' :: ks2).map Kid.L) = dropL k.L key := fun kk' hy => by
      rw [hits]
      simp only [List.map_append, List.map_cons]
      rw [inter_split a _ c _ _ hl12.1 hl12.2, hy, hLL, dropL_mid hpl hph]
    have e3 := unhide IH base w0 K0 w2 kk key _ (unhide H4) hskk (.inr hfk1) hfk3
    obtain ⟨r, hr⟩ : ∃ r, (getL kk.L key).isSome = r := ⟨_, rfl⟩
    have E3 := hide e3
    have Hr := hide hr
    have Hget := hide hget
    have Hdrop := hide hdrop
    clear e3 hF hlow hhigh hl12 hLL hsl hpl hph hskk hget hdrop hits ha hn hcc hks1 hkids hk0 r0 hr
    go_wp2_with fail
    refine (unhide E2).mono ?_
    rintro e w3 ⟨rfl, rfl⟩
    go_wp2_with fail
    refine (unhide E3).mono ?_
    rintro e w4 ⟨rfl, kk', hb4, hL4, hc4, hc4', H5⟩
    rw [unhide Hr]
    have H7 := unhide HBk kk' w4 hb4 H5
    have e5 := unhide HM its kk' w4 (unhide Hn) (by omega) H7
    have E5 := hide e5
    have hf := unhide Hfin its kk'
    have Hf := hide fun wx => hf wx r (unhide Hn) (unhide Hdrop kk' hL4) (by rw [← unhide Hr]; exact unhide Hget)
    clear e5 H7 H5 hf hL4 hb4 E3 E2 q0 q1 p1 H4
    go_wp2_with fail
    refine (unhide E5).mono ?_
    rintro e w5 ⟨rfl, hO⟩
    have HO := hide hO
    clear hO
    go_wp2_with fail
    go_ret
    exact unhide Hf _ (unhide HO)
theorem drop_spec : ∀ h, DropSpec h
  | 0 => fun base w0 K0 w k key l2 H hs _ h3 => drop_leaf base w0 K0 w k key l2 H hs h3
  | h + 1 => fun base w0 K0 w k key l2 H hs h1 h3 => drop_inner h (drop_spec h) base w0 K0 w k key l2 H hs (h1.resolve_left (by omega)) h3
end Go.Proofs.YtjpmomklkkifjaaGreatDoor.T
namespace Go.Proofs.YtjpmomklkkifjaaGreatDoor.T
open Go.RowKit Go.Lib
def TreeDropEnd (base : Nat) (w0 : World) (K0 : Nat → Nat) (tb : Nat) (L : List Item) (key : ByteArray) (l2 : List Res) (e : Ending) (w' : World) : Prop :=
  e = .returned (.bool (getL L key).isSome) ∧ TreeIn base w0 K0 w' tb (dropL L key) l2
set_option maxRecDepth 100000 in
set_option maxHeartbeats 4000000 in
theorem treeDrop_calls (base : Nat) (w0 : World) (K0 : Nat → Nat) (w : World) (tb : Nat) (L : List Item) (l2 : List Res) (key : ByteArray) (HT : TreeIn base w0 K0 w tb L l2) :
    Calls Tryz.prog 151 #[.pointer (some ⟨tb, 0, none⟩), .string key] w fun e w' => TreeDropEnd base w0 K0 tb L key l2 e w' := by
  obtain ⟨hs, h, k, hL, hc, hc1, H⟩ := HT
  have q0 : w.cell? ⟨tb, 0, none⟩ = some (.pointer (some ⟨k.b, 0, none⟩)) := H.cellAt (t := 130) (vs := [ptrV k.b]) (by simp) rfl
  have e1 := drop_spec h base w0 K0 w k key _ (H.front [_]) (by rw [hL]; exact hs) hc1 hc
  obtain ⟨r, hr⟩ : ∃ r, (getL k.L key).isSome = r := ⟨_, rfl⟩
  have E1 := hide e1
  have HL := hide hL
  have HS := hide hs
  have Hc1 := hide hc1
  have Hr := hide hr
  clear e1 H hL hs hc1 hr
  go_enter Tryz.func151, Tryz.ntmps151
  go_wp2_with fail
  refine (unhide E1).mono ?_
  rintro e w2 ⟨rfl, k2, hb2, hL2, hc2, hc3, H2⟩
  rw [unhide Hr]
  simp only [List.cons_append, List.nil_append] at H2
  rw [← hb2] at H2
  obtain ⟨its, kids, u0, u1, hcc, hkL, hsh, hfit, H3⟩ := H2.open []
  simp only [List.nil_append] at H3
  have q1 : w2.cell? ⟨tb, 0, none⟩ = some (.pointer (some ⟨k.b, 0, none⟩)) := by rw [← hb2]; exact H3.cellAt (t := 130) (vs := [ptrV k2.b]) (by simp) rfl
  have f1 : w2.frozen? ⟨tb, 0, none⟩ = false := H3.frozenAt (t := 130) (vs := [ptrV k2.b]) (by simp) 0
  have q2 : w2.cell? ⟨k.b, 0, none⟩ = some u0 := by rw [← hb2]; exact H3.cellAt (t := 188) (vs := [u0, u1]) (by simp [nodeR]) rfl
  have q3 : w2.cell? ⟨k.b, 1, none⟩ = some u1 := by rw [← hb2]; exact H3.cellAt (t := 188) (vs := [u0, u1]) (by simp [nodeR]) rfl
  have r0 : w2.ownsRow base 190 3 u0 its.length (flat its) := H3.rowAt (by simp [rowI])
  have r1 : w2.ownsRow base 128 1 u1 kids.length (kids.map fun y => ptrV y.b) := H3.rowAt (by simp [rowN])
  obtain ⟨n, hn⟩ : ∃ n, its.length = n := ⟨_, rfl⟩
  rw [hn] at r0
  obtain ⟨p0, cap0, rfl⟩ := row_len r0
  have e2 := leaf_calls k.b (.slice none 0 0) u1 kids.length w2 q3 base _ r1 (by rcases hsh with ⟨_, h0⟩ | ⟨_, h0⟩; rw [h0]; simp; omega)
  have E2 := hide e2
  have hLf : k2.L = dropL L key := by rw [hL2, unhide HL]
  have hgf : r = (getL L key).isSome := by rw [← unhide Hr, unhide HL]
  have hsf : Sorted (dropL L key) := dropL_sorted (unhide HS)
  have HH2 := hide H2
  have HLf := hide hLf
  have Hgf := hide hgf
  have Hsf := hide hsf
  have Hcc := hide hcc
  have Hn := hide hn
  by_cases hn0 : n = 0
  · subst hn0
    rcases hsh with ⟨h0, hk0⟩ | ⟨h0, hk0⟩
    · have hd : decide (kids.length = 0) = true := by rw [hk0]; rfl
      rw [hd] at E2
      clear e2 hd hk0 r0 r1 H3 H2 hkL hfit hcc hn hLf hgf hsf E1 hL2
      go_wp2_with fail
      refine (unhide E2).mono ?_
      rintro e w3 ⟨rfl, rfl⟩
      go_wp2_with fail
      go_ret
      exact ⟨by rw [← unhide Hgf]; rfl, unhide Hsf, h, k2, unhide HLf, by omega, .inl h0, (unhide HH2).front [_]⟩
    · have hd : decide (kids.length = 0) = false := by rw [hk0]; simp
      rw [hd] at E2
      have hits : its = [] := List.length_eq_zero_iff.1 hn
      subst hits
      obtain ⟨c, hkids⟩ : ∃ c, kids = [c] := by
        match kids, hk0 with
        | [c], _ => exact ⟨c, rfl⟩
      subst hkids
      simp only [List.length_cons, List.length_nil] at r1
      obtain ⟨g1, cap1, rfl, _, _⟩ := row_shape r1 (by omega)
      have p1 := ptr_cell r1 (j := 0) (k := c) rfl
      have hfc : Fit c := hfit c (by simp)
      have hcL : c.L = dropL L key := by rw [← hLf, hkL]; simp [inter]
      have h5 := (((H3.forget []).forget []).forget [])
      have h6 := h5.take [] (a := []) (d := [])
      have h7 := h6.forget [.sub (h - 1) c]
      have h8 := h7.store [.sub (h - 1) c] 0 (ptrV c.b) _ rfl
      simp only [List.cons_append, List.nil_append, List.set_cons_zero] at h8
      have H8 := hide h8
      have HcL := hide hcL
      clear e2 hd hk0 r0 r1 H3 H2 hkL hfit hcc hLf hgf hsf E1 hL2 h5 h6 h7 h8 hcL
      go_wp2_with fail
      refine (unhide E2).mono ?_
      rintro e w3 ⟨rfl, rfl⟩
      go_wp2_with fail
      go_ret
      exact ⟨by rw [← unhide Hgf]; rfl, unhide Hsf, h - 1, c, unhide HcL, hfc.2, .inr hfc.1, (unhide H8).front [_]⟩
  · have hnz : ((n : Int) == 0) = false := by rw [beq_eq_false_iff_ne]; omega
    have hk2c : 1 ≤ k2.c := by omega
    clear e2 r0 r1 H3 H2 hkL hfit hcc hn hLf hgf hsf E1 hL2 hsh E2
    go_wp2_with fail
    go_ret
    exact ⟨by rw [← unhide Hgf]; rfl, unhide Hsf, h, k2, unhide HLf, by omega, .inr hk2c, (unhide HH2).front [_]⟩
end Go.Proofs.YtjpmomklkkifjaaGreatDoor.T
