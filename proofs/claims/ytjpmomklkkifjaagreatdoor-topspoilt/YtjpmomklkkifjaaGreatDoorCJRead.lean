import Derived.Test.YtjpmomklkkifjaaGreatDoorCJCut
import Derived.Test.YtjpmomklkkifjaaGreatDoorCILink
set_option maxRecDepth 100000
set_option linter.unusedVariables false
set_option linter.unusedSimpArgs false
namespace Go.Proofs.YtjpmomklkkifjaaGreatDoor.T.J
open Go.Shelf Go.RowKit
theorem cut_any (s p : ByteArray) (w : World) : Calls Tryz.prog 115 #[.string s, .string p] w fun e w' => ∃ r : ByteArray, e = .returned (.tuple #[.string r, .bool (Lib.hasPrefix s.data.toList p.data.toList)]) ∧ r.size ≤ s.size ∧ w' = w := by
  refine (Any.strings_CutPrefix lays103 s p w).mono ?_
  rintro e w' ⟨he, hw⟩
  refine ⟨_, he, ?_, hw⟩
  show (Lib.trimPrefix s.data.toList p.data.toList).toArray.size ≤ _
  rw [Lib.size_eq]
  unfold Lib.trimPrefix
  split <;> simp
variable {w0 w w' : World} {db nb eb : Nat} {D : List DN} {E : List DE} {next : Int} {l : List Res}
theorem df_forget (h : H0 w0 w (dfR db nb eb D E next l)) : H0 w0 w l := by
  refine Hold.conv h (fun x => ?_) (fun r hr => Hold.sat h r ?_)
  · simp only [dfR, total_cons, total_append]; omega
  · unfold dfR
    simp only [List.mem_cons, List.mem_append]
    exact .inr (.inr (.inr (.inr (.inr hr))))
def NodePut (D D' : List DN) (d : DN) : Prop := (d.id ∉ D.map DN.id ∧ D' = D ++ [d]) ∨ ∃ D1 d0 D2, D = D1 ++ d0 :: D2 ∧ d0.id = d.id ∧ D' = D1 ++ d :: D2
theorem df_put (h : H0 w0 w (dfR db nb eb D E next l)) (hn : (D.map DN.id).Nodup) (hD : D.length ≤ 1000) (d : DN) (hi : WfI d.id) (hb : d.blk = w.heap.size) :
    ∃ w' D', (Instr.mapUpdate 116 (.map (some nb)) (.int .i64 d.id) (.pointer (some ⟨d.blk, 0, none⟩))).run Tryz.prog (w.alloc (.cells d.cells.toArray 170)) = .ok () w' ∧ NodePut D D' d ∧ H0 w0 w' (dfR db nb eb D' E next l) := by
  by_cases hm : d.id ∈ D.map DN.id
  · obtain ⟨d0, hd0, e0⟩ := List.mem_map.1 hm
    obtain ⟨D1, D2, rfl⟩ := List.append_of_mem hd0
    have h1 := Hold.made h (H0.below h).size 170 d.cells
    rw [← hb] at h1
    have h2 : H0 w0 (w.alloc (.cells d.cells.toArray 170)) ([.cell db 119 [.map (some nb), .map (some eb), .int .i64 next]] ++ .obj nb (P.IsMapP ((D1 ++ d0 :: D2).map DN.pv)) :: (.obj eb (P.IsMapP (E.map DE.pv)) :: ((D1 ++ d :: D2).map DN.res ++ (E.map DE.res ++ l)))) := by
      refine Hold.conv h1 (fun x => ?_) (fun r hr => Hold.sat h1 r ?_)
      · simp only [dfR, DN.res, total_cons, total_append, List.map_append, List.map_cons, List.map_nil, total_nil]; omega
      · simp only [dfR, List.mem_append, List.mem_cons, List.map_append, List.map_cons, List.not_mem_nil, or_false] at hr ⊢
        rcases hr with h | h | h | (h | h | h) | h | h <;> simp [h, DN.res]
    obtain ⟨w', hrun, h3⟩ := P.put116 _ h2 (by simpa using hD) d.pv hi
    refine ⟨w', D1 ++ d :: D2, hrun, .inr ⟨D1, d0, D2, rfl, e0, rfl⟩, ?_⟩
    have hnd : ((D1.map DN.pv ++ d0.pv :: D2.map DN.pv).map P.PV.id).Nodup := by
      have := hn
      rw [← dn_ids] at this
      simpa using this
    rw [List.map_append, List.map_cons, putP_mid hnd (by exact e0.symm)] at h3
    unfold dfR
    rw [List.map_append, List.map_cons]
    exact h3
  · obtain ⟨w', hrun, h3⟩ := df_node h hD d hi hm hb
    exact ⟨w', _, hrun, .inl ⟨hm, rfl⟩, h3⟩
def NdEnd (w0 : World) (db nb eb : Nat) (D : List DN) (E : List DE) (next : Int) (l : List Res) (i : Int) (e : Ending) (w' : World) : Prop :=
  (e = .returned (.bool false) ∧ H0 w0 w' l) ∨ (e = .returned (.bool true) ∧ ∃ D' d, NodePut D D' d ∧ d.id = i ∧ d.named = 0 ∧ d.fr = 0 ∧ d.tail.size ≤ 1000 ∧ H0 w0 w' (dfR db nb eb D' E next l))
set_option maxHeartbeats 4000000 in
theorem readNode_any (hR : Ready8 w0) (h : H0 w0 w (dfR db nb eb D E next l)) (hn : (D.map DN.id).Nodup) (hD : D.length ≤ 1000) (i : Int) (hi : WfI i) (s : ByteArray) (hs : s.size ≤ 1000) :
    Calls Tryz.prog 117 #[.pointer (some ⟨db, 0, none⟩), .int .i64 i, .string s] w (NdEnd w0 db nb eb D E next l i) := by
  by_cases h0 : s.size = 0
  · have hne : (s.toList == ([] : List UInt8)) = true := by
      have : s.toList = [] := by rw [Lib.toList_data]; exact List.eq_nil_of_length_eq_zero (by rw [← Lib.size_eq]; exact h0)
      rw [this]; rfl
    have H1 := hide h
    clear h h0 hs hi hn hR
    go_enter Tryz.func117, Tryz.ntmps117
    go_wp2_with fail
    go_ret
    exact .inl ⟨rfl, df_forget (unhide H1)⟩
  have hne : (s.toList == ([] : List UInt8)) = false := by
    cases hx : (s.toList == ([] : List UInt8)) with
    | false => rfl
    | true =>
      exfalso
      have h1 : s.toList = [] := by simpa using hx
      rw [Lib.toList_data] at h1
      exact h0 (by rw [Lib.size_eq, h1]; rfl)
  have hc := fun wx hx => cutNumber_any (s.extract 1 s.size) (by rw [ByteArray.size_extract]; omega) wx hx
  have hq : (s.extract 1 s.size).size ≤ 1000 := by rw [ByteArray.size_extract]; omega
  have hz1 : (1 : Int) ≤ (s.size : Int) := by omega
  have HC := hide hc
  have H1 := hide h
  have HN := hide hn
  have Hi1 := hide hi
  have HR := hide hR
  have HQ := hide hq
  clear hc h hi hn h0 hs hR hq
  go_enter Tryz.func117, Tryz.ntmps117
  go_wp2_with fail
  refine (unhide HC _ ((unhide HR).later (H0.below (unhide H1)))).mono ?_
  rintro e w2 ⟨up, tail, ok, rfl, hwu, htl, hb⟩
  have h3 : H0 w0 w2 (dfR db nb eb D E next l) := H0.step (unhide H1) hb
  obtain ⟨c0, c1, c2, c3⟩ := df_cells h3
  obtain ⟨w5, D', hput, hnp, h5⟩ := df_put (Hold.drew h3) (unhide HN) hD ⟨w2.heap.size, i, s.extract 0 1, up, tail, 0, 0⟩ (unhide Hi1) (by simp)
  have hput' : Sem.run Tryz.prog (Instr.mapUpdate 116 (.map (some nb)) (.int .i64 i) (.pointer (some ⟨w2.heap.size, 0, none⟩))) (w2.alloc (.cells #[.string (s.extract 0 1), .int .i64 up, .string tail, .int .i64 0, .int .i64 0] 170)).drew = .ok () w5 := hput
  have H5 := hide h5
  have HP := hide hnp
  have HT := hide (Nat.le_trans htl (unhide HQ))
  clear h5 h3 hput hb HC H1 c1 c2 c3 hnp htl hwu HQ HN Hi1
  have c0a : ∀ o, (w2.alloc o).cell? ⟨db, 0, none⟩ = some (.map (some nb)) := fun o => Lib.cell?_alloc_some o c0
  go_wp2_with fail
  go_region
  all_goals
    go_wp2_with fail
    go_ret
    cases ok with
    | false => exact .inl ⟨rfl, df_forget (unhide H5)⟩
    | true => exact .inr ⟨rfl, D', _, unhide HP, rfl, rfl, rfl, unhide HT, unhide H5⟩
def EnEnd (w0 : World) (db nb eb : Nat) (D : List DN) (E : List DE) (next : Int) (l : List Res) (i : Int) (e : Ending) (w' : World) : Prop :=
  (e = .returned (.bool false) ∧ H0 w0 w' l) ∨ (e = .returned (.bool true) ∧ ∃ E' it, EntAdd E E' i it ∧ it.key = keyS it.name ∧ checkP it.name = none ∧ WfI it.node ∧ H0 w0 w' (dfR db nb eb D E' next l))
set_option maxHeartbeats 8000000 in
theorem readEntry_any (hR : Ready8 w0) (h : H0 w0 w (dfR db nb eb D E next l)) (hf : (E.map DE.folder).Nodup) (hE : E.length ≤ 1000) (hI : ∀ e ∈ E, e.items.length ≤ 1000) (i : Int) (hi : WfI i) (s : ByteArray) (hs : s.size ≤ 1000) :
    Calls Tryz.prog 118 #[.pointer (some ⟨db, 0, none⟩), .int .i64 i, .string s] w (EnEnd w0 db nb eb D E next l i) := by
  have hcn := fun wx hx => cutNumber_any s (by omega) wx hx
  have HK : Hid (∀ (nm : ByteArray), nm.size ≤ s.size → ∀ wx l, H0 w0 wx l → Calls Tryz.prog 17 #[.string nm] wx fun e w' => ((checkP nm = none ∧ e = .returned .nilIface) ∨ ∃ k, e = .returned (.iface 86 (.int .i64 k))) ∧ H0 w0 w' l) := fun nm hnm wx l hx =>
    (check_spec nm wx (H0.ready hR.r hx) (by omega)).mono fun e w' ⟨he, hb⟩ => ⟨by
      cases hc : checkP nm with
      | none => rw [hc] at he; exact .inl ⟨rfl, he⟩
      | some k => rw [hc] at he; exact .inr ⟨k, he⟩, H0.step hx hb⟩
  have HC := hide hcn
  have H1 := hide h
  have HF := hide hf
  have HE := hide hE
  have HI := hide hI
  have Hi := hide hi
  have HR := hide hR
  clear hcn h hf hE hI hi hs hR
  go_enter Tryz.func118, Tryz.ntmps118
  go_wp2_with fail
  refine (unhide HC _ ((unhide HR).later (H0.below (unhide H1)))).mono ?_
  rintro e w2 ⟨d, nm, ok, rfl, hwd, hnm, hb⟩
  have h3 : H0 w0 w2 (dfR db nb eb D E next l) := H0.step (unhide H1) hb
  obtain ⟨c0, c1, c2, c3⟩ := df_cells h3
  obtain ⟨v, v', w5, w6, ⟨pv, nv, cv, hsl⟩, hat, hap, c5, hup, E', hadd, h6⟩ := df_ent (Hold.drew h3) (unhide HF) (unhide HE) (unhide HI) i (unhide Hi) ⟨keyS nm, nm, d⟩
  have hl1 := P.look117 (Hold.sat (Hold.drew h3) (.obj eb (P.IsMapP (E.map DE.pv))) (by simp [dfR])) (unhide Hi)
  have h3a : H0 w0 (w2.alloc (.cells #[.string nm, .int .i64 d] 38)).drew (dfR db nb eb D E next l) := Hold.drew (H0.step h3 ((Below.refl _ w2).alloc (Nat.le_refl _) _))
  have hl2 := P.look117 (Hold.sat h3a (.obj eb (P.IsMapP (E.map DE.pv))) (by simp [dfR])) (unhide Hi)
  rw [hat] at hl1 hl2
  subst hsl
  have hap' : Sem.run Tryz.prog (Builtin.append_ #[30, 30] 30 #[.slice pv nv cv, .slice (some ⟨w2.heap.size, 0, none⟩) 1 1]) (w2.alloc (.cells #[.string nm, .int .i64 d] 38)).drew = .ok v' w5 := hap
  have c1a : ∀ o, (w2.alloc o).cell? ⟨db, 1, none⟩ = some (.map (some eb)) := fun o => Lib.cell?_alloc_some o c1
  have H6 := hide h6
  have Hadd := hide hadd
  have Hwd := hide hwd
  have HK2 := hide (unhide HK nm hnm)
  clear h6 hadd h3 h3a hap hb HC H1 c0 c2 c3 hat HF HE HI Hi hwd hnm HK HR
  have c6 : w6.cell? ⟨db, 1, none⟩ = some (.map (some eb)) := (df_cells (unhide H6)).2.1
  have e1 : w2.drew.cell? ⟨db, 1, none⟩ = some (.map (some eb)) := c1
  go_wp2_with fail
  go_region_held_law (fun w' => w'.cell? ⟨db, 1, none⟩ = some (.map (some eb))) (first | assumption | exact c1 | go_keep) (refine step_append_runI rfl _ _ 30 30 rfl (.slice pv nv cv) (.slice (some ⟨w2.heap.size, 0, none⟩) 1 1) (by simp [Act.eval, Act.put]) (by simp [Act.eval, Act.put]) hap' ?_)
  all_goals
    cases ok with
    | false =>
      go_wp2_with fail
      go_ret
      exact .inl ⟨rfl, df_forget (unhide H6)⟩
    | true =>
      go_wp2_with fail
      refine (unhide HK2 _ _ (unhide H6)).mono ?_
      rintro e w7 ⟨⟨hck, rfl⟩ | ⟨k, rfl⟩, h7⟩
      · have H7 := hide h7
        have Hck := hide hck
        clear h7 hck
        go_wp2_with fail
        go_ret
        exact .inr ⟨rfl, E', _, unhide Hadd, rfl, unhide Hck, unhide Hwd, unhide H7⟩
      · have H7 := hide h7
        clear h7
        go_wp2_with fail
        go_ret
        exact .inl ⟨rfl, df_forget (unhide H7)⟩
structure DOk (D : List DN) (E : List DE) (ne m : Nat) : Prop where
  di : (D.map DN.id).Nodup
  dw : ∀ d ∈ D, WfI d.id ∧ d.named = 0 ∧ d.fr = 0 ∧ d.tail.size ≤ 1000
  ef : (E.map DE.folder).Nodup
  ew : ∀ e ∈ E, WfI e.folder ∧ ∀ x ∈ e.items, x.key = keyS x.name ∧ checkP x.name = none ∧ WfI x.node
  cnt : (tagsOf E).length = ne
  few : D.length + ne ≤ m
  el : E.length ≤ ne
theorem DOk.more {ne m m' : Nat} (h : DOk D E ne m) (hm : m ≤ m') : DOk D E ne m' := ⟨h.di, h.dw, h.ef, h.ew, h.cnt, Nat.le_trans h.few hm, h.el⟩
theorem DOk.node {D' : List DN} {d : DN} {ne m : Nat} (h : DOk D E ne m) (hp : NodePut D D' d) (hi : WfI d.id) (h1 : d.named = 0) (h2 : d.fr = 0) (h3 : d.tail.size ≤ 1000) : DOk D' E ne (m + 1) := by
  have hf := h.few
  rcases hp with ⟨hn, rfl⟩ | ⟨D1, d0, D2, rfl, e0, rfl⟩
  · refine ⟨?_, fun x hx => ?_, h.ef, h.ew, h.cnt, by rw [List.length_append]; simp; omega, h.el⟩
    · rw [List.map_append, List.nodup_append]
      exact ⟨h.di, by simp, fun a ha b hb e => by simp at hb; subst hb; subst e; exact hn ha⟩
    · rcases List.mem_append.1 hx with hx | hx
      · exact h.dw x hx
      · rw [List.mem_singleton.1 hx]; exact ⟨hi, h1, h2, h3⟩
  · refine ⟨?_, fun x hx => ?_, h.ef, h.ew, h.cnt, by simp at hf ⊢; omega, h.el⟩
    · have := h.di
      simp only [List.map_append, List.map_cons] at this ⊢
      rw [← e0]; exact this
    · rcases List.mem_append.1 hx with hx | hx
      · exact h.dw x (by simp [hx])
      · rcases List.mem_cons.1 hx with rfl | hx
        · exact ⟨hi, h1, h2, h3⟩
        · exact h.dw x (by simp [hx])
theorem tagE_len (i : Int) (L : List Item) : (tagE i L).length = L.length := by simp [tagE]
theorem tags_app (A B : List DE) : tagsOf (A ++ B) = tagsOf A ++ tagsOf B := by simp [tagsOf]
theorem tags_one (e : DE) (B : List DE) : tagsOf (e :: B) = tagE e.folder e.items ++ tagsOf B := rfl
theorem items_few {e : DE} (he : e ∈ E) : e.items.length ≤ (tagsOf E).length := by
  obtain ⟨E1, E2, rfl⟩ := List.append_of_mem he
  rw [tags_app, tags_one]
  simp only [List.length_append, tagE_len]
  omega
theorem DOk.ent {E' : List DE} {i : Int} {it : Item} {ne m : Nat} (h : DOk D E ne m) (ha : EntAdd E E' i it) (hi : WfI i) (h1 : it.key = keyS it.name) (h2 : checkP it.name = none) (h3 : WfI it.node) : DOk D E' (ne + 1) (m + 1) := by
  have hf := h.few
  have hc := h.cnt
  have hl := h.el
  rcases ha with ⟨hn, v', rfl⟩ | ⟨E1, e, E2, v', rfl, e0, rfl⟩
  · refine ⟨h.di, h.dw, ?_, fun x hx => ?_, ?_, by omega, by rw [List.length_append]; simp; omega⟩
    · rw [List.map_append, List.nodup_append]
      exact ⟨h.ef, by simp, fun a ha b hb e => by simp at hb; subst hb; subst e; exact hn ha⟩
    · rcases List.mem_append.1 hx with hx | hx
      · exact h.ew x hx
      · rw [List.mem_singleton.1 hx]
        exact ⟨hi, fun y hy => by rw [List.mem_singleton.1 hy]; exact ⟨h1, h2, h3⟩⟩
    · rw [tags_app, List.length_append, tags_one, hc]
      simp [tagE, tagsOf]
  · refine ⟨h.di, h.dw, ?_, fun x hx => ?_, ?_, by omega, by simp at hl ⊢; omega⟩
    · have := h.ef
      simp only [List.map_append, List.map_cons] at this ⊢
      rw [← e0]; exact this
    · rcases List.mem_append.1 hx with hx | hx
      · exact h.ew x (by simp [hx])
      · rcases List.mem_cons.1 hx with rfl | hx
        · refine ⟨hi, fun y hy => ?_⟩
          rcases List.mem_append.1 hy with hy | hy
          · exact (h.ew e (by simp)).2 y hy
          · rw [List.mem_singleton.1 hy]; exact ⟨h1, h2, h3⟩
        · exact h.ew x (by simp [hx])
    · rw [tags_app, tags_one, List.length_append, List.length_append, tagE_len] at hc ⊢
      simp only [List.length_append, List.length_cons, List.length_nil]
      omega
def isE (c : CH) : Bool := Lib.hasPrefix c.key.data.toList [101]
def RdEnd (w0 : World) (db nb eb : Nat) (l : List Res) (ne m : Nat) (e : Ending) (w' : World) : Prop :=
  (e = .returned (.bool false) ∧ H0 w0 w' l) ∨ (e = .returned (.bool true) ∧ ∃ D' E' next', DOk D' E' ne m ∧ H0 w0 w' (dfR db nb eb D' E' next' l))
set_option maxHeartbeats 8000000 in
theorem read_any (hR : Ready8 w0) (h : H0 w0 w (dfR db nb eb D E next l)) {ne m : Nat} (hok : DOk D E ne m) (hm : m ≤ 1000) (c : CH) (hck : c.key.size ≤ 1000) (hcv : c.val.size ≤ 1000) :
    Calls Tryz.prog 77 #[.pointer (some ⟨db, 0, none⟩), .agg #[.string c.key, .string c.val, .bool c.gone]] w (RdEnd w0 db nb eb l (ne + if isE c then 1 else 0) (m + 1)) := by
  obtain ⟨sk, sv, g⟩ := c
  simp only at hck hcv ⊢
  obtain ⟨kx, hkx⟩ : ∃ kx, (ne + if isE ⟨sk, sv, g⟩ then 1 else 0) = kx := ⟨_, rfl⟩
  rw [hkx]
  have hDl : D.length ≤ 1000 := by have := hok.few; omega
  have hEl : E.length ≤ 1000 := by have := hok.few; have := hok.el; omega
  have hIl : ∀ e ∈ E, e.items.length ≤ 1000 := fun e he => by have := items_few he; have := hok.few; have := hok.cnt; omega
  have hat := fun wx hx => atoi_any sv (by omega) wx hx
  have hcn := fun wx => cut_any sk ⟨#[110]⟩ wx
  have hce := fun wx => cut_any sk ⟨#[101]⟩ wx
  have hnum := fun (r : ByteArray) (hr : r.size ≤ sk.size) wx hx => cutNumber_any r (by omega) wx hx
  have hrn := fun (wx : World) (lx : List Res) (hx : H0 w0 wx (dfR db nb eb D E next lx)) (i : Int) (hi : WfI i) => readNode_any hR hx hok.di hDl i hi sv hcv
  have hre := fun (wx : World) (lx : List Res) (hx : H0 w0 wx (dfR db nb eb D E next lx)) (i : Int) (hi : WfI i) => readEntry_any hR hx hok.ef hEl hIl i hi sv hcv
  obtain ⟨B, hB⟩ : ∃ B, w.heap.size = B := ⟨_, rfl⟩
  have h1 := df_push (Hold.made h (H0.below h).size 69 [.string sk, .string sv, .bool g])
  rw [hB] at h1
  obtain ⟨w1, hw1⟩ : ∃ w1, w.alloc (.cells [.string sk, .string sv, .bool g].toArray 69) = w1 := ⟨_, rfl⟩
  rw [hw1] at h1
  have hw1' : w.alloc (.cells #[.string sk, .string sv, .bool g] 69) = w1 := hw1
  obtain ⟨b0, b1⟩ := box_cells h1
  have HA := hide hat
  have HC := hide hcn
  have HCe := hide hce
  have HN := hide hnum
  have HRn := hide hrn
  have HRe := hide hre
  have HR := hide hR
  have H1 := hide h1
  have HO := hide hok
  clear hat hcn hce hnum hrn hre h h1 hw1 hR hok hck hcv hDl hEl hIl hm
  by_cases hx120 : (sk.toList == [120]) = true
  · have hnE : isE ⟨sk, sv, g⟩ = false := by
      have : sk.data.toList = [120] := by rw [← Lib.toList_data]; simpa using hx120
      unfold isE
      simp only [this]
      rfl
    rw [hnE] at hkx
    have hkx : ne = kx := hkx
    subst hkx
    clear HC HCe HN HRn HRe
    go_enter Tryz.func77, Tryz.ntmps77
    go_wp2_with fail
    refine (unhide HA _ ((unhide HR).later (H0.below (unhide H1)))).mono ?_
    rintro e w2 ⟨v, er, rfl, her, hb⟩
    have h3 := H0.step (unhide H1) hb
    obtain ⟨c0, c1, c2, c3⟩ := df_cells h3
    have H4 := hide (df_pop (df_next h3 v))
    clear h3 hb HA H1 b0 b1
    rcases her with ⟨rfl, _⟩ | ⟨t, p, rfl⟩
    · go_wp2_with fail
      go_ret
      exact .inr ⟨rfl, D, E, v, (unhide HO).more (by omega), unhide H4⟩
    · go_wp2_with fail
      go_ret
      exact .inl ⟨rfl, df_forget (unhide H4)⟩
  · have hx120 : (sk.toList == [120]) = false := by simpa using hx120
    clear HA
    go_enter Tryz.func77, Tryz.ntmps77
    go_wp2_with fail
    refine (unhide HC _).mono ?_
    rintro e w2 ⟨r, rfl, hr, hw2⟩
    have hw2 := hw2.symm
    subst hw2
    cases hpn : Lib.hasPrefix sk.data.toList [110] with
    | true =>
      have hnE : isE ⟨sk, sv, g⟩ = false := by
        unfold isE
        simp only
        cases hl : sk.data.toList with
        | nil => rfl
        | cons x t =>
          rw [hl] at hpn
          unfold Lib.hasPrefix at hpn ⊢
          simp [List.isPrefixOf] at hpn ⊢
          rw [← hpn]; decide
      rw [hnE] at hkx
      have hkx : ne = kx := hkx
      subst hkx
      have HN2 := hide (unhide HN r hr)
      clear HCe HRe HN hr hpn
      go_wp2_with fail
      refine (unhide HN2 _ ((unhide HR).later (H0.below (unhide H1)))).mono ?_
      rintro e w3 ⟨n, rest, ok, rfl, hwn, _, hb⟩
      have h3 := H0.step (unhide H1) hb
      obtain ⟨b2, b3⟩ := box_cells h3
      have hr3 := unhide HRn _ _ h3 n hwn
      have HR3 := hide hr3
      have H3 := hide h3
      have Hwn := hide hwn
      clear h3 hb HN2 HRn hr3 b0 b1 hwn
      cases ok with
      | false =>
        go_wp2_with fail
        go_ret
        exact .inl ⟨rfl, df_forget (df_pop (unhide H3))⟩
      | true =>
        go_wp2_with fail
        refine (unhide HR3).mono ?_
        rintro e w4 (⟨rfl, h4⟩ | ⟨rfl, D', d, hnp, hdi, hd1, hd2, hd3, h4⟩)
        · have H4 := hide (Hold.forget [] h4)
          clear h4 HR3 H1
          go_wp2_with fail
          go_ret
          exact .inl ⟨rfl, unhide H4⟩
        · have H4 := hide (df_pop h4)
          have HO2 := hide ((unhide HO).node hnp (by rw [hdi]; exact unhide Hwn) hd1 hd2 hd3)
          clear h4 HR3 H1 hnp hdi hd1 hd2 hd3
          go_wp2_with fail
          go_ret
          exact .inr ⟨rfl, D', E, next, unhide HO2, unhide H4⟩
    | false =>
      clear HRn hpn
      go_wp2_with fail
      refine (unhide HCe _).mono ?_
      rintro e w2 ⟨r2, rfl, hr2, hw2⟩
      have hw2 := hw2.symm
      subst hw2
      cases hpe : Lib.hasPrefix sk.data.toList [101] with
      | false =>
        clear HN HRe hr hr2
        go_wp2_with fail
        go_ret
        exact .inl ⟨rfl, df_forget (df_pop (unhide H1))⟩
      | true =>
        have hnE : isE ⟨sk, sv, g⟩ = true := hpe
        rw [hnE] at hkx
        have hkx : ne + 1 = kx := hkx
        subst hkx
        have HN2 := hide (unhide HN r2 hr2)
        clear HN hr hpe hr2
        go_wp2_with fail
        refine (unhide HN2 _ ((unhide HR).later (H0.below (unhide H1)))).mono ?_
        rintro e w3 ⟨n, rest, ok, rfl, hwn, _, hb⟩
        have h3 := H0.step (unhide H1) hb
        obtain ⟨b2, b3⟩ := box_cells h3
        have hr3 := unhide HRe _ _ h3 n hwn
        have HR3 := hide hr3
        have H3 := hide h3
        have Hwn := hide hwn
        clear h3 hb HN2 HRe hr3 b0 b1 hwn
        cases ok with
        | false =>
          go_wp2_with fail
          go_ret
          exact .inl ⟨rfl, df_forget (df_pop (unhide H3))⟩
        | true =>
          go_wp2_with fail
          refine (unhide HR3).mono ?_
          rintro e w4 (⟨rfl, h4⟩ | ⟨rfl, E', it, hadd, hi1, hi2, hi3, h4⟩)
          · have H4 := hide (Hold.forget [] h4)
            clear h4 HR3 H1
            go_wp2_with fail
            go_ret
            exact .inl ⟨rfl, unhide H4⟩
          · have H4 := hide (df_pop h4)
            have HO2 := hide ((unhide HO).ent hadd (unhide Hwn) hi1 hi2 hi3)
            clear h4 HR3 H1 hadd hi1 hi2 hi3
            go_wp2_with fail
            go_ret
            exact .inr ⟨rfl, D, E', next, unhide HO2, unhide H4⟩
end Go.Proofs.YtjpmomklkkifjaaGreatDoor.T.J
