/-
  What each deed leaves of the nodes and trees that were: no number gets another kind, and no folder more than one entry more; what is refused changes nothing. The contract of done, with what it leaves: an act upon folders and files; whatever it is, all goes together behind it. The contracts of FS.List, upon a folder, and of in. Who lists bit by bit: what is kept from part to part. Plain facts; and an append of entries beside folders and files. What Rows leans on: a node, an entry as a row; one row more beside folders and files.
-/
import Derived.Test.YtjpmomklkkifjaaGreatDoorCFDone
import Derived.Test.YtjpmomklkkifjaaGreatDoorCISort
import Derived.Test.YtjpmomklkkifjaaGreatDoorCIRowP
import Derived.Test.YtjpmomklkkifjaaGreatDoorCINode
import Derived.Test.YtjpmomklkkifjaaGreatDoorCIEntry
namespace Go.Proofs.YtjpmomklkkifjaaGreatDoor.T
open Go.RowKit
set_option maxRecDepth 100000
set_option linter.unusedVariables false
set_option linter.unusedSimpArgs false

def LeT (n : Nat) (F F' : Forest) : Prop := ∀ tb, tb ∈ F.map (·.1) → ∀ key, (afterL (lookF F' tb) key).length ≤ (afterL (lookF F tb) key).length + n
structure StepOk (N : List NV) (F : Forest) (next : Int) (N' : List NV) (F' : Forest) (next' : Int) : Prop where
  node : ∀ v' ∈ N', v'.id < next → ∃ v ∈ N, v.id = v'.id ∧ v.kind = v'.kind ∧ v.tb = v'.tb
  tree : LeT 1 F F'
  next : next ≤ next'
variable {k : Nat} {N : List NV} {F : Forest} {next : Int}
theorem LeT.refl (F : Forest) : LeT 0 F F := fun _ _ _ => Nat.le_refl _
theorem LeT.mono {n m : Nat} {F F' : Forest} (h : LeT n F F') (hm : n ≤ m) : LeT m F F' := fun tb ht key => by have := h tb ht key; omega
theorem LeT.trans {n m : Nat} {F F' F'' : Forest} (h : LeT n F F') (h2 : LeT m F' F'') (hk : F'.map (·.1) = F.map (·.1)) : LeT (n + m) F F'' := fun tb ht key => by
  have a := h tb ht key
  have b := h2 tb (by rw [hk]; exact ht) key
  omega
theorem after_put (it : Item) (key : ByteArray) : ∀ L : List Item, (afterL (putL L it) key).length ≤ (afterL L key).length + 1
  | [] => by
    unfold putL afterL
    rw [List.filter_cons]
    split <;> simp
  | x :: L => by
    have ih := after_put it key L
    unfold putL
    split
    · unfold afterL
      rw [List.filter_cons]
      split
      · simp
      · omega
    split
    · rename_i h
      unfold afterL
      rw [List.filter_cons, List.filter_cons, h]
      split <;> simp
    · unfold afterL at ih ⊢
      rw [List.filter_cons, List.filter_cons]
      split
      · simp only [List.length_cons]; omega
      · omega
theorem after_drop (L : List Item) (k2 key : ByteArray) : (afterL (dropL L k2) key).length ≤ (afterL L key).length := by
  unfold afterL dropL
  exact (List.Sublist.filter _ List.filter_sublist).length_le
theorem leT_put {tb : Nat} (ht : tb ∈ F.map (·.1)) (it : Item) : LeT 1 F (putF F tb it) := fun t h key => by
  unfold putF
  by_cases e : t = tb
  · subst e; rw [lookF_set _ _ _ h]; exact after_put it key _
  · rw [lookF_set_other _ _ _ _ e]; omega
theorem leT_drop {tb : Nat} (ht : tb ∈ F.map (·.1)) (k2 : ByteArray) : LeT 0 F (dropF F tb k2) := fun t h key => by
  rw [drop_look F tb t k2 ht]
  split
  · rename_i e; subst e; exact after_drop _ _ _
  · omega
theorem dropF_keys (F : Forest) (tb : Nat) (k2 : ByteArray) : (dropF F tb k2).map (·.1) = F.map (·.1) := setF_keys _ _ _
def SubN (N N' : List NV) : Prop := ∀ v' ∈ N', ∃ v ∈ N, v.id = v'.id ∧ v.kind = v'.kind ∧ v.tb = v'.tb
theorem SubN.refl (N : List NV) : SubN N N := fun v hv => ⟨v, hv, rfl, rfl, rfl⟩
theorem SubN.trans {A B C : List NV} (h : SubN A B) (h2 : SubN B C) : SubN A C := fun v hv => by
  obtain ⟨u, hu, e1, e2, e3⟩ := h2 v hv
  obtain ⟨x, hx, f1, f2, f3⟩ := h u hu
  exact ⟨x, hx, f1.trans e1, f2.trans e2, f3.trans e3⟩
theorem subN_put {v v' : NV} (hv : v ∈ N) (h1 : v.id = v'.id) (h2 : v.kind = v'.kind) (h3 : v.tb = v'.tb) : SubN N (putN N v') := fun x hx => by
  rcases mem_putN_iff.1 hx with rfl | ⟨hx, _⟩
  · exact ⟨v, hv, h1, h2, h3⟩
  · exact ⟨x, hx, rfl, rfl, rfl⟩
theorem atN_or (N : List NV) (i : Int) : atN N i ∈ N ∨ atN N i = NV.zero := by
  unfold atN
  cases h : findN N i with
  | none => exact .inr rfl
  | some v => exact .inl (findN_some h).1
theorem subN_unlink (i : Int) : SubN N (unlinkN N i) := by
  unfold unlinkN
  split
  · exact fun x hx => ⟨x, (mem_delN_iff.1 hx).1, rfl, rfl, rfl⟩
  · rename_i h
    rcases atN_or N i with h1 | h1
    · exact subN_put (v' := { atN N i with links := (atN N i).links - 1 }) h1 rfl rfl rfl
    · rw [h1] at h; exact absurd (by decide) h
theorem subN_move (i up : Int) : SubN N (moveN N i up) := by
  unfold moveN
  split
  · rename_i h
    rcases atN_or N i with h1 | h1
    · exact subN_put (v' := { atN N i with up := up }) h1 rfl rfl rfl
    · rw [h1] at h; exact absurd h (by decide)
  · exact SubN.refl N
theorem StepOk.of {N' : List NV} {F' : Forest} (h1 : SubN N N') (h2 : LeT 1 F F') : StepOk N F next N' F' next := ⟨fun v hv _ => h1 v hv, h2, Int.le_refl _⟩
theorem StepOk.refl : StepOk N F next N F next := .of (SubN.refl N) ((LeT.refl F).mono (by omega))
theorem step_new {v : NV} {F' : Forest} (hv : v.id = next) (h2 : LeT 1 F F') : StepOk N F next (putN N v) F' (next + 1) := by
  refine ⟨fun x hx hlt => ?_, h2, by omega⟩
  rcases mem_putN_iff.1 hx with rfl | ⟨hx, _⟩
  · omega
  · exact ⟨x, hx, rfl, rfl, rfl⟩
theorem leT_new {p tb : Nat} (ht : tb ∉ F.map (·.1)) (hp : p ∈ F.map (·.1)) (it : Item) : LeT 1 F (putF ((tb, []) :: F) p it) := fun t h key => by
  have hne : tb ≠ t := fun e => ht (by rw [e]; exact h)
  have := leT_put (F := (tb, []) :: F) (tb := p) (List.mem_cons_of_mem _ hp) it t (List.mem_cons_of_mem _ h) key
  rw [lookF_cons_ne hne] at this
  exact this
theorem link_step (hF : Fits N F next) (s t : ByteArray) : StepOk N F next (linkP N F s t).2.1 (linkP N F s t).2.2 next ∧ ((linkP N F s t).1 = none ∨ (linkP N F s t).2.1 = N ∧ (linkP N F s t).2.2 = F) := by
  unfold linkP
  split
  · exact ⟨.refl, .inr ⟨rfl, rfl⟩⟩
  rename_i v hv
  split
  · exact ⟨.refl, .inr ⟨rfl, rfl⟩⟩
  rename_i p hp
  exact ⟨.of (subN_put (v' := { v with links := v.links + 1 }) (fileP_in hv).1 rfl rfl rfl) (leT_put (freeP_ok hF hp).1.tbs.2 _), .inl rfl⟩
theorem write_step (s t : ByteArray) : StepOk N F next (writeP N F s t).2 F next ∧ ((writeP N F s t).1 = none ∨ (writeP N F s t).2 = N) := by
  unfold writeP
  split
  · exact ⟨.refl, .inr rfl⟩
  split
  · exact ⟨.refl, .inr rfl⟩
  · rename_i v hv
    exact ⟨.of (subN_put (v' := { v with text := t }) (fileP_in hv).1 rfl rfl rfl) ((LeT.refl F).mono (by omega)), .inl rfl⟩
theorem remove_step (hF : Fits N F next) (s : ByteArray) (folder : Bool) : StepOk N F next (removeP N F s folder).2.1 (removeP N F s folder).2.2 next ∧ ((removeP N F s folder).1 = none ∨ (removeP N F s folder).2.1 = N ∧ (removeP N F s folder).2.2 = F) := by
  unfold removeP
  split
  · exact ⟨.refl, .inr ⟨rfl, rfl⟩⟩
  rename_i p it hp
  split
  · exact ⟨.refl, .inr ⟨rfl, rfl⟩⟩
  · exact ⟨.of (subN_unlink _) ((leT_drop (takenP_ok hF hp).1.tbs.2 _).mono (by omega)), .inl rfl⟩
theorem moved_step {p g : PL} (hp : p.tb ∈ F.map (·.1)) (hg : g.tb ∈ F.map (·.1)) (i : Int) : StepOk N F next (movedP N F p g i).2.1 (movedP N F p g i).2.2 next := by
  unfold movedP
  refine .of (subN_move _ _) ?_
  exact ((leT_drop hp p.key).trans (leT_put (F := dropF F p.tb p.key) (by rw [dropF_keys]; exact hg) _) (dropF_keys _ _ _)).mono (by omega)
theorem rename_step (hF : Fits N F next) (s t : ByteArray) : StepOk N F next (renameP N F s t).2.1 (renameP N F s t).2.2 next ∧ ((renameP N F s t).1 = none ∨ (renameP N F s t).2.1 = N ∧ (renameP N F s t).2.2 = F) := by
  unfold renameP
  split
  · exact ⟨.refl, .inr ⟨rfl, rfl⟩⟩
  rename_i p it hp
  split
  · exact ⟨.refl, .inr ⟨rfl, rfl⟩⟩
  rename_i g hg
  have hpt := (takenP_ok hF hp).1.tbs
  have hgt := (placeP_ok hF hg).tbs
  unfold goesP
  split
  · exact ⟨.refl, .inr ⟨rfl, rfl⟩⟩
  split
  · exact ⟨moved_step hpt.2 hgt.2 _, .inl rfl⟩
  split
  · exact ⟨moved_step hpt.2 hgt.2 _, .inl rfl⟩
  split
  · exact ⟨.refl, .inl rfl⟩
  split
  · exact ⟨.refl, .inr ⟨rfl, rfl⟩⟩
  · rename_i o _ _ _ _ _
    have h1 := moved_step (N := unlinkN N o.node) (F := dropF F g.tb g.key) (next := next) (p := p) (g := g) (by rw [dropF_keys]; exact hpt.2) (by rw [dropF_keys]; exact hgt.2) it.node
    refine ⟨.of ?_ ?_, .inl rfl⟩
    · exact (subN_unlink o.node).trans (subN_move _ _)
    · exact ((leT_drop hgt.2 g.key).trans h1.tree (dropF_keys _ _ _)).mono (by omega)

def GoodEnd2 (N : List NV) (F : Forest) (next : Int) (w0 : World) (fb mb : Nat) (l2 : List Res) (k : Nat) (e : Ending) (w' : World) : Prop := ∃ o N' F' next', e = .returned (errV o) ∧ FSIn w0 w' fb mb N' F' next' l2 ∧ Good k N' F' next' ∧ StepOk N F next N' F' next' ∧ (o = none ∨ N' = N ∧ F' = F ∧ next' = next)
variable {w0 w : World} {fb mb : Nat} {l2 : List Res}
theorem mkdir_good2 (hR : Ready w0) (h : FSIn w0 w fb mb N F next l2) (hG : Good k N F next) (hk : k < 800) (s : ByteArray) (hs : s.size ≤ 4000000000) :
    Calls Tryz.prog 24 #[.pointer (some ⟨fb, 0, none⟩), .string s] w fun e w' => GoodEnd2 N F next w0 fb mb l2 (k + 1) e w' := by
  refine (mkdir_calls w0 w fb mb N F next l2 hR h hG.fits s hs).mono ?_
  intro e w' hE
  unfold AddFolderEnd at hE
  split at hE
  · exact ⟨some _, N, F, next, hE.1, hE.2, hG.mono (by omega), .refl, .inr ⟨rfl, rfl, rfl⟩⟩
  rename_i p hp
  split at hE
  · exact ⟨some 9, N, F, next, hE.1, hE.2, hG.mono (by omega), .refl, .inr ⟨rfl, rfl, rfl⟩⟩
  · rename_i hfull
    obtain ⟨he, tb, hI⟩ := hE
    exact ⟨none, _, _, _, he, hI, hG.addFolder hk (freeP_ok hG.fits hp) (by omega) (by omega) (fresh_of (G := F) hI), step_new rfl (leT_new (fresh_of (G := F) hI) (freeP_ok hG.fits hp).1.tbs.2 _), .inl rfl⟩
theorem create_good2 (hR : Ready w0) (h : FSIn w0 w fb mb N F next l2) (hG : Good k N F next) (hk : k < 800) (s t : ByteArray) (hs : s.size ≤ 4000000000) (ht : t.size ≤ 4000000000) :
    Calls Tryz.prog 73 #[.pointer (some ⟨fb, 0, none⟩), .string s, .string t] w fun e w' => GoodEnd2 N F next w0 fb mb l2 (k + 1) e w' := by
  refine (create_calls w0 w fb mb N F next l2 hR h hG.fits s t hs ht).mono ?_
  rintro e w' (⟨_, h1, h2⟩ | ⟨h20, hE⟩)
  · exact ⟨some 2, N, F, next, h1, h2, hG.mono (by omega), .refl, .inr ⟨rfl, rfl, rfl⟩⟩
  unfold AddFileEnd at hE
  split at hE
  · exact ⟨some _, N, F, next, hE.1, hE.2, hG.mono (by omega), .refl, .inr ⟨rfl, rfl, rfl⟩⟩
  rename_i p hp
  split at hE
  · exact ⟨some 9, N, F, next, hE.1, hE.2, hG.mono (by omega), .refl, .inr ⟨rfl, rfl, rfl⟩⟩
  · rename_i hfull
    exact ⟨none, _, _, _, hE.1, hE.2, ⟨hG.goo.addFile hk (freeP_ok hG.fits hp).1 (by omega) (by omega) _, hG.whole.addFile (freeP_ok hG.fits hp).1 (freeP_ok hG.fits hp).2 h20⟩, step_new rfl (leT_put (freeP_ok hG.fits hp).1.tbs.2 _), .inl rfl⟩
theorem write_good2 (hR : Ready w0) (h : FSIn w0 w fb mb N F next l2) (hG : Good k N F next) (hk : k < 800) (s t : ByteArray) (hs : s.size ≤ 4000000000) (ht : t.size ≤ 4000000000) :
    Calls Tryz.prog 74 #[.pointer (some ⟨fb, 0, none⟩), .string s, .string t] w fun e w' => GoodEnd2 N F next w0 fb mb l2 (k + 1) e w' :=
  (write_calls w0 w fb mb N F next l2 hR h hG.fits s t hs ht).mono fun e w' hE => ⟨_, _, _, _, hE.1, hE.2, ⟨(hG.goo.write s t).mono (by omega), hG.whole.write s t⟩, (write_step s t).1, (write_step (next := next) s t).2.imp id fun h => ⟨h, rfl, rfl⟩⟩
theorem link_good2 (hR : Ready w0) (h : FSIn w0 w fb mb N F next l2) (hG : Good k N F next) (hk : k < 800) (s t : ByteArray) (hs : s.size ≤ 4000000000) (ht : t.size ≤ 4000000000) :
    Calls Tryz.prog 75 #[.pointer (some ⟨fb, 0, none⟩), .string s, .string t] w fun e w' => GoodEnd2 N F next w0 fb mb l2 (k + 1) e w' :=
  (link_calls w0 w fb mb N F next l2 hR h hG.fits (hG.million (by omega)) s t hs ht).mono fun e w' hE => ⟨_, _, _, _, hE.1, hE.2, ⟨hG.goo.link hk s t, hG.whole.link hG.fits s t⟩, (link_step hG.fits s t).1, (link_step hG.fits s t).2.imp id fun h => ⟨h.1, h.2, rfl⟩⟩
theorem remove_good2 (hR : Ready w0) (h : FSIn w0 w fb mb N F next l2) (hG : Good k N F next) (hk : k < 800) (s : ByteArray) (hs : s.size ≤ 4000000000) (folder : Bool) :
    Calls Tryz.prog 76 #[.pointer (some ⟨fb, 0, none⟩), .string s, .bool folder] w fun e w' => GoodEnd2 N F next w0 fb mb l2 (k + 1) e w' :=
  (remove_calls w0 w fb mb N F next l2 hR h hG.fits (hG.million (by omega)) s hs folder).mono fun e w' hE => ⟨_, _, _, _, hE.1, hE.2, ⟨(hG.goo.remove s folder).mono (by omega), hG.whole.remove hG.fits s folder⟩, (remove_step hG.fits s folder).1, (remove_step hG.fits s folder).2.imp id fun h => ⟨h.1, h.2, rfl⟩⟩
theorem rename_good2 (hR : Ready w0) (h : FSIn w0 w fb mb N F next l2) (hG : Good k N F next) (hk : k < 800) (s t : ByteArray) (hs : s.size ≤ 4000000000) (ht : t.size ≤ 4000000000) :
    Calls Tryz.prog 26 #[.pointer (some ⟨fb, 0, none⟩), .string s, .string t] w fun e w' => GoodEnd2 N F next w0 fb mb l2 (k + 1) e w' :=
  (rename_calls w0 w fb mb N F next l2 hR h hG.fits (hG.million (by omega)) s t hs ht).mono fun e w' hE => ⟨_, _, _, _, hE.1, hE.2, ⟨hG.goo.rename hk s t, hG.whole.rename hG.fits s t⟩, (rename_step hG.fits s t).1, (rename_step hG.fits s t).2.imp id fun h => ⟨h.1, h.2, rfl⟩⟩
end Go.Proofs.YtjpmomklkkifjaaGreatDoor.T
namespace Go.Proofs.YtjpmomklkkifjaaGreatDoor.T
open Go.RowKit
set_option maxRecDepth 100000
set_option linter.unusedVariables false
set_option linter.unusedSimpArgs false

set_option maxHeartbeats 4000000 in
theorem done_good2 {w0 w : World} {fb mb : Nat} {N : List NV} {F : Forest} {next : Int} {l2 : List Res} {k : Nat} (hR : Ready w0) (h : FSIn w0 w fb mb N F next l2) (hG : Good k N F next) (hk : k < 800) (a : ActD) (uk : Int) (cp : Option Addr) (cn cc : Nat) (hs : a.s.size ≤ 4000000000) (ht : a.t.size ≤ 4000000000) :
    Calls Tryz.prog 34 #[.pointer (some ⟨fb, 0, none⟩), .agg #[.string a.kind, .string a.s, .string a.t, .int .i64 a.n, .int .u64 uk, .slice cp cn cc]] w fun e w' => GoodEnd2 N F next w0 fb mb l2 (k + 1) e w' := by
  obtain ⟨B, hB⟩ : ∃ B, w.heap.size = B := ⟨_, rfl⟩
  have h1 := h.made 64 [.string a.kind, .string a.s, .string a.t, .int .i64 a.n, .int .u64 uk, .slice cp cn cc]
  rw [hB] at h1
  clear h
  obtain ⟨bm, hbm⟩ : ∃ bm, (a.kind.toList == [109, 107, 100, 105, 114]) = bm := ⟨_, rfl⟩
  obtain ⟨bc, hbc⟩ : ∃ bc, (a.kind.toList == [99, 114, 101, 97, 116, 101]) = bc := ⟨_, rfl⟩
  obtain ⟨bw, hbw⟩ : ∃ bw, (a.kind.toList == [119, 114, 105, 116, 101]) = bw := ⟨_, rfl⟩
  obtain ⟨bl, hbl⟩ : ∃ bl, (a.kind.toList == [108, 105, 110, 107]) = bl := ⟨_, rfl⟩
  obtain ⟨br, hbr⟩ : ∃ br, (a.kind.toList == [114, 109]) = br := ⟨_, rfl⟩
  obtain ⟨bd, hbd⟩ : ∃ bd, (a.kind.toList == [114, 109, 100, 105, 114]) = bd := ⟨_, rfl⟩
  obtain ⟨bv, hbv⟩ : ∃ bv, (a.kind.toList == [109, 118]) = bv := ⟨_, rfl⟩
  cases bm with
  | true =>
    have hc := mkdir_good2 hR h1 hG hk a.s hs
    have HC := hide hc
    clear hc h1 hG hR
    go_enter Tryz.func34, Tryz.ntmps34
    go_wp2_with fail
    refine (unhide HC).mono ?_
    rintro e w2 ⟨o, N', F', next', rfl, h2, hG2⟩
    obtain ⟨ov, hov⟩ : ∃ ov, errV o = ov := ⟨_, rfl⟩
    have H2 : Hid (GoodEnd2 N F next w0 fb mb l2 (k + 1) (.returned ov) w2) := by rw [← hov]; exact ⟨o, N', F', next', rfl, h2.forget [], hG2⟩
    have hovs : ∃ t v, ov = .iface t v ∨ ov = .nilIface := by
      rw [← hov]; cases o with
      | none => exact ⟨0, .nilIface, .inr rfl⟩
      | some k => exact ⟨_, _, .inl rfl⟩
    rw [hov]
    clear h2 hG2 HC hov
    go_wp2_with fail
    go_ret
    exact unhide H2
  | false =>
  cases bc with
  | true =>
    have hc := create_good2 hR h1 hG hk a.s a.t hs ht
    have HC := hide hc
    clear hc h1 hG hR
    go_enter Tryz.func34, Tryz.ntmps34
    go_wp2_with fail
    refine (unhide HC).mono ?_
    rintro e w2 ⟨o, N', F', next', rfl, h2, hG2⟩
    obtain ⟨ov, hov⟩ : ∃ ov, errV o = ov := ⟨_, rfl⟩
    have H2 : Hid (GoodEnd2 N F next w0 fb mb l2 (k + 1) (.returned ov) w2) := by rw [← hov]; exact ⟨o, N', F', next', rfl, h2.forget [], hG2⟩
    have hovs : ∃ t v, ov = .iface t v ∨ ov = .nilIface := by
      rw [← hov]; cases o with
      | none => exact ⟨0, .nilIface, .inr rfl⟩
      | some k => exact ⟨_, _, .inl rfl⟩
    rw [hov]
    clear h2 hG2 HC hov
    go_wp2_with fail
    go_ret
    exact unhide H2
  | false =>
  cases bw with
  | true =>
    have hc := write_good2 hR h1 hG hk a.s a.t hs ht
    have HC := hide hc
    clear hc h1 hG hR
    go_enter Tryz.func34, Tryz.ntmps34
    go_wp2_with fail
    refine (unhide HC).mono ?_
    rintro e w2 ⟨o, N', F', next', rfl, h2, hG2⟩
    obtain ⟨ov, hov⟩ : ∃ ov, errV o = ov := ⟨_, rfl⟩
    have H2 : Hid (GoodEnd2 N F next w0 fb mb l2 (k + 1) (.returned ov) w2) := by rw [← hov]; exact ⟨o, N', F', next', rfl, h2.forget [], hG2⟩
    have hovs : ∃ t v, ov = .iface t v ∨ ov = .nilIface := by
      rw [← hov]; cases o with
      | none => exact ⟨0, .nilIface, .inr rfl⟩
      | some k => exact ⟨_, _, .inl rfl⟩
    rw [hov]
    clear h2 hG2 HC hov
    go_wp2_with fail
    go_ret
    exact unhide H2
  | false =>
  cases bl with
  | true =>
    have hc := link_good2 hR h1 hG hk a.s a.t hs ht
    have HC := hide hc
    clear hc h1 hG hR
    go_enter Tryz.func34, Tryz.ntmps34
    go_wp2_with fail
    refine (unhide HC).mono ?_
    rintro e w2 ⟨o, N', F', next', rfl, h2, hG2⟩
    obtain ⟨ov, hov⟩ : ∃ ov, errV o = ov := ⟨_, rfl⟩
    have H2 : Hid (GoodEnd2 N F next w0 fb mb l2 (k + 1) (.returned ov) w2) := by rw [← hov]; exact ⟨o, N', F', next', rfl, h2.forget [], hG2⟩
    have hovs : ∃ t v, ov = .iface t v ∨ ov = .nilIface := by
      rw [← hov]; cases o with
      | none => exact ⟨0, .nilIface, .inr rfl⟩
      | some k => exact ⟨_, _, .inl rfl⟩
    rw [hov]
    clear h2 hG2 HC hov
    go_wp2_with fail
    go_ret
    exact unhide H2
  | false =>
  cases br with
  | true =>
    have hc := remove_good2 hR h1 hG hk a.s hs bd
    have HC := hide hc
    clear hc h1 hG hR
    go_enter Tryz.func34, Tryz.ntmps34
    go_wp2_with fail
    refine (unhide HC).mono ?_
    rintro e w2 ⟨o, N', F', next', rfl, h2, hG2⟩
    obtain ⟨ov, hov⟩ : ∃ ov, errV o = ov := ⟨_, rfl⟩
    have H2 : Hid (GoodEnd2 N F next w0 fb mb l2 (k + 1) (.returned ov) w2) := by rw [← hov]; exact ⟨o, N', F', next', rfl, h2.forget [], hG2⟩
    have hovs : ∃ t v, ov = .iface t v ∨ ov = .nilIface := by
      rw [← hov]; cases o with
      | none => exact ⟨0, .nilIface, .inr rfl⟩
      | some k => exact ⟨_, _, .inl rfl⟩
    rw [hov]
    clear h2 hG2 HC hov
    go_wp2_with fail
    go_ret
    exact unhide H2
  | false =>
  cases bd with
  | true =>
    have hc := remove_good2 hR h1 hG hk a.s hs true
    have HC := hide hc
    clear hc h1 hG hR
    go_enter Tryz.func34, Tryz.ntmps34
    go_wp2_with fail
    refine (unhide HC).mono ?_
    rintro e w2 ⟨o, N', F', next', rfl, h2, hG2⟩
    obtain ⟨ov, hov⟩ : ∃ ov, errV o = ov := ⟨_, rfl⟩
    have H2 : Hid (GoodEnd2 N F next w0 fb mb l2 (k + 1) (.returned ov) w2) := by rw [← hov]; exact ⟨o, N', F', next', rfl, h2.forget [], hG2⟩
    have hovs : ∃ t v, ov = .iface t v ∨ ov = .nilIface := by
      rw [← hov]; cases o with
      | none => exact ⟨0, .nilIface, .inr rfl⟩
      | some k => exact ⟨_, _, .inl rfl⟩
    rw [hov]
    clear h2 hG2 HC hov
    go_wp2_with fail
    go_ret
    exact unhide H2
  | false =>
  cases bv with
  | true =>
    have hc := rename_good2 hR h1 hG hk a.s a.t hs ht
    have HC := hide hc
    clear hc h1 hG hR
    go_enter Tryz.func34, Tryz.ntmps34
    go_wp2_with fail
    refine (unhide HC).mono ?_
    rintro e w2 ⟨o, N', F', next', rfl, h2, hG2⟩
    obtain ⟨ov, hov⟩ : ∃ ov, errV o = ov := ⟨_, rfl⟩
    have H2 : Hid (GoodEnd2 N F next w0 fb mb l2 (k + 1) (.returned ov) w2) := by rw [← hov]; exact ⟨o, N', F', next', rfl, h2.forget [], hG2⟩
    have hovs : ∃ t v, ov = .iface t v ∨ ov = .nilIface := by
      rw [← hov]; cases o with
      | none => exact ⟨0, .nilIface, .inr rfl⟩
      | some k => exact ⟨_, _, .inl rfl⟩
    rw [hov]
    clear h2 hG2 HC hov
    go_wp2_with fail
    go_ret
    exact unhide H2
  | false =>
  have H1 := hide h1
  clear h1 hR
  have HGd := hide hG
  clear hG
  go_enter Tryz.func34, Tryz.ntmps34
  go_wp2_with fail
  go_ret
  exact ⟨none, _, _, _, rfl, (unhide H1).forget [], (unhide HGd).mono (by omega), .refl, .inl rfl⟩
end Go.Proofs.YtjpmomklkkifjaaGreatDoor.T
namespace Go.Proofs.YtjpmomklkkifjaaGreatDoor.T
open Go.RowKit Go.Lib
set_option maxRecDepth 100000
set_option linter.unusedVariables false
set_option linter.unusedSimpArgs false

variable {w0 w : World} {fb mb : Nat} {N : List NV} {F : Forest} {next : Int} {l2 : List Res}
end Go.Proofs.YtjpmomklkkifjaaGreatDoor.T
namespace Go.Proofs.YtjpmomklkkifjaaGreatDoor.T
open Go.RowKit Go.Lib
set_option maxRecDepth 100000
set_option linter.unusedVariables false
set_option linter.unusedSimpArgs false

def Keyd (L : List Item) : Prop := ∀ x ∈ L, x.key = keyS x.name ∧ checkP x.name = none
theorem named_iff {L : List Item} (hL : Keyd L) {x : Item} (hx : x.key = keyS x.name) : namedB L x.name x.node = true ↔ x ∈ L := by
  constructor
  · intro h
    unfold namedB at h
    rw [List.any_eq_true] at h
    obtain ⟨y, hy, h2⟩ := h
    rw [Bool.and_eq_true, beq_iff_eq, beq_iff_eq] at h2
    have hn : y.name = x.name := toList_inj (by rw [← Lib.toList_data, ← Lib.toList_data]; exact h2.1)
    have : y = x := by
      cases y; cases x
      simp only at hn h2 hx
      have hk := (hL _ hy).1
      simp only at hk
      rw [hk, hx, hn, h2.2]
    rw [← this]; exact hy
  · intro h
    unfold namedB
    rw [List.any_eq_true]
    exact ⟨x, h, by simp⟩
structure Bit (L T A E : List Item) (cur : ByteArray) (b : Nat) : Prop where
  keyT : Keyd T
  keyA : Keyd A
  keyE : Keyd E
  sorted : Sorted T
  low : ∀ t ∈ T, ¬ kLt cur t.key
  te : ∀ t ∈ T, t ∈ E
  al : ∀ a ∈ A, a ∈ L
  le : ∀ x ∈ L, x ∈ E
  seen : ∀ a ∈ A, ¬ kLt cur a.key → a ∈ T
  many : (afterL L cur).length ≤ b
theorem Bit.start {L : List Item} (hL : Keyd L) (hf : Full L) {b : Nat} (hb : L.length ≤ b) : Bit L [] L L ⟨#[]⟩ b := by
  have hlt : ∀ x ∈ L, kLt ⟨#[]⟩ x.key := fun x hx => by
    have h1 := hf.after
    have h2 : x ∈ afterL L ⟨#[]⟩ := by rw [h1]; exact hx
    exact of_decide_eq_true (List.mem_filter.1 h2).2
  exact ⟨fun x hx => (by cases hx), hL, hL, List.Pairwise.nil, fun t ht => (by cases ht), fun t ht => (by cases ht), fun a ha => ha, fun x hx => hx, fun a ha h => absurd (hlt a ha) h, (by rw [hf.after]; exact hb)⟩
theorem Bit.done {L T A E : List Item} {cur : ByteArray} {b : Nat} (h : Bit L T A E cur b) (h0 : afterL L cur = []) : ∀ a ∈ A, a ∈ T := fun a ha => by
  refine h.seen a ha fun hk => ?_
  have : a ∈ afterL L cur := List.mem_filter.2 ⟨h.al a ha, by simpa using hk⟩
  rw [h0] at this
  cases this
theorem Bit.next {L T A E : List Item} {cur : ByteArray} {b k : Nat} (h : Bit L T A E cur b) (hL : Keyd L) (hs : Sorted L) {p : Item} {Q : List Item} (hP : (afterL L cur).take k = Q ++ [p]) :
    Sorted (T ++ (Q ++ [p])) ∧ Keyd (T ++ (Q ++ [p])) ∧ (∀ t ∈ T ++ (Q ++ [p]), ¬ kLt p.key t.key) ∧ (∀ t ∈ T ++ (Q ++ [p]), t ∈ E) ∧ (∀ a ∈ A, ¬ kLt p.key a.key → a ∈ T ++ (Q ++ [p])) ∧ (afterL L p.key).length + 1 ≤ b ∧ p ∈ L := by
  have hsA : Sorted (afterL L cur) := List.Pairwise.sublist List.filter_sublist hs
  have hsplit : afterL L cur = (Q ++ [p]) ++ (afterL L cur).drop k := by rw [← hP, List.take_append_drop]
  rw [hsplit] at hsA
  have hPL : ∀ x ∈ Q ++ [p], x ∈ L ∧ kLt cur x.key := fun x hx => by
    have : x ∈ afterL L cur := by rw [hsplit]; exact List.mem_append_left _ hx
    exact ⟨(List.mem_filter.1 this).1, of_decide_eq_true (List.mem_filter.1 this).2⟩
  have hsP : Sorted (Q ++ [p]) := (List.pairwise_append.1 hsA).1
  have hcross := (List.pairwise_append.1 hsA).2.2
  have hple : ∀ x ∈ Q ++ [p], ¬ kLt p.key x.key := fun x hx hk => by
    rcases List.mem_append.1 hx with h1 | h1
    · exact kLt_asymm ((List.pairwise_append.1 hsP).2.2 x h1 p (by simp)) hk
    · rw [List.mem_singleton.1 h1] at hk; exact kLt_irrefl _ hk
  have hp := hPL p (by simp)
  have hlow : ∀ t ∈ T, kLt t.key p.key := fun t ht => by
    have h1 := h.low t ht
    rcases kLt_tri t.key cur with h2 | h2 | h2
    · exact kLt_trans h2 hp.2
    · rw [h2]; exact hp.2
    · exact absurd h2 h1
  have hlowx : ∀ t ∈ T, ∀ x ∈ Q ++ [p], kLt t.key x.key := fun t ht x hx => by
    have h1 := h.low t ht
    rcases kLt_tri t.key cur with h2 | h2 | h2
    · exact kLt_trans h2 (hPL x hx).2
    · rw [h2]; exact (hPL x hx).2
    · exact absurd h2 h1
  refine ⟨List.pairwise_append.2 ⟨h.sorted, hsP, hlowx⟩, fun x hx => ?_, fun t ht hk => ?_, fun t ht => ?_, fun a ha hk => ?_, ?_, hp.1⟩
  · rcases List.mem_append.1 hx with h1 | h1
    · exact h.keyT x h1
    · exact hL x (hPL x h1).1
  · rcases List.mem_append.1 ht with h1 | h1
    · exact kLt_asymm (hlow t h1) hk
    · exact hple t h1 hk
  · rcases List.mem_append.1 ht with h1 | h1
    · exact h.te t h1
    · exact h.le t (hPL t h1).1
  · by_cases hc : kLt cur a.key
    · have hm : a ∈ afterL L cur := List.mem_filter.2 ⟨h.al a ha, by simpa using hc⟩
      rw [hsplit] at hm
      rcases List.mem_append.1 hm with h1 | h1
      · exact List.mem_append_right _ h1
      · exact absurd (hcross p (by simp) a h1) hk
    · exact List.mem_append_left _ (h.seen a ha hc)
  · have h1 : (afterL L p.key).length ≤ ((afterL L cur).drop k).length := by
      have e : afterL L p.key = (afterL L cur).filter fun x => decide (kLt p.key x.key) := by
        unfold afterL
        rw [List.filter_filter]
        refine List.filter_congr fun x hx => ?_
        by_cases hk : kLt p.key x.key
        · rw [decide_eq_true hk, decide_eq_true (kLt_trans hp.2 hk)]; rfl
        · rw [decide_eq_false hk]; rfl
      rw [e, hsplit, List.filter_append]
      have : (Q ++ [p]).filter (fun x => decide (kLt p.key x.key)) = [] := List.filter_eq_nil_iff.2 fun x hx => by simpa using hple x hx
      rw [this, List.nil_append, ← hsplit]
      exact List.length_filter_le _ _
    have h2 := congrArg List.length hsplit
    rw [List.length_append, List.length_append] at h2
    have h3 := h.many
    simp at h2
    rw [List.length_drop] at h1
    omega
theorem Bit.after {L T A E L' T' : List Item} {cur cur' : ByteArray} {b b' : Nat} (h : Bit L T A E cur b) (hL' : Keyd L') (h1 : Sorted T') (h2 : Keyd T') (h3 : ∀ t ∈ T', ¬ kLt cur' t.key) (h4 : ∀ t ∈ T', t ∈ E) (h5 : ∀ a ∈ A, ¬ kLt cur' a.key → a ∈ T') (h6 : (afterL L' cur').length ≤ b') :
    Bit L' T' (A.filter fun a => namedB L' a.name a.node) (E ++ L') cur' b' := by
  have hAf : ∀ a ∈ A.filter (fun a => namedB L' a.name a.node), a ∈ A ∧ a ∈ L' := fun a ha => by
    obtain ⟨ha1, ha2⟩ := List.mem_filter.1 ha
    exact ⟨ha1, (named_iff hL' (h.keyA a ha1).1).1 ha2⟩
  refine ⟨h2, fun x hx => h.keyA x (hAf x hx).1, fun x hx => ?_, h1, h3, fun t ht => List.mem_append_left _ (h4 t ht), fun a ha => (hAf a ha).2, fun x hx => List.mem_append_right _ hx, fun a ha hk => h5 a (hAf a ha).1 hk, h6⟩
  rcases List.mem_append.1 hx with hx | hx
  · exact h.keyE x hx
  · exact hL' x hx

variable {w0 w : World} {fb mb : Nat} {N : List NV} {F : Forest} {next : Int} {l2 : List Res}
theorem wpList_appendI {P : Program} {ops : Array Oper} {rest : List Oper} {o : Oper} {a : Act} {w : World} {Q : Exit → Act → World → Prop} (hgd : o.guard = none) (d x : Operand) (dT sT : TypeId) (ho : o.op = Op.call { callee := Callee.builtin Builtin.append, args := #[d, x], argTypes := #[dT, sT] })
    (v u : Value) (hd : a.eval d = v) (hx : a.eval x = u) {v' : Value} {w' : World} (hr : (Builtin.append_ #[dT, sT] o.type #[v, u]).run P w = .ok v' w') (h : wpList P ops Q rest (a.put o.dst v') w') : wpList P ops Q (o :: rest) a w := by
  refine wpList_plain hgd fun K hK => ?_
  unfold Oper.wp
  simp [execOp, ho, resolve, invoke, builtin, hd, hx, hr, Result.andThen]
  exact hK _ _ h
theorem FSIn.front (l1 : List Res) {r : Res} (h : FSIn w0 w fb mb N F next (l1 ++ r :: l2)) : FSIn w0 w fb mb N F next (r :: (l1 ++ l2)) :=
  h.conv (fun x => by simp only [total_append, total_cons]; omega) fun hs q hq => hs q (by
    simp only [List.mem_append, List.mem_cons] at hq ⊢
    rcases hq with h | h | h
    · exact .inr (.inl h)
    · exact .inl h
    · exact .inr (.inr h))
end Go.Proofs.YtjpmomklkkifjaaGreatDoor.T
namespace Go.Proofs.YtjpmomklkkifjaaGreatDoor.T
open Go.RowKit
set_option maxRecDepth 100000
set_option linter.unusedVariables false
set_option linter.unusedSimpArgs false

theorem nodeRow_in (u : NV) (hi : 0 ≤ u.id ∧ u.id < 100) (hp : 0 ≤ u.up ∧ u.up < 100) (hl : 0 ≤ u.links ∧ u.links < 100) (ht : u.text.size ≤ 20) (W : World) :
    Calls Tryz.prog 69 #[.agg #[.int .i64 u.id, .int .i64 u.kind, .int .i64 u.up, .int .i64 u.links, .string u.text]] W fun e w' => e = .returned (.agg #[.string (nodeCh u).key, .string (nodeCh u).val, .bool false]) ∧ Below W.heap.size W w' := by
  have h := nodeRow_calls u.id.toNat u.kind u.up.toNat u.links.toNat u.text (by omega) (by omega) (by omega) (by omega) W
  rw [Int.toNat_of_nonneg hi.1, Int.toNat_of_nonneg hp.1, Int.toNat_of_nonneg hl.1] at h
  exact h
theorem entryRow_in (i : Int) (x : Item) (hi : 0 ≤ i ∧ i < 100) (hn : 0 ≤ x.node ∧ x.node < 100) (hc : checkP x.name = none) (W : World) (hR : Ready W) :
    Calls Tryz.prog 70 #[.int .i64 i, .agg #[.string x.name, .int .i64 x.node]] W fun e w' => e = .returned (.agg #[.string (entCh i x).key, .string (entCh i x).val, .bool false]) ∧ Below W.heap.size W w' := by
  have h := entryRow_calls i.toNat x.node.toNat x.name (by omega) (by omega) hc (by have := keyS_size hc; omega) (by have := name_size hc; omega) W hR
  rw [Int.toNat_of_nonneg hi.1, Int.toNat_of_nonneg hn.1] at h
  exact h

variable {w0 w : World} {fb mb : Nat} {N : List NV} {F : Forest} {next : Int} {l2 : List Res}
theorem FSIn.cellRow {b : Nat} {c : CH} (h : FSIn w0 w fb mb N F next (.cell b 69 (encC c) :: l2)) : FSIn w0 w fb mb N F next (rowCh (.slice (some ⟨b, 0, none⟩) 1 1) [c] :: l2) := by
  refine h.conv (fun x => ?_) fun hs q hq => ?_
  · simp only [total_cons]
    have : (rowCh (.slice (some ⟨b, 0, none⟩) 1 1) [c]).foot x = (Res.cell b 69 (encC c)).foot x := by
      show blkN (.slice (some ⟨b, 0, none⟩) 1 1) x = one b x
      unfold blkN one
      simp [Value.ownBlock, eq_comm]
    omega
  · rcases List.mem_cons.1 hq with rfl | hq
    · obtain ⟨h1, h2⟩ := hs (.cell b 69 (encC c)) (by simp)
      exact ⟨rfl, .inr ⟨b, 1, (encC c).toArray, rfl, h1, h2, Nat.le_refl 1, by decide, rfl, rfl⟩⟩
    · exact hs q (by simp [hq])
theorem FSIn.appC (l1 : List Res) {v : Value} {R : List CH} (h : FSIn w0 w fb mb N F next (l1 ++ rowCh v R :: l2)) {A : Nat} {c : CH} (hc : w.heap[A]? = some (.cells (encC c).toArray 69 (0, 0))) (hn : R.length ≤ 1000) (ty : TypeId) :
    ∃ v' w', (Builtin.append_ #[54, 54] ty #[v, .slice (some ⟨A, 0, none⟩) 1 1]).run Tryz.prog w = .ok v' w' ∧ FSIn w0 w' fb mb N F next (l1 ++ rowCh v' (R ++ [c]) :: l2) := by
  obtain ⟨i0, hi, hz0, hz1, hz2⟩ := info_parts infoChange
  have hv := h.rowAt (v := v) (e := 69) (k := 3) (n := R.length) (xs := flatC R) (by simp [rowCh])
  have hb := h.low
  obtain ⟨v', w', hr, ho, hg, _, ha⟩ := run_append_own_at (P := Tryz.prog) w w0.heap.size 54 ty 69 i0 _ 3 40 Tryz.underlying54 hi hz0 hz1 hz2 rfl (by decide) v _ _ hv ⟨A, 0, none⟩ 1 1 (encC c) rfl (fun j u hj => by
    rw [Addr.add_lit, Nat.zero_add, cell_of_row _ _ j _ 69 (0, 0) hc]
    simpa using hj) (fun u hu => by simp [encC] at hu; rcases hu with rfl | rfl | rfl <;> rfl) (by unfold maxLen; omega) (by omega) hb
  refine ⟨v', w', hr, ?_⟩
  rw [← flatC_snoc] at ho
  have e : R.length + 1 = (R ++ [c]).length := by simp
  rw [e] at ho
  exact FSIn.grow l1 h hg ho (ha.imp id fun h => ⟨_, h, Nat.le_refl _⟩)
theorem total_perm {a b : List Res} (h : a.Perm b) (x : Nat) : total a x = total b x := by
  unfold total
  exact (h.map _).sum_nat
theorem FSIn.perm {l3 : List Res} (h : FSIn w0 w fb mb N F next l2) (hp : l3.Perm l2) : FSIn w0 w fb mb N F next l3 :=
  h.conv (fun x => Nat.le_of_eq (total_perm hp x)) fun hs r hr => hs r (hp.mem_iff.1 hr)
end Go.Proofs.YtjpmomklkkifjaaGreatDoor.T
