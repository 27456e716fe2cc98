/-
  The contract of image.told: a number of two digits at most, in three digits. The contract of image.told, of a number below a hundred. The contracts of node.copied and Tree.Copy, over the seat's program: the same entries in new nodes, the old ones as they were. A copy of folders and files beside the first: the pieces of both, and what makes them twins.
-/
import Derived.Test.YtjpmomklkkifjaaGreatDoorProg
import Derived.Shelf.Strconv.Itoa3
import Derived.Shelf.Strings.Repeat
import Derived.WalkKit
import Derived.Test.YtjpmomklkkifjaaGreatDoorCISort
import Derived.Test.YtjpmomklkkifjaaGreatDoorCBTreeDrop
import Derived.Deep.RegionLaw
import Derived.Test.YtjpmomklkkifjaaGreatDoorCFNodes
namespace Go.Proofs.YtjpmomklkkifjaaGreatDoor.T
open Go.Shelf Go.RowKit
set_option maxRecDepth 100000
set_option linter.unusedVariables false
set_option linter.unusedSimpArgs false

def lays171_ren : Go.Shelf.Ren := ⟨fun | 129 => 130 | 171 => 110 | 243 => 153 | 246 => 194 | 283 => 217 | 284 => 218 | 285 => 219 | 286 => 220 | 317 => 234 | 318 => 235 | 319 => 236 | 320 => 237 | 337 => 244 | 338 => 245 | n => n, fun | 37 => 143 | 46 => 126 | 51 => 182 | 53 => 62 | 171 => 255 | 173 => 257 | 212 => 271 | 213 => 272 | 232 => 280 | 233 => 281 | 0 => 0 | 2 => 2 | 3 => 3 | 4 => 4 | 5 => 5 | 9 => 9 | 20 => 20 | n => n, fun | 17 => 6 | 18 => 7 | 19 => 8 | n => n⟩
theorem lays171 : Lays.n171 Tryz.prog lays171_ren := {
  mixed := by kernel_rfl
  f129 := Tryz.func130.trans (congrArg some (by kernel_rfl))
  f171 := Tryz.func110.trans (congrArg some (by kernel_rfl))
  f243 := Tryz.func153.trans (congrArg some (by kernel_rfl))
  f246 := Tryz.func194.trans (congrArg some (by kernel_rfl))
  f283 := Tryz.func217.trans (congrArg some (by kernel_rfl))
  f284 := Tryz.func218.trans (congrArg some (by kernel_rfl))
  f285 := Tryz.func219.trans (congrArg some (by kernel_rfl))
  f286 := Tryz.func220.trans (congrArg some (by kernel_rfl))
  f317 := Tryz.func234.trans (congrArg some (by kernel_rfl))
  f318 := Tryz.func235.trans (congrArg some (by kernel_rfl))
  f319 := Tryz.func236.trans (congrArg some (by kernel_rfl))
  f320 := Tryz.func237.trans (congrArg some (by kernel_rfl))
  f337 := Tryz.func244.trans (congrArg some (by kernel_rfl))
  f338 := Tryz.func245.trans (congrArg some (by kernel_rfl))
  t0 := Tryz.underlying0
  a0 := Tryz.isAgg0
  z0 := Tryz.sizeOf0
  v0 := Tryz.zeroValue0
  t2 := Tryz.underlying2
  a2 := Tryz.isAgg2
  z2 := Tryz.sizeOf2
  v2 := Tryz.zeroValue2
  t3 := Tryz.underlying3
  a3 := Tryz.isAgg3
  z3 := Tryz.sizeOf3
  v3 := Tryz.zeroValue3
  t4 := Tryz.underlying4
  a4 := Tryz.isAgg4
  z4 := Tryz.sizeOf4
  v4 := Tryz.zeroValue4
  t5 := Tryz.underlying5
  a5 := Tryz.isAgg5
  z5 := Tryz.sizeOf5
  v5 := Tryz.zeroValue5
  t9 := Tryz.underlying9
  a9 := Tryz.isAgg9
  z9 := Tryz.sizeOf9
  v9 := Tryz.zeroValue9
  t20 := Tryz.underlying20
  a20 := Tryz.isAgg20
  z20 := Tryz.sizeOf20
  v20 := Tryz.zeroValue20
  t37 := Tryz.underlying143
  a37 := Tryz.isAgg143
  z37 := Tryz.sizeOf143
  v37 := Tryz.zeroValue143
  t46 := Tryz.underlying126
  a46 := Tryz.isAgg126
  z46 := Tryz.sizeOf126
  v46 := Tryz.zeroValue126
  t51 := Tryz.underlying182
  a51 := Tryz.isAgg182
  z51 := Tryz.sizeOf182
  v51 := Tryz.zeroValue182
  t53 := Tryz.underlying62
  a53 := Tryz.isAgg62
  z53 := Tryz.sizeOf62
  v53 := Tryz.zeroValue62
  t171 := Tryz.underlying255
  a171 := Tryz.isAgg255
  z171 := Tryz.sizeOf255
  v171 := Tryz.zeroValue255
  t173 := Tryz.underlying257
  a173 := Tryz.isAgg257
  z173 := Tryz.sizeOf257
  v173 := Tryz.zeroValue257
  t212 := Tryz.underlying271
  a212 := Tryz.isAgg271
  z212 := Tryz.sizeOf271
  v212 := Tryz.zeroValue271
  t213 := Tryz.underlying272
  a213 := Tryz.isAgg272
  z213 := Tryz.sizeOf272
  t232 := Tryz.underlying280
  a232 := Tryz.isAgg280
  z232 := Tryz.sizeOf280
  v232 := Tryz.zeroValue280
  t233 := Tryz.underlying281
  a233 := Tryz.isAgg281
  z233 := Tryz.sizeOf281
  v233 := Tryz.zeroValue281
  g17 := by kernel_rfl
  g18 := by kernel_rfl
  g19 := by kernel_rfl }
def lays105_ren : Go.Shelf.Ren := ⟨fun | 99 => 55 | 105 => 111 | 165 => 155 | 166 => 156 | 169 => 95 | 170 => 157 | 206 => 101 | 212 => 154 | 240 => 138 | 241 => 197 | 263 => 195 | 264 => 196 | 276 => 179 | 277 => 221 | n => n, fun | 37 => 143 | 46 => 126 | 51 => 182 | 53 => 62 | 70 => 142 | 72 => 145 | 80 => 150 | 75 => 35 | 76 => 148 | 109 => 207 | 127 => 198 | 146 => 233 | 148 => 235 | 164 => 226 | 0 => 0 | 3 => 3 | 4 => 4 | 5 => 5 | 9 => 9 | 20 => 20 | n => n, fun | n => n⟩
theorem lays105 : Lays.n105 Tryz.prog lays105_ren := {
  mixed := by kernel_rfl
  f99 := Tryz.func55.trans (congrArg some (by kernel_rfl))
  f105 := Tryz.func111.trans (congrArg some (by kernel_rfl))
  f165 := Tryz.func155.trans (congrArg some (by kernel_rfl))
  f166 := Tryz.func156.trans (congrArg some (by kernel_rfl))
  f169 := Tryz.func95.trans (congrArg some (by kernel_rfl))
  f170 := Tryz.func157.trans (congrArg some (by kernel_rfl))
  f206 := Tryz.func101.trans (congrArg some (by kernel_rfl))
  f212 := Tryz.func154.trans (congrArg some (by kernel_rfl))
  f240 := Tryz.func138.trans (congrArg some (by kernel_rfl))
  f241 := Tryz.func197.trans (congrArg some (by kernel_rfl))
  f263 := Tryz.func195.trans (congrArg some (by kernel_rfl))
  f264 := Tryz.func196.trans (congrArg some (by kernel_rfl))
  f276 := Tryz.func179.trans (congrArg some (by kernel_rfl))
  f277 := Tryz.func221.trans (congrArg some (by kernel_rfl))
  t0 := Tryz.underlying0
  a0 := Tryz.isAgg0
  z0 := Tryz.sizeOf0
  v0 := Tryz.zeroValue0
  t3 := Tryz.underlying3
  a3 := Tryz.isAgg3
  z3 := Tryz.sizeOf3
  v3 := Tryz.zeroValue3
  t4 := Tryz.underlying4
  a4 := Tryz.isAgg4
  z4 := Tryz.sizeOf4
  v4 := Tryz.zeroValue4
  t5 := Tryz.underlying5
  a5 := Tryz.isAgg5
  z5 := Tryz.sizeOf5
  v5 := Tryz.zeroValue5
  t9 := Tryz.underlying9
  a9 := Tryz.isAgg9
  z9 := Tryz.sizeOf9
  v9 := Tryz.zeroValue9
  t20 := Tryz.underlying20
  a20 := Tryz.isAgg20
  z20 := Tryz.sizeOf20
  v20 := Tryz.zeroValue20
  t37 := Tryz.underlying143
  a37 := Tryz.isAgg143
  z37 := Tryz.sizeOf143
  v37 := Tryz.zeroValue143
  t46 := Tryz.underlying126
  a46 := Tryz.isAgg126
  z46 := Tryz.sizeOf126
  v46 := Tryz.zeroValue126
  t51 := Tryz.underlying182
  a51 := Tryz.isAgg182
  z51 := Tryz.sizeOf182
  v51 := Tryz.zeroValue182
  t53 := Tryz.underlying62
  a53 := Tryz.isAgg62
  z53 := Tryz.sizeOf62
  v53 := Tryz.zeroValue62
  t70 := Tryz.underlying142
  a70 := Tryz.isAgg142
  z70 := Tryz.sizeOf142
  v70 := Tryz.zeroValue142
  t72 := Tryz.underlying145
  a72 := Tryz.isAgg145
  z72 := Tryz.sizeOf145
  v72 := Tryz.zeroValue145
  t75 := Tryz.underlying35
  a75 := Tryz.isAgg35
  z75 := Tryz.sizeOf35
  v75 := Tryz.zeroValue35
  t76 := Tryz.underlying148
  a76 := Tryz.isAgg148
  z76 := Tryz.sizeOf148
  v76 := Tryz.zeroValue148
  t109 := Tryz.underlying207
  a109 := Tryz.isAgg207
  z109 := Tryz.sizeOf207
  v109 := Tryz.zeroValue207
  t127 := Tryz.underlying198
  a127 := Tryz.isAgg198
  z127 := Tryz.sizeOf198
  v127 := Tryz.zeroValue198
  t146 := Tryz.underlying233
  a146 := Tryz.isAgg233
  z146 := Tryz.sizeOf233
  v146 := Tryz.zeroValue233
  t148 := Tryz.underlying235
  a148 := Tryz.isAgg235
  z148 := Tryz.sizeOf235
  v148 := Tryz.zeroValue235
  t164 := Tryz.underlying226
  a164 := Tryz.isAgg226
  z164 := Tryz.sizeOf226
  v164 := Tryz.zeroValue226 }
theorem extra105 : Builder.Extra Tryz.prog lays105_ren := {
  sizeBuilder := by kernel_rfl
  liesBuilder := by kernel_rfl
  t5 := Tryz.underlying5
  a5 := Tryz.isAgg5
  z5 := Tryz.sizeOf5
  v5 := Tryz.zeroValue5
  infoByte := by kernel_rfl
  cellsByte := by kernel_rfl
  sizeByte := by kernel_rfl
  neB5 := by decide }
theorem itoa_calls (i : Nat) (hi : i < 100) (w : World) : Calls Tryz.prog 110 #[.int .i64 i] w fun e w' => e = .returned (.string ⟨(Lib.decDigits i).toArray⟩) ∧ w' = w := Any.strconv_Itoa_small lays171 i hi w
theorem repeat_calls (c : Nat) (hc : c = 1 ∨ c = 2) (w : World) : Calls Tryz.prog 111 #[.string ⟨#[48]⟩, .int .i64 c] w fun e w' => e = .returned (.string ⟨(List.replicate c 48).toArray⟩) ∧ Below w.heap.size w w' := by
  rcases hc with rfl | rfl
  · exact (Any.strings_Repeat_one lays105 ⟨#[48]⟩ w).mono fun e w' ⟨h1, h2⟩ => ⟨h1, by rw [h2]; exact Below.refl _ _⟩
  · exact (Any.strings_Repeat_main lays105 extra105 ⟨#[48]⟩ 2 w (by decide) (by decide) (by decide) (by decide)).mono fun e w' ⟨h1, h2⟩ => ⟨h1, h2⟩
theorem digits_len : ∀ i : Fin 100, (Lib.decDigits i.val).length = if i.val < 10 then 1 else 2 := of_decide_eq_true (by kernel_rfl)
end Go.Proofs.YtjpmomklkkifjaaGreatDoor.T
namespace Go.Proofs.YtjpmomklkkifjaaGreatDoor.T
open Go.Shelf Go.RowKit
set_option maxRecDepth 100000
set_option linter.unusedVariables false
set_option linter.unusedSimpArgs false

def toldS (n : Nat) : ByteArray := ⟨(List.replicate (3 - (Lib.decDigits n).length) 48 ++ Lib.decDigits n).toArray⟩
theorem told_size {n : Nat} (hn : n < 100) : (toldS n).size = 3 := by
  have h := digits_len ⟨n, hn⟩
  show (List.replicate (3 - (Lib.decDigits n).length) 48 ++ Lib.decDigits n).toArray.size = 3
  simp only [List.size_toArray, List.length_append, List.length_replicate]
  simp only at h
  split at h <;> omega

set_option maxHeartbeats 2000000 in
theorem told_calls (n : Nat) (hn : n < 100) (w : World) : Calls Tryz.prog 68 #[.int .i64 n] w fun e w' => e = .returned (.string (toldS n)) ∧ Below w.heap.size w w' := by
  have hI := itoa_calls n hn w
  have hR1 := repeat_calls 1 (.inl rfl) w
  have hR2 := repeat_calls 2 (.inr rfl) w
  have hl := digits_len ⟨n, hn⟩
  simp only at hl
  have hT : ∀ c, (Lib.decDigits n).length = 3 - c → c ≤ 3 → (⟨(List.replicate c 48).toArray⟩ : ByteArray) ++ ⟨(Lib.decDigits n).toArray⟩ = toldS n := fun c h hc => by
    unfold toldS
    rw [h, show 3 - (3 - c) = c by omega]
    apply ByteArray.ext
    simp
  have hsz : (⟨(Lib.decDigits n).toArray⟩ : ByteArray).size = (Lib.decDigits n).length := by
    show (Lib.decDigits n).toArray.size = _
    simp
  obtain ⟨s, hs⟩ : ∃ s : ByteArray, (⟨(Lib.decDigits n).toArray⟩ : ByteArray) = s := ⟨_, rfl⟩
  rw [hs] at hI hsz hT
  have hd : s.size = 1 ∨ s.size = 2 := by
    rw [hsz, hl]
    split <;> simp
  rcases hd with hd | hd
  · have hTT := hT 2 (by omega) (by omega)
    have HT := hide hTT
    have hz : (s.size : Int) = 1 := by omega
    have HI := hide hI
    have HR := hide hR2
    clear hI hR1 hR2 hl hT hsz hs hTT hd
    go_enter Tryz.func68, Tryz.ntmps68
    go_wp2_with fail
    refine (unhide HI).mono ?_
    rintro e w2 ⟨rfl, rfl⟩
    clear HI
    go_wp2_with fail
    refine (unhide HR).mono ?_
    rintro e w3 ⟨rfl, hb⟩
    have Hb := hide hb
    clear hb HR
    go_wp2_with fail
    go_ret
    exact ⟨by rw [← unhide HT]; rfl, unhide Hb⟩
  · have hTT := hT 1 (by omega) (by omega)
    have HT := hide hTT
    have hz : (s.size : Int) = 2 := by omega
    have HI := hide hI
    have HR := hide hR1
    clear hI hR1 hR2 hl hT hsz hs hTT hd
    go_enter Tryz.func68, Tryz.ntmps68
    go_wp2_with fail
    refine (unhide HI).mono ?_
    rintro e w2 ⟨rfl, rfl⟩
    clear HI
    go_wp2_with fail
    refine (unhide HR).mono ?_
    rintro e w3 ⟨rfl, hb⟩
    have Hb := hide hb
    clear hb HR
    go_wp2_with fail
    go_ret
    exact ⟨by rw [← unhide HT]; rfl, unhide Hb⟩
end Go.Proofs.YtjpmomklkkifjaaGreatDoor.T
namespace Go.Proofs.YtjpmomklkkifjaaGreatDoor.T
open Go.RowKit Go.Lib
set_option maxRecDepth 100000
set_option linter.unusedVariables false
set_option linter.unusedSimpArgs false

section
variable {base : Nat} {w0 w : World} {K0 : Nat → Nat}
def ItemsEnd (base : Nat) (w0 : World) (K0 : Nat → Nat) (its : List Item) (rs : List Res) (e : Ending) (w' : World) : Prop :=
  ∃ v, e = .returned v ∧ Hold base w0 K0 w' (rowI v its :: rs)
theorem hold_cloneAll {rs : List Res} (H : Hold base w0 K0 w rs) {v : Value} {its : List Item} (hm : rowI v its ∈ rs) (hb : base ≤ w.heap.size) (hl : its.length ≤ 100) :
    Calls Tryz.prog 152 #[v] w fun e w' => ItemsEnd base w0 K0 its rs e w' := by
  have hr : w.ownsRow base 190 3 v its.length (flat its) := H.rowAt hm
  rcases hr.2 with ⟨hv, hn⟩ | ⟨g, cap, cur, hv, _⟩
  · have h0 : its = [] := List.eq_nil_of_length_eq_zero hn
    subst hv h0
    refine (cloneI_nil w).mono ?_
    rintro e w' ⟨rfl, rfl⟩
    exact ⟨_, rfl, H.nilRow 190 3⟩
  · subst hv
    refine (cloneI_calls base g 0 its.length cap (flat its) w (by rw [flat_length]) hl hb (fun j u hu => ?_) (flat_one _)).mono ?_
    · have hj := (List.getElem?_eq_some_iff.1 hu).1
      rw [flat_length] at hj
      rw [Nat.zero_add, hr.cellAt j (by omega)]
      exact hu
    · rintro e w' ⟨v', rfl, hr', ha, hbel⟩
      exact ⟨v', rfl, H.newRow hbel hr' ha⟩
theorem Hold.noSubs {rs : List Res} (H : Hold base w0 K0 w rs) (h : Nat) : Hold base w0 K0 w (.subs h [] :: rs) :=
  H.conv (fun x => by simp only [total_cons, foot_subs]; simp [owns]) (fun r hr => by
    rcases List.mem_cons.1 hr with rfl | h
    · exact fun x hx => by simp at hx
    · exact H.sat r h)
theorem hold_appendOneN (l1 : List Res) {v : Value} {a : List Kid} {l2 : List Res} {vb : Nat} {m : Kid} (H : Hold base w0 K0 w (.cell vb 128 [ptrV m.b] :: (l1 ++ rowN v a :: l2))) (hn : a.length ≤ 90) (ty : TypeId) :
    ∃ v' w', (Builtin.append_ #[186, 186] ty #[v, .slice (some ⟨vb, 0, none⟩) 1 1]).run Tryz.prog w = .ok v' w' ∧ Hold base w0 K0 w' (l1 ++ rowN v' (a ++ [m]) :: l2) := by
  obtain ⟨i0, hi, hz0, hz1, hz2⟩ := info_parts info49
  have hv : w.ownsRow base 128 1 v a.length (a.map fun y => ptrV y.b) := H.rowAt (by simp [rowN])
  obtain ⟨v', w', hr, ho, hg, _, ha⟩ := run_append_own_at (P := Tryz.prog) w base 186 ty 128 i0 _ 1 8 Tryz.underlying186 hi hz0 hz1 hz2 rfl (by decide) v a.length _ hv ⟨vb, 0, none⟩ 1 1 [ptrV m.b] rfl (fun j u hj => by
      rw [Addr.add_lit, Nat.zero_add]
      exact H.cellAt (t := 128) (vs := [ptrV m.b]) (by simp) hj) (fun u hu => by simp at hu; subst hu; rfl) (by unfold maxLen; omega) (by omega) (H.low (b := vb) (t := 128) (vs := [ptrV m.b]) (by simp))
  refine ⟨v', w', hr, ?_⟩
  have e1 : (a.map fun y => ptrV y.b) ++ [ptrV m.b] = (a ++ [m]).map fun y => ptrV y.b := by simp
  have e2 : a.length + 1 = (a ++ [m]).length := by simp
  rw [e1, e2] at ho
  exact (H.forget []).grow l1 hg ho (ha.imp id fun h => ⟨_, h, Nat.le_refl _⟩)
end

theorem step_call1I {P : Program} {ops : Array Oper} {o : Oper} {a : Act} {w : World} {K : Act → World → Prop} {Q : Exit → Act → World → Prop} {E : Prop}
    (hg : o.guard = none) (f : FuncId) {fn : Func} (hfn : P.funcs[f]? = some fn) (hnm : ¬ (fn.name = "runtime.NumGoroutine")) (hbd : ¬ (fn.body = none)) (x : Operand) (t : TypeId) (hop : o.op = Op.call { callee := Callee.value (Operand.func f), args := #[x], argTypes := #[t] })
    (v : Value) (hx : a.eval x = v) {R : Ending → World → Prop} (hc : Calls P f #[v] w R) (hK : ∀ e w', R e w' → ∃ u, e = .returned u ∧ K (a.put o.dst u) w') :
    if Region.wanted o (yielded ops a.tmps) = true then Oper.wp P o a w K Q else E := by
  have hw : Region.wanted o (yielded ops a.tmps) = true := by simp [Region.wanted, hg]
  rw [if_pos hw]
  unfold Oper.wp
  have hr : (execOp a.eval o).run P w = .ok (.enter f #[v]) w := by
    simp [execOp, hop, resolve, invoke, hx, Act.eval, Deferred.ofValue, callFunc, Result.andThen, hfn, hnm, hbd]
    rw [← hx]
    cases x <;> simp [Act.eval, Array.getD_eq_getD_getElem?]
  rw [hr, Oper.upon_enter]
  refine hc.mono ?_
  intro e w' hr
  obtain ⟨u, rfl, hk⟩ := hK e w' hr
  exact hk

theorem nm27 : ¬ (Tryz.f109.name = "runtime.NumGoroutine") := by decide
theorem bd27 : ¬ (Tryz.f109.body = none) := by intro h; cases h
theorem Hold.copyIn {base : Nat} {w0 w : World} {K0 : Nat → Nat} {h : Nat} {kk kk' : Kid} {A B C D E F : Res} {ks' ks1 ks2 : List Kid} {l2 : List Res} (H : Hold base w0 K0 w (.sub h kk' :: .sub h kk :: A :: B :: C :: .subs h ks' :: D :: E :: F :: .subs h (ks1 ++ ks2) :: l2)) : Hold base w0 K0 w (A :: B :: C :: .subs h (ks' ++ [kk']) :: D :: E :: F :: .subs h (ks1 ++ kk :: ks2) :: l2) := by
  have s1 : Sub base w h kk' := H.sat (.sub h kk') (by simp)
  have s2 : Sub base w h kk := H.sat (.sub h kk) (by simp)
  have s3 : ∀ x ∈ ks', Sub base w h x := H.sat (.subs h ks') (by simp)
  have s4 : ∀ x ∈ ks1 ++ ks2, Sub base w h x := H.sat (.subs h (ks1 ++ ks2)) (by simp)
  refine H.conv (fun x => ?_) (fun r hr => ?_)
  · simp only [total_cons, foot_sub, foot_subs, owns_append, owns_cons, owns_nil]
    omega
  · simp only [List.mem_cons] at hr
    rcases hr with rfl | rfl | rfl | rfl | rfl | rfl | rfl | rfl | hr
    · exact H.sat _ (by simp)
    · exact H.sat _ (by simp)
    · exact H.sat _ (by simp)
    · intro x hx
      simp at hx
      rcases hx with h1 | rfl
      · exact s3 x h1
      · exact s1
    · exact H.sat _ (by simp)
    · exact H.sat _ (by simp)
    · exact H.sat _ (by simp)
    · intro x hx
      simp at hx
      rcases hx with h1 | rfl | h1
      · exact s4 x (by simp [h1])
      · exact s2
      · exact s4 x (by simp [h1])
    · exact H.sat r (by simp [hr])

def CopyEnd (base : Nat) (w0 : World) (K0 : Nat → Nat) (h : Nat) (k : Kid) (l2 : List Res) (e : Ending) (w' : World) : Prop :=
  ∃ k' : Kid, e = .returned (.pointer (some ⟨k'.b, 0, none⟩)) ∧ k'.c = k.c ∧ k'.L = k.L ∧ Hold base w0 K0 w' (.sub h k' :: .sub h k :: l2)
def CopySpec (h : Nat) : Prop := ∀ (base : Nat) (w0 : World) (K0 : Nat → Nat) (w : World) (k : Kid) (l2 : List Res), Hold base w0 K0 w (.sub h k :: l2) → k.c ≤ 3 →
  Calls Tryz.prog 109 #[.pointer (some ⟨k.b, 0, none⟩)] w fun e w' => CopyEnd base w0 K0 h k l2 e w'

set_option maxRecDepth 100000 in
set_option maxHeartbeats 4000000 in
theorem copied_step (h : Nat) (ih : 0 < h → CopySpec (h - 1)) : CopySpec h := by
  intro base w0 K0 w k l2 H hc
  obtain ⟨its, kids, v0, v1, hcc, hL, hsh, hfit, hown, H1⟩ := Hold.openk [] H
  simp only [List.nil_append] at H1
  have q0 : w.cell? ⟨k.b, 0, none⟩ = some v0 := H1.cellAt (t := 188) (vs := [v0, v1]) (by simp [nodeR]) rfl
  have hbw : base ≤ w.heap.size := H1.low (b := k.b) (t := 188) (vs := [v0, v1]) (by simp [nodeR])
  obtain ⟨N, hN⟩ : ∃ N, kids.length = N := ⟨_, rfl⟩
  have hN4 : N ≤ 4 := by
    rcases hsh with ⟨_, h0⟩ | ⟨_, h0⟩
    · rw [← hN, h0]; simp
    · omega
  have r1 : w.ownsRow base 128 1 v1 N (kids.map fun y => ptrV y.b) := by rw [← hN]; exact H1.rowAt (by simp [rowN])
  obtain ⟨p1, cap1, hv1⟩ := row_len r1
  subst hv1
  have e1 := hold_cloneAll H1 (v := v0) (its := its) (by simp) hbw (by omega)
  have E1 := hide e1
  have IH := hide ih
  have Hcc := hide hcc
  have HL := hide hL
  have Hsh := hide hsh
  have Hfit := hide hfit
  have Hown := hide hown
  have HN := hide hN
  clear e1 ih hcc hL hsh hfit hown hN r1 H H1
  go_enter Tryz.func109, Tryz.ntmps109
  go_wp2_with fail
  refine (unhide E1).mono ?_
  rintro e w2 ⟨v0', rfl, H2⟩
  obtain ⟨p0, c0, hv0'⟩ := row_len (H2.rowAt (v := v0') (e := 190) (k := 3) (n := its.length) (xs := flat its) (by simp [rowI]))
  subst hv0'
  have hbw2 : base ≤ w2.heap.size := H2.low (b := k.b) (t := 188) (vs := [v0, .slice p1 N cap1]) (by simp [nodeR])
  have H3 := H2.made hbw2 188 [.slice p0 its.length c0, .slice none 0 0]
  have c1 : ∀ o, (w2.alloc o).cell? ⟨k.b, 1, none⟩ = some (.slice p1 N cap1) := fun o => (H2.alloc o).cellAt (t := 188) (vs := [v0, .slice p1 N cap1]) (by simp [nodeR]) rfl
  obtain ⟨nb, hnb⟩ : ∃ nb, w2.heap.size = nb := ⟨_, rfl⟩
  have H4 : Hold base w0 K0 (w2.alloc (.cells #[.slice p0 its.length c0, .slice none 0 0] 188)) (nodeR nb (.slice p0 its.length c0) (.slice none 0 0) :: rowI (.slice p0 its.length c0) its :: rowN (.slice none 0 0) [] :: .subs (h - 1) [] :: nodeR k.b v0 (.slice p1 N cap1) :: rowI v0 its :: rowN (.slice p1 N cap1) kids :: .subs (h - 1) kids :: l2) := by
    rw [← hnb]
    exact (((H3.noSubs (h - 1)).nilRow 128 1).front [_, _, _]).front [_, _, _]
  have HH4 := hide H4
  clear H2 H3 H4 E1 q0
  go_wp2_with fail
  go_loopg [18] (N + 1) (fun g vi wr => ∃ (i : Nat) (p' : Option Addr) (c' : Nat) (ks' : List Kid), N - i < g ∧ i ≤ N ∧ vi = .int .i64 i ∧ Hid (ks'.length = i ∧ ks'.map Kid.L = (kids.take i).map Kid.L ∧ ∀ x ∈ ks', Fit x) ∧ Hid (Hold base w0 K0 wr (nodeR nb (.slice p0 its.length c0) (.slice p' i c') :: rowI (.slice p0 its.length c0) its :: rowN (.slice p' i c') ks' :: .subs (h - 1) ks' :: nodeR k.b v0 (.slice p1 N cap1) :: rowI v0 its :: rowN (.slice p1 N cap1) kids :: .subs (h - 1) kids :: l2)))
  case atStart => exact ⟨0, none, 0, [], by omega, by omega, rfl, ⟨rfl, rfl, fun x hx => by simp at hx⟩, HH4⟩
  case round =>
    obtain ⟨i, p', c', ks', hg, hi, rfl, HK, HR⟩ := hrel
    by_cases hin : i < N
    · have hz : (i : Int) < (N : Int) := by omega
      have hhp : 0 < h := by
        rcases unhide Hsh with ⟨_, h0⟩ | ⟨h0, _⟩
        · have := unhide HN; rw [h0] at this; simp at this; omega
        · exact h0
      obtain ⟨kk, hkk⟩ : ∃ kk, kids[i]? = some kk := ⟨_, List.getElem?_eq_getElem (by have := unhide HN; omega)⟩
      have hsplit : kids = kids.take i ++ kk :: kids.drop (i + 1) := by
        obtain ⟨hlt, rfl⟩ := List.getElem?_eq_some_iff.1 hkk
        rw [← List.drop_eq_getElem_cons hlt, List.take_append_drop]
      obtain ⟨ks1, hks1⟩ : ∃ a, kids.take i = a := ⟨_, rfl⟩
      obtain ⟨ks2, hks2⟩ : ∃ a, kids.drop (i + 1) = a := ⟨_, rfl⟩
      rw [hks1, hks2] at hsplit
      have r1 : wr.ownsRow base 128 1 (.slice p1 N cap1) N (kids.map fun y => ptrV y.b) := by have := (unhide HR).rowAt (v := .slice p1 N cap1) (e := 128) (k := 1) (n := kids.length) (xs := kids.map fun y => ptrV y.b) (by simp [rowN]); rwa [unhide HN] at this
      obtain ⟨g1, cap', e1, _⟩ := row_shape r1 (by omega)
      injection e1 with e1 _ e2
      subst e1 e2
      have pc := ptr_cell r1 hkk
      have q1 : wr.cell? ⟨nb, 1, none⟩ = some (.slice p' i c') := (unhide HR).cellAt (t := 188) (vs := [.slice p0 its.length c0, .slice p' i c']) (by simp [nodeR]) rfl
      have hfk : Fit kk := unhide Hfit kk (List.mem_of_getElem? hkk)
      have H5 : Hold base w0 K0 wr ([nodeR nb (.slice p0 its.length c0) (.slice p' i c'), rowI (.slice p0 its.length c0) its, rowN (.slice p' i c') ks', .subs (h - 1) ks', nodeR k.b v0 (.slice (some ⟨g1, 0, none⟩) N cap1), rowI v0 its, rowN (.slice (some ⟨g1, 0, none⟩) N cap1) kids] ++ .subs (h - 1) (ks1 ++ kk :: ks2) :: l2) := by rw [← hsplit]; exact unhide HR
      have H6 := (H5.take _).front _
      have eC : ∀ wx, Hold base w0 K0 wx (.sub (h - 1) kk :: ([nodeR nb (.slice p0 its.length c0) (.slice p' i c'), rowI (.slice p0 its.length c0) its, rowN (.slice p' i c') ks', .subs (h - 1) ks', nodeR k.b v0 (.slice (some ⟨g1, 0, none⟩) N cap1), rowI v0 its, rowN (.slice (some ⟨g1, 0, none⟩) N cap1) kids] ++ .subs (h - 1) (ks1 ++ ks2) :: l2)) → Calls Tryz.prog 109 #[.pointer (some ⟨kk.b, 0, none⟩)] wx fun e w' => CopyEnd base w0 K0 (h - 1) kk ([nodeR nb (.slice p0 its.length c0) (.slice p' i c'), rowI (.slice p0 its.length c0) its, rowN (.slice p' i c') ks', .subs (h - 1) ks', nodeR k.b v0 (.slice (some ⟨g1, 0, none⟩) N cap1), rowI v0 its, rowN (.slice (some ⟨g1, 0, none⟩) N cap1) kids] ++ .subs (h - 1) (ks1 ++ ks2) :: l2) e w' := fun wx hx => unhide IH hhp base w0 K0 wx kk _ hx hfk.2
      have eA : ∀ (w5 : World) (kk' : Kid), Hold base w0 K0 w5 (.sub (h - 1) kk' :: .sub (h - 1) kk :: ([nodeR nb (.slice p0 its.length c0) (.slice p' i c'), rowI (.slice p0 its.length c0) its, rowN (.slice p' i c') ks', .subs (h - 1) ks', nodeR k.b v0 (.slice (some ⟨g1, 0, none⟩) N cap1), rowI v0 its, rowN (.slice (some ⟨g1, 0, none⟩) N cap1) kids] ++ .subs (h - 1) (ks1 ++ ks2) :: l2)) → ∃ p6 c6 w6, (Builtin.append_ #[186, 186] 186 #[.slice p' i c', .slice (some ⟨w5.heap.size, 0, none⟩) 1 1]).run Tryz.prog (w5.alloc (.cells #[.pointer (some ⟨kk'.b, 0, none⟩)] 128)) = .ok (.slice p6 (i + 1) c6) w6 ∧ Hold base w0 K0 w6 ([.sub (h - 1) kk', .sub (h - 1) kk, nodeR nb (.slice p0 its.length c0) (.slice p' i c'), rowI (.slice p0 its.length c0) its] ++ rowN (.slice p6 (i + 1) c6) (ks' ++ [kk']) :: [.subs (h - 1) ks', nodeR k.b v0 (.slice (some ⟨g1, 0, none⟩) N cap1), rowI v0 its, rowN (.slice (some ⟨g1, 0, none⟩) N cap1) kids] ++ .subs (h - 1) (ks1 ++ ks2) :: l2) := by
        intro w5 kk' hx
        have hb5 : base ≤ w5.heap.size := hx.low (b := nb) (t := 188) (vs := [.slice p0 its.length c0, .slice p' i c']) (by simp [nodeR])
        have hx2 := hx.made hb5 128 [.pointer (some ⟨kk'.b, 0, none⟩)]
        obtain ⟨v', w', hrun, hold⟩ := hold_appendOneN (m := kk') [.sub (h - 1) kk', .sub (h - 1) kk, nodeR nb (.slice p0 its.length c0) (.slice p' i c'), rowI (.slice p0 its.length c0) its] hx2 (by have := (unhide HK).1; omega) 186
        have r6 := hold.rowAt (v := v') (e := 128) (k := 1) (n := (ks' ++ [kk']).length) (xs := (ks' ++ [kk']).map fun y => ptrV y.b) (by simp [rowN])
        obtain ⟨p6, c6, hv6⟩ := row_len r6
        rw [List.length_append, (unhide HK).1] at hv6
        rw [hv6] at hrun hold
        exact ⟨p6, c6, w', hrun, hold⟩
      have EC := hide eC
      have EA := hide eA
      have H6' := hide H6
      have Hs := hide hsplit
      have Hk1 := hide hks1
      have Hkk := hide hkk
      clear eC eA H5 H6 hsplit hks1 hks2 hkk r1 hfk
      go_wp2_with fail
      go_region_law (first
        | (refine step_call1I rfl 109 Tryz.func109 nm27 bd27 _ 128 rfl (.pointer (some ⟨kk.b, 0, none⟩)) (by simp [Act.eval, Act.put]) (unhide EC _ (unhide H6').drew) ?_
           rintro e w5 ⟨kk', rfl, hc5, hL5, H5⟩
           refine ⟨_, rfl, ?_⟩
           have k5 : w5.cell? ⟨nb, 1, none⟩ = some (.slice p' i c') := H5.cellAt (t := 188) (vs := [.slice p0 its.length c0, .slice p' i c']) (by simp [nodeR]) rfl
           have k5a : ∀ o, (w5.alloc o).cell? ⟨nb, 1, none⟩ = some (.slice p' i c') := fun o => Lib.cell?_alloc_some _ k5
           have Hc5 := hide hc5
           have HL5 := hide hL5
           have H5' := hide H5
           clear H5 hc5 hL5)
        | (obtain ⟨p6, c6, w6, hr6, H7⟩ := unhide EA w5 kk' (unhide H5')
           have k6 : w6.cell? ⟨nb, 1, none⟩ = some (.slice p' i c') := H7.cellAt (t := 188) (vs := [.slice p0 its.length c0, .slice p' i c']) (by simp [nodeR]) rfl
           have kf6 : w6.frozen? ⟨nb, 1, none⟩ = false := H7.frozenAt (t := 188) (vs := [.slice p0 its.length c0, .slice p' i c']) (by simp [nodeR]) 1
           have H7' := hide H7
           clear H7
           refine step_append_runI rfl _ _ 186 186 rfl (.slice p' i c') (.slice (some ⟨w5.heap.size, 0, none⟩) 1 1) (by simp [Act.eval, Act.put]) (by simp [Act.eval, Act.put]) hr6 ?_
           clear hr6))
      all_goals
        go_wp2_with fail
        go_roundg (N - i)
        case measure => omega
        case rel =>
          refine ⟨i + 1, p6, c6, ks' ++ [kk'], by omega, by omega, by simp, ?_, ?_⟩
          · obtain ⟨h1, h2, h3⟩ := unhide HK
            refine ⟨by simp [h1], ?_, fun x hx => ?_⟩
            · rw [List.map_append, h2, List.take_add_one, unhide Hkk]
              simp [unhide HL5]
            · simp at hx
              rcases hx with h | rfl
              · exact h3 x h
              · have := unhide Hfit kk (List.mem_of_getElem? (unhide Hkk))
                exact ⟨by rw [unhide Hc5]; exact this.1, by rw [unhide Hc5]; exact this.2⟩
          · have h8 := (unhide H7').store [.sub (h - 1) kk', .sub (h - 1) kk] 1 (.slice p6 (i + 1) c6) [.slice p0 its.length c0, .slice p6 (i + 1) c6] rfl
            have h9 := h8.copyIn
            rw [← unhide Hs] at h9
            exact h9
    · have hz : ¬ ((i : Int) < (N : Int)) := by omega
      have hiN : i = N := by omega
      subst hiN
      obtain ⟨h1, h2, h3⟩ := unhide HK
      rw [List.take_of_length_le (by have := unhide HN; omega)] at h2
      have hsh' : Shape h its ks' := by
        rcases unhide Hsh with ⟨h4, h5⟩ | ⟨h4, h5⟩
        · refine .inl ⟨h4, List.eq_nil_of_length_eq_zero ?_⟩
          have := unhide HN
          rw [h5] at this
          simp at this
          omega
        · exact .inr ⟨h4, by have := unhide HN; omega⟩
      obtain ⟨k', hb', hc', hL', H'⟩ := Hold.shut [] (unhide HR) hsh' h3
      have H'' := Hold.shutk [.sub h k'] H' (unhide Hcc) (unhide HL) (unhide Hsh) (unhide Hfit) (unhide Hown)
      have HE : Hid (CopyEnd base w0 K0 h k l2 (.returned (.pointer (some ⟨nb, 0, none⟩))) wr) := ⟨k', by rw [hb'], by rw [hc', unhide Hcc], by rw [hL', unhide HL, h2], H''⟩
      clear h1 h2 h3 hsh' hb' hc' hL' H' H''
      go_wp2_with fail
      go_ret
      exact unhide HE

theorem copied_all (h : Nat) : CopySpec h := by
  induction h with
  | zero => exact copied_step 0 (fun h => absurd h (by omega))
  | succ h ih => exact copied_step (h + 1) (fun _ => ih)

def TreeCopyEnd (base : Nat) (w0 : World) (K0 : Nat → Nat) (tb : Nat) (L : List Item) (l2 : List Res) (e : Ending) (w' : World) : Prop :=
  ∃ tb' h' k', e = .returned (.pointer (some ⟨tb', 0, none⟩)) ∧ k'.L = L ∧ k'.c ≤ 3 ∧ (h' = 0 ∨ 1 ≤ k'.c) ∧ TreeIn base w0 K0 w' tb L (.cell tb' 130 [ptrV k'.b] :: .sub h' k' :: l2)

set_option maxRecDepth 100000 in
theorem treeCopy_calls (base : Nat) (w0 : World) (K0 : Nat → Nat) (w : World) (tb : Nat) (L : List Item) (l2 : List Res) (HT : TreeIn base w0 K0 w tb L l2) :
    Calls Tryz.prog 67 #[.pointer (some ⟨tb, 0, none⟩)] w fun e w' => TreeCopyEnd base w0 K0 tb L l2 e w' := by
  obtain ⟨hs, h, k, hL, hc, hc1, H⟩ := HT
  have q0 : w.cell? ⟨tb, 0, none⟩ = some (.pointer (some ⟨k.b, 0, none⟩)) := H.cellAt (t := 130) (vs := [ptrV k.b]) (by simp) rfl
  have e1 := copied_all h base w0 K0 w k _ (H.front [_]) hc
  have E1 := hide e1
  have HL := hide hL
  have HS := hide hs
  have Hc1 := hide hc1
  clear e1 hL hs hc1 H
  go_enter Tryz.func67, Tryz.ntmps67
  go_wp2_with fail
  refine (unhide E1).mono ?_
  rintro e w2 ⟨k', rfl, hc', hL', H2⟩
  have hb2 : base ≤ w2.heap.size := H2.low (b := tb) (t := 130) (vs := [ptrV k.b]) (by simp)
  have H3 := H2.made hb2 130 [ptrV k'.b]
  have HE : Hid (TreeCopyEnd base w0 K0 tb L l2 (.returned (.pointer (some ⟨w2.heap.size, 0, none⟩))) (w2.alloc (.cells #[.pointer (some ⟨k'.b, 0, none⟩)] 130))) := by
    refine ⟨w2.heap.size, h, k', rfl, by rw [hL', unhide HL], by omega, ?_, unhide HS, h, k, unhide HL, hc, unhide Hc1, ?_⟩
    · rw [hc']; exact unhide Hc1
    · exact (H3.front [_, _]).front [_, _, _]
  clear hc' hL' H2 H3 E1
  go_wp2_with fail
  go_ret
  exact unhide HE
end Go.Proofs.YtjpmomklkkifjaaGreatDoor.T
namespace Go.Proofs.YtjpmomklkkifjaaGreatDoor.T
open Go.RowKit
open Go.Maps (Keyed)
set_option maxRecDepth 100000
set_option linter.unusedVariables false
set_option linter.unusedSimpArgs false

structure Twin (F F' : Forest) (v v' : NV) : Prop where
  id : v'.id = v.id
  kind : v'.kind = v.kind
  up : v'.up = v.up
  links : v'.links = v.links
  text : v'.text = v.text
  ents : entsK F' v' = entsK F v
  tree : v'.kind = 1 → ∃ tb, v'.tb = some tb ∧ tb ∈ F'.map (·.1)
inductive Twins (F F' : Forest) : List NV → List NV → Prop
  | nil : Twins F F' [] []
  | snoc {A B : List NV} {v v' : NV} : Twins F F' A B → Twin F F' v v' → Twins F F' (A ++ [v]) (B ++ [v'])

theorem lookF_new {F : Forest} {t tb : Nat} {L : List Item} (ht : t ∈ F.map (·.1)) (hn : tb ∉ F.map (·.1)) : lookF ((tb, L) :: F) t = lookF F t := by
  have he : (tb == t) = false := by
    have : tb ≠ t := fun e => hn (e ▸ ht)
    simpa using this
  simp [lookF, List.find?_cons, he]
theorem entsK_new {F : Forest} {v : NV} {tb : Nat} {L : List Item} (h : v.kind = 1 → ∃ t, v.tb = some t ∧ t ∈ F.map (·.1)) (hn : tb ∉ F.map (·.1)) : entsK ((tb, L) :: F) v = entsK F v := by
  unfold entsK
  split
  · rename_i hk
    obtain ⟨t, e, ht⟩ := h hk
    unfold entsOf
    rw [e]
    exact lookF_new ht hn
  · rfl
theorem Twin.more {F F' : Forest} {v v' : NV} {tb : Nat} {L : List Item} (h : Twin F F' v v') (hn : tb ∉ F'.map (·.1)) : Twin F ((tb, L) :: F') v v' :=
  ⟨h.id, h.kind, h.up, h.links, h.text, by rw [entsK_new h.tree hn]; exact h.ents, fun hk => by obtain ⟨t, e, ht⟩ := h.tree hk; exact ⟨t, e, by simp; exact .inr (by simpa using ht)⟩⟩
theorem Twins.more {F F' : Forest} {A B : List NV} {tb : Nat} {L : List Item} (h : Twins F F' A B) (hn : tb ∉ F'.map (·.1)) : Twins F ((tb, L) :: F') A B := by
  induction h with
  | nil => exact .nil
  | snoc _ ht ih => exact .snoc ih (ht.more hn)
theorem Twins.ids {F F' : Forest} {A B : List NV} (h : Twins F F' A B) : B.map NV.id = A.map NV.id := by
  induction h with
  | nil => rfl
  | snoc _ ht ih => rw [List.map_append, List.map_append, ih, List.map_cons, List.map_cons, ht.id]
theorem Twins.length {F F' : Forest} {A B : List NV} (h : Twins F F' A B) : B.length = A.length := by
  have := congrArg List.length h.ids
  simpa using this
theorem putN_snoc {N : List NV} {v : NV} (h : v.id ∉ N.map NV.id) : putN N v = N ++ [v] := by
  unfold putN
  have : (findN N v.id).isSome = false := by
    cases hf : findN N v.id with
    | none => rfl
    | some u => exact absurd (List.mem_map.2 ⟨u, (findN_some hf).1, (findN_some hf).2⟩) h
  rw [this]
  rfl

abbrev gR (gb gm : Nat) (N' : List NV) (next : Int) (rs' l : List Res) : List Res := .cell gb 77 [.map (some gm), .int .i64 next] :: .obj gm (IsMapN N') :: (rs' ++ l)

variable {w0 w w' : World} {fb mb : Nat} {N : List NV} {F : Forest} {next : Int} {l2 : List Res}
theorem FSIn.swap {gb gm : Nat} {N' : List NV} {F' : Forest} {next' : Int} {rs' : List Res} (hF' : ForR F' rs') (h : FSIn w0 w fb mb N F next (gR gb gm N' next' rs' l2)) :
    ∃ rs, ForR F rs ∧ FSIn w0 w gb gm N' F' next' (gR fb mb N next rs l2) := by
  obtain ⟨rs, hr, H⟩ := h
  refine ⟨rs, hr, rs', hF', H.conv (fun x => ?_) fun r hr => H.sat r ?_⟩
  · simp only [total_append, total_cons]; omega
  · simp only [List.mem_append, List.mem_cons] at hr ⊢
    rcases hr with h | h | h | h | h | h | h <;> simp [h]

theorem ranges_same {H : Type} {P : Program} {k : TypeId} {R : Value → Option (DataW H × List MemPlace)} {b r n : Nat} {D : DataW H} {left : Lit → Bool} {cnt : Nat}
    (h : w.ranges P k R b r n D left cnt) (hb : w'.heap[b]? = w.heap[b]?) (hr : w'.heap[r]? = w.heap[r]?) : w'.ranges P k R b r n D left cnt := by
  obtain ⟨es, clock, since, seen, c0, h1, h2, h3, h4, h5, rest⟩ := h
  exact ⟨es, clock, since, seen, c0, hb.trans h1, h2, h3, h4, hr.trans h5, rest⟩

theorem FSIn.copyTree {X : Res} {rb gb gm : Nat} {N' : List NV} {next' : Int} {rs' : List Res} (h : FSIn w0 w fb mb N F next (X :: someB rb :: gR gb gm N' next' rs' l2)) {tb : Nat} (ht : tb ∈ F.map (·.1)) :
    Calls Tryz.prog 67 #[.pointer (some ⟨tb, 0, none⟩)] w fun e w' => ∃ tb' h' k', e = .returned (.pointer (some ⟨tb', 0, none⟩)) ∧ Sorted (lookF F tb) ∧ k'.L = lookF F tb ∧ k'.c ≤ 3 ∧ (h' = 0 ∨ 1 ≤ k'.c) ∧
      FSIn w0 w' fb mb N F next (X :: someB rb :: gR gb gm N' next' (.cell tb' 130 [ptrV k'.b] :: .sub h' k' :: rs') l2) ∧ w'.heap[mb]? = w.heap[mb]? ∧ w'.heap[rb]? = w.heap[rb]? := by
  have hsame := setF_same F tb fun x hx e => by rw [← e, lookF_mem h.nodup hx]
  obtain ⟨rs, hr, H⟩ := h
  obtain ⟨h', k, rs1, rs2, rfl, a1, a2, a3, a4, a5⟩ := hr.split ht
  obtain ⟨hmb, om, hom, him⟩ := H.sat (.obj mb (IsMapN N)) (by simp)
  obtain ⟨hrb, orr, hor, _⟩ := H.sat (someB rb) (by simp)
  have HT : TreeIn w0.heap.size w0 (fun _ => 0) w tb (lookF F tb) (.cell fb 77 [.map (some mb), .int .i64 next] :: .obj mb (fun o => o = om) :: .obj rb (fun o => o = orr) :: (rs1 ++ rs2 ++ (X :: gR gb gm N' next' rs' l2))) := by
    refine ⟨a1, h', k, a2, a3, a4, H.conv (fun x => ?_) (fun r hr => ?_)⟩
    · simp only [total_append, total_cons, foot_obj]; omega
    · simp only [List.mem_append, List.mem_cons] at hr
      rcases hr with h | h | h | h | h | (h | h) | h | h | h | h | h
      · exact H.sat r (by simp [h])
      · exact H.sat r (by simp [h])
      · exact H.sat r (by simp [h])
      · rw [h]; exact ⟨hmb, om, hom, rfl⟩
      · rw [h]; exact ⟨hrb, orr, hor, rfl⟩
      all_goals exact H.sat r (by simp [h])
  refine (treeCopy_calls _ _ _ w tb _ _ HT).mono ?_
  rintro e w' ⟨tb', h2, k2, rfl, b1, b2, b3, s1, h3, k3, c1, c2, c3, H2⟩
  obtain ⟨_, o1, ho1, rfl⟩ := H2.sat (.obj mb (fun o => o = om)) (by simp)
  obtain ⟨_, o2, ho2, rfl⟩ := H2.sat (.obj rb (fun o => o = orr)) (by simp)
  refine ⟨tb', h2, k2, rfl, a1, b1, b2, b3, ?_, ho1.trans hom.symm, ho2.trans hor.symm⟩
  have hR := a5 h3 k3 (lookF F tb) s1 c1 c2 c3 fun x hx t vs e => by
    have h3 := H2.uniq tb
    subst e
    have h4 : 1 ≤ total (rs1 ++ rs2) tb := by
      have := total_mem hx tb
      rw [foot_cell, one_self] at this
      exact this
    simp only [total_append, total_cons, foot_cell, one_self] at h3 h4
    omega
  rw [hsame] at hR
  refine ⟨rs1 ++ .cell tb 130 [ptrV k3.b] :: .sub h3 k3 :: rs2, hR, H2.conv (fun x => ?_) (fun r hr => ?_)⟩
  · simp only [total_append, total_cons, foot_obj]; omega
  · simp only [List.mem_append, List.mem_cons] at hr
    rcases hr with h | h | (h | h | h | h) | h | h | h | h | (h | h | h) | h
    · exact H2.sat r (by simp [h])
    · rw [h]; exact ⟨hmb, _, ho1, him⟩
    · exact H2.sat r (by simp [h])
    · exact H2.sat r (by simp [h])
    · exact H2.sat r (by simp [h])
    · exact H2.sat r (by simp [h])
    · exact H2.sat r (by simp [h])
    · rw [h]; exact ⟨hrb, _, ho2, trivial⟩
    all_goals exact H2.sat r (by simp [h])

theorem FSIn.putCopy {X : Res} {rb gb gm : Nat} {N' : List NV} {next' : Int} {rs' : List Res} (h : FSIn w0 w fb mb N F next (X :: someB rb :: gR gb gm N' next' rs' l2)) (hN : N'.length ≤ 1000) (v : NV) (hi : WfI v.id) :
    ∃ w', (Instr.mapUpdate 75 (.map (some gm)) (.int .i64 v.id) v.val).run Tryz.prog w = .ok () w' ∧ FSIn w0 w' fb mb N F next (X :: someB rb :: gR gb gm (putN N' v) next' rs' l2) ∧ w'.heap[mb]? = w.heap[mb]? ∧ w'.heap[rb]? = w.heap[rb]? := by
  obtain ⟨rs, hr, H⟩ := h
  obtain ⟨hmb, om, hom, him⟩ := H.sat (.obj mb (IsMapN N)) (by simp)
  obtain ⟨hrb, orr, hor, _⟩ := H.sat (someB rb) (by simp)
  have H1 : Hold w0.heap.size w0 (fun _ => 0) w ((.cell fb 77 [.map (some mb), .int .i64 next] :: .obj mb (fun o => o = om) :: (rs ++ (X :: .obj rb (fun o => o = orr) :: [.cell gb 77 [.map (some gm), .int .i64 next']]))) ++ .obj gm (IsMapN N') :: (rs' ++ l2)) := by
    refine H.conv (fun x => ?_) (fun r hr => ?_)
    · simp only [total_append, total_cons, total_nil, foot_obj]; omega
    · simp only [List.mem_append, List.mem_cons, List.not_mem_nil, or_false] at hr
      rcases hr with (h | h | h | h | h | h) | h | h | h
      · exact H.sat r (by simp [h])
      · rw [h]; exact ⟨hmb, om, hom, rfl⟩
      · exact H.sat r (by simp [h])
      · exact H.sat r (by simp [h])
      · rw [h]; exact ⟨hrb, orr, hor, rfl⟩
      all_goals exact H.sat r (by simp [h])
  obtain ⟨w', hrun, H2⟩ := Hold.mapPut _ H1 hN v hi
  obtain ⟨_, o1, ho1, rfl⟩ := H2.sat (.obj mb (fun o => o = om)) (by simp)
  obtain ⟨_, o2, ho2, rfl⟩ := H2.sat (.obj rb (fun o => o = orr)) (by simp)
  refine ⟨w', hrun, ⟨rs, hr, H2.conv (fun x => ?_) (fun r hr => ?_)⟩, ho1.trans hom.symm, ho2.trans hor.symm⟩
  · simp only [total_append, total_cons, total_nil, foot_obj]; omega
  · simp only [List.mem_append, List.mem_cons] at hr
    rcases hr with h | h | h | h | h | h | h | h | h
    · exact H2.sat r (by simp [h])
    · rw [h]; exact ⟨hmb, _, ho1, him⟩
    · exact H2.sat r (by simp [h])
    · exact H2.sat r (by simp [h])
    · rw [h]; exact ⟨hrb, _, ho2, trivial⟩
    all_goals exact H2.sat r (by simp [h])
end Go.Proofs.YtjpmomklkkifjaaGreatDoor.T
