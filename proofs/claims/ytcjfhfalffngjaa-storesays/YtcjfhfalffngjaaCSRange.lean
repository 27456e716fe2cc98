/-
  The contract of the store's cut, and of the function that it hands out: a text's pieces are handed on, one behind the other; the text that is left lies in a block of the function's own. A range over a function whose loop and rounds are told in pieces: the loop's record and the block for deferred calls are pieces as others are.
-/
import Derived.RangeFuncNested
import Derived.RangeFuncBound
import Derived.RangeFuncCalls
import Derived.RangeFuncLeaves
import Derived.Shelf.Abstract
import Derived.Shelf.RegionOpen
import Derived.WalkKit
import Derived.OwnWalkIn
import Derived.TacticsInMore
import Derived.LoopNIn
import Derived.LoopIn
import Derived.Test.YtcjfhfalffngjaaCSText
import Derived.Test.YtcjfhfalffngjaaCRPure
import Derived.Test.YtcjfhfalffngjaaCLMem
namespace Go.Proofs.Ytcjfhfalffngjaa
open Go.RowKit Go.Lib
set_option maxRecDepth 100000
set_option linter.unusedVariables false
set_option linter.unusedSimpArgs false
attribute [local go_sem] Oper.semAt_some

theorem cut_calls (s : ByteArray) (w : World) : Calls Try.prog 93 #[.string s] w fun e w' => e = .returned (.func (.func 100) #[] #[.pointer (some ⟨w.heap.size, 0, none⟩)]) ∧ w' = w.alloc (.cells #[.string s] 9) := by
  go_enter Try.func93, Try.ntmps93
  go_wp2_with fail
  go_ret
  exact ⟨rfl, rfl⟩

set_option maxHeartbeats 2000000 in
theorem cut1_in (n l Bx : Nat) (hn : 1 ≤ n) (J J' : Nat → ByteArray → World → Prop) (Jx : World → Prop)
    (hJ : ∀ k s W, J k s W → W.cell? ⟨Bx, 0, none⟩ = some (.string s) ∧ W.frozen? ⟨Bx, 0, none⟩ = false)
    (hJ' : ∀ k s W, J' k s W → W.cell? ⟨Bx, 0, none⟩ = some (.string s) ∧ W.frozen? ⟨Bx, 0, none⟩ = false ∧ J (k + 1) (s.extract (min s.size 140) s.size) (W.setCell ⟨Bx, 0, none⟩ (.string (s.extract (min s.size 140) s.size))))
    (hY : ∀ k s W, J k s W → 0 < s.size → YieldAt Fence.wide (n - 1) Try.prog l #[.int .i64 k, .string (s.extract 0 (min s.size 140))] W fun e W' => (e = .returned (.bool true) ∧ J' k s W') ∨ (e = .returned (.bool false) ∧ Jx W'))
    (T : ByteArray) (hT : T.size ≤ 1000000) (W : World) (h0 : J 0 T W) :
    CallsIn Fence.wide n Try.prog 100 #[.func (.yield l) #[] #[], .pointer (some ⟨Bx, 0, none⟩)] W fun e W' => (∃ v, e = .returned v) ∧ ((∃ m s, s.size = 0 ∧ J m s W') ∨ Jx W') := by
  have HJ := hide hJ
  have HJ2 := hide hJ'
  have HY := hide hY
  have H0 := hide h0
  clear hJ hJ' hY h0
  refine callsIn_of_wp Try.func100 rfl trivial ?_ rfl
  simp only [Try.ntmps100, List.size_toArray, List.length_cons, List.length_nil, Nat.reduceAdd, Nat.reduceSub, Array.replicate_succ, Array.replicate_zero, List.push_toArray, List.append_toArray, List.nil_append, List.cons_append]
  gi_wp2
  gi_loopw [3] (fun p wr => ∃ (k : Nat) (s : ByteArray), p = .int .i64 k ∧ s.size + k ≤ T.size ∧ Hid (J k s wr))
    (fun p wr => T.size + 1 - (RowKit.intOf p).toNat)
  case atStart => exact ⟨0, T, rfl, by omega, H0⟩
  case round =>
    clear H0
    obtain ⟨k, s, rfl, hk, HJs⟩ := hrel
    obtain ⟨hc, hf⟩ := unhide HJ k s wr (unhide HJs)
    by_cases hz : s.size = 0
    · have hs : s = ⟨#[]⟩ := by
        cases s with | mk d => 
        have : d = #[] := Array.eq_empty_of_size_eq_zero hz
        rw [this]
      have HJs' := HJs
      clear HJs
      subst hs
      gi_wp2
      go_end0
      exact ⟨⟨_, rfl⟩, .inl ⟨k, _, rfl, unhide HJs'⟩⟩
    · have hpos : 0 < s.size := by omega
      have hs : s.toList.isEmpty = false := by
        rw [ByteArray.toList_eq] 
        cases hd : s.data.toList with
        | nil => exfalso; have : s.data.toList.length = 0 := by rw [hd]; rfl
                 rw [Array.length_toList] at this; exact hz this
        | cons a l => rfl
      obtain ⟨fn, tmps, assign, body, hy, hR⟩ := unhide HY k s wr (unhide HJs) hpos
      have hmn : min (s.size : Int) 140 = ((min s.size 140 : Nat) : Int) := by omega
      have HR := hide hR
      have hb1 : ((min s.size 140 : Nat) : Int) ≤ (s.size : Int) := by omega
      have hb0 : (0 : Int) ≤ ((min s.size 140 : Nat) : Int) := by omega
      obtain ⟨mn, hmm⟩ : ∃ mn, min s.size 140 = mn := ⟨_, rfl⟩
      rw [hmm] at hy hmn hb1 hb0
      clear hR
      gi_wp2
      refine (unhide HR).mono ?_
      rintro e W3 (⟨rfl, hJ3⟩ | ⟨rfl, hJx3⟩)
      · obtain ⟨hc3, hf3, hset3⟩ := unhide HJ2 _ _ _ hJ3
        rw [hmm] at hset3
        gi_wp2
        go_roundw
        case rel =>
          refine ⟨k + 1, s.extract mn s.size, by simp, ?_, hset3⟩
          rw [ByteArray.size_extract]
          omega
        case measure =>
          simp only [RowKit.intOf, List.getElem?_toArray, Array.getD]
          omega
      · gi_wp2
        refine bodyPost_ret (results_none rfl _ _ _) rfl ?_
        exact ⟨⟨_, rfl⟩, .inr hJx3⟩
#print axioms cut1_in
end Go.Proofs.Ytcjfhfalffngjaa
namespace Go.Proofs.Ytcjfhfalffngjaa
open Go.RowKit Go.Lib
set_option linter.unusedVariables false
set_option linter.unusedSimpArgs false

section
variable {w0 w : World}
theorem Kept.putObj {S : Nat → Prop} {a w : World} (h : Kept S a w) {b : Nat} (hp : b < a.heap.size → S b) (o : Obj) : Kept S a (w.putObj b o) :=
  h.grown (grownBy_putObj' w b o) (fun k e hk => by cases e; exact hp hk)
theorem Hold.putObj (l1 : List Res) {b : Nat} {o : Obj} {l2 : List Res} (h : Hold w0 w (l1 ++ .obj b o :: l2)) (o' : Obj) : Hold w0 (w.putObj b o') (l1 ++ .obj b o' :: l2) := by
  have hc := h.sat (.obj b o) (by simp)
  exact h.put l1 (Kept.putObj (Kept.refl _ w) (fun _ => by show 0 < one b b; rw [one_self]; decide) o') ⟨hc.1, World.putObj_heap_same (Array.getElem?_eq_some_iff.1 hc.2).1⟩ (fun x _ => Nat.le_refl _)
theorem Hold.newObj {rs : List Res} (h : Hold w0 w rs) (o : Obj) : Hold w0 (w.alloc o) (.obj w.heap.size o :: rs) :=
  h.new ((Kept.refl _ w).alloc _) ⟨h.size, World.alloc_heap_new w o⟩ (fun x hx => by obtain rfl := one_pos.1 hx; exact Nat.le_refl _)
theorem Hold.objAt {rs : List Res} (h : Hold w0 w rs) {b : Nat} {o : Obj} (hm : Res.obj b o ∈ rs) : w.heap[b]? = some o := (h.sat _ hm).2
end
theorem DiskIn.putObj {w0 w : World} {db : Nat} {d : DK} (l1 : List Res) {b : Nat} {o : Obj} {l2 : List Res} (h : DiskIn w0 w db d (l1 ++ .obj b o :: l2)) (o' : Obj) : DiskIn w0 (w.putObj b o') db d (l1 ++ .obj b o' :: l2) := by
  obtain ⟨dp, h1, h2⟩ := h.back
  refine h2 _ _ ?_
  rw [List.append_assoc] at h1 ⊢
  exact h1.putObj l1 o'
theorem DiskIn.newObj {w0 w : World} {db : Nat} {d : DK} {l2 : List Res} (h : DiskIn w0 w db d l2) (o : Obj) : DiskIn w0 (w.alloc o) db d (.obj w.heap.size o :: l2) := by
  obtain ⟨dp, h1, h2⟩ := h.back
  exact h2 _ _ (h1.newObj o)


/-- Where such a loop begins. -/
theorem range_atF {F : Fence} (hro : F.round = none) (hF : ∀ f, F.fn f) (hde : F.depth.isSome = false) {n : Nat} {P : Program} {g : Operand} {ps : Array Tmp} {assign body : Code} {Q : Exit → Go.Act → World → Prop} {a : Go.Act} {w : World} {gf : Nat} {lb : Array Value}
    (hg : a.eval g = .func (.func gf) #[] lb) (eg : ∀ args w, (callFunc gf args).run P w = .ok (.enter gf args) w)
    (h : ∀ (fn : FuncId), CallsIn F (n - 1) P gf (#[.func (.yield (w.heap.size + 1)) #[] #[]] ++ lb)
      ((w.alloc (.deferred (some []))).alloc (.loop { state := .ready, pending := none, fn := fn, tmps := a.tmps, params := ps, assign := assign, body := body, defers := w.heap.size }))
      (rangePost F n P (w.heap.size + 1) Q { a with defers := [{ target := .collected w.heap.size, args := #[] }] ++ a.defers })) :
    (Code.rangeFunc g ps assign body).wpIn F n P Q a w := by
  refine wpIn_rangeFunc ?_
  intro fn hfn
  rw [hro]
  have hf := h fn
  have he := run_enterLoop_outer (P := P) (w := w) fn a.tmps ps assign body
  obtain ⟨W1, hW1⟩ : ∃ W1, (w.alloc (.deferred (some []))).alloc (.loop { state := .ready, pending := none, fn := fn, tmps := a.tmps, params := ps, assign := assign, body := body, defers := w.heap.size }) = W1 := ⟨_, rfl⟩
  rw [hW1] at hf he
  refine ⟨w.heap.size + 1, [{ target := .collected w.heap.size, args := #[] }], W1, { target := .fn (.func gf) lb, args := #[.func (.yield (w.heap.size + 1)) #[] #[]] }, W1, gf,
    #[.func (.yield (w.heap.size + 1)) #[] #[]] ++ lb, W1, he, ?_, ?_, ?_, ?_, ?_⟩
  · simp only [resolve, hg]
    simp [go_sem]
  · exact fun f' _ => hF f'
  · simp [invoke, go_sem, eg]
  · intro hd
    rw [hde] at hd
    cases hd
  · exact hf

/-- One round. -/
theorem round_at {n : Nat} {P : Program} {l : Nat} {W : World} {r : Loop} {args : Array Value} {R : Ending → World → Prop} (hl : W.heap[l]? = some (.loop r)) (hs : args.size = r.params.size)
    (h : r.assign.wpIn (Fence.wide.inRound l) n P (Exit.then (fun a₁ w₁ => ∃ w₂, (Instr.beginRound l).run P w₁ = .ok () w₂ ∧ r.body.wpIn (Fence.wide.inRound l) n P (roundPost P l R) a₁ w₂) (fun _ _ _ => False))
      { tmps := (r.params.zip args).foldl (fun t (p, v) => t.setIfInBounds p v) r.tmps, defers := [] } W) : YieldAt Fence.wide n P l args W R :=
  ⟨_, _, _, _, run_yield hl hs, roundIn_of_wpIn trivial h⟩
theorem round_at2 {n : Nat} {P : Program} {l : Nat} {W : World} {r : Loop} {args : Array Value} {R : Ending → World → Prop} {a₁ : Go.Act} (hl : W.heap[l]? = some (.loop r)) (hst : r.state = .ready) (hs : args.size = r.params.size)
    (hassign : ∀ K : Go.Act → World → Prop, K a₁ W → r.assign.wpIn (Fence.wide.inRound l) n P (Exit.then K (fun _ _ _ => False)) { tmps := (r.params.zip args).foldl (fun t (p, v) => t.setIfInBounds p v) r.tmps, defers := [] } W)
    (hbody : r.body.wpIn (Fence.wide.inRound l) n P (roundPost P l R) a₁ (W.putObj l (.loop { r with state := .busy }))) : YieldAt Fence.wide n P l args W R :=
  round_at hl hs (hassign _ ⟨_, run_beginRound hl hst, hbody⟩)
theorem range_at {n : Nat} {P : Program} {g : Operand} {ps : Array Tmp} {assign body : Code} {Q : Exit → Go.Act → World → Prop} {a : Go.Act} {w : World} {gf : Nat} {lb : Array Value}
    (hg : a.eval g = .func (.func gf) #[] lb) (eg : ∀ args w, (callFunc gf args).run P w = .ok (.enter gf args) w)
    (h : ∀ (fn : FuncId) (r : Loop), r = { state := .ready, pending := none, fn := fn, tmps := a.tmps, params := ps, assign := assign, body := body, defers := w.heap.size } → CallsIn Fence.wide (n - 1) P gf (#[.func (.yield (w.heap.size + 1)) #[] #[]] ++ lb)
      ((w.alloc (.deferred (some []))).alloc (.loop r))
      (rangePost Fence.wide n P (w.heap.size + 1) Q { a with defers := [{ target := .collected w.heap.size, args := #[] }] ++ a.defers })) :
    (Code.rangeFunc g ps assign body).wp P Q a w := (wpIn_wide (n := n)).1 (range_atF (F := Fence.wide) rfl (fun _ => True.intro) rfl hg eg (fun fn => h fn _ rfl))
/-- One way through a piece of code, whatever follows. -/
theorem wpIn_cut {F : Fence} {n : Nat} {P : Program} {c : Code} {Q : Exit → Go.Act → World → Prop} {a : Go.Act} {w : World} (fr : Go.Act) (X : World → Prop) (h : c.wpIn F n P (fun e a' w' => e = .normal ∧ a' = fr ∧ X w') a w) (h2 : ∀ w', X w' → Q .normal fr w') : c.wpIn F n P Q a w :=
  Go.wpIn_mono h fun e a' w' hx => by
    obtain ⟨rfl, rfl, hw⟩ := hx
    exact h2 _ hw
#print axioms range_at
#print axioms round_at
end Go.Proofs.Ytcjfhfalffngjaa
