/-
  The contract of grown: folders and files by acts. LightActs tells that acts are few and short. The contract of grown, out of its acts; and of FS.Find. The contract of FS.Find. The contract of node.walk with the function that After hands it, over the seat's program: the entries behind a key are told in order, as long as they are wanted.
-/
import Derived.Test.YtjpmomklkkifjaaGreatDoorCFDone
import Derived.Test.YtjpmomklkkifjaaGreatDoorCBWalkFacts
import Derived.Test.YtjpmomklkkifjaaGreatDoorCBPutFacts
import Derived.Deep.QuietTactic
import Derived.BigQuiet
import Derived.BigRegion
namespace Go.Proofs.YtjpmomklkkifjaaGreatDoor.T
open Go.RowKit
set_option maxRecDepth 100000
set_option linter.unusedVariables false
set_option linter.unusedSimpArgs false

def GrownEnd (w0 : World) (l2 : List Res) (e : Ending) (w' : World) : Prop :=
  (e = .returned (.tuple #[.pointer none, .bool false]) ∧ H0 w0 w' l2) ∨ ∃ fb mb N F next, e = .returned (.tuple #[.pointer (some ⟨fb, 0, none⟩), .bool true]) ∧ FSIn w0 w' fb mb N F next l2 ∧ Good 60 N F next

def LightTold (n most : Nat) (f : Nat → ActD) (e : Ending) : Prop := ∃ r : Bool, e = .returned (.bool r) ∧ (r = true → n ≤ most ∧ ∀ j, j < n → (f j).s.size ≤ 200 ∧ (f j).t.size ≤ 200)

set_option maxHeartbeats 2000000 in
theorem grown_of {w0 w : World} {l2 : List Res} (hR : Ready w0) (h : H0 w0 w l2) (hb : w0.heap.size ≤ w.heap.size) (va : Value) (na : Nat) (fa : Nat → ActD) (hA : ActsOk w0 va na fa)
    (hLA : Calls Tryz.prog 32 #[va, .int .i64 60] w fun e w' => LightTold na 60 fa e ∧ w' = w) :
    Calls Tryz.prog 14 #[va] w fun e w' => GrownEnd w0 l2 e w' := by
  have hsl : ∃ p c, va = .slice p na c := by
    rcases hA with ⟨⟨p, c, h1⟩, h2⟩ | ⟨b, off, c, h1, _⟩
    · exact ⟨p, c, by rw [h2]; exact h1⟩
    · exact ⟨_, c, h1⟩
  obtain ⟨pv, cv, hv⟩ := hsl
  subst hv
  have HA := hide hA
  have HL := hide hLA
  have hnew := fsNew_calls h hb
  have HNw := hide hnew
  have HH := hide h
  have HR := hide hR
  clear hA hLA hnew h hR
  go_enter Tryz.func14, Tryz.ntmps14
  go_wp2_with fail
  refine (unhide HL).mono ?_
  rintro e w2 ⟨⟨r, rfl, hr⟩, rfl⟩
  clear HL
  cases r with
  | false =>
    clear hr
    go_wp2_with fail
    go_ret2
    exact .inl ⟨rfl, unhide HH⟩
  | true =>
    obtain ⟨hna, hsz⟩ := hr rfl
    have HSz := hide hsz
    clear hr hsz
    go_wp2_with fail
    refine (unhide HNw).mono ?_
    rintro e w3 ⟨fb, mb, tb, rfl, h3⟩
    have H3 : Hid (∃ N F next, FSIn w0 w3 fb mb N F next l2 ∧ Good 0 N F next) := ⟨_, _, _, h3, good_new tb⟩
    clear h3 HNw
    go_wp2_with fail
    go_loopg [5] (na + 1) (fun g vi wr => ∃ (i : Nat), na - i < g ∧ i ≤ na ∧ vi = .int .i64 i ∧ Hid (∃ N F next, FSIn w0 wr fb mb N F next l2 ∧ Good i N F next))
    case atStart => exact ⟨0, by omega, by omega, rfl, H3⟩
    case round =>
      obtain ⟨i, hg, hi, rfl, HI⟩ := hrel
      clear H3
      by_cases hin : i < na
      · have hiz : (i : Int) < (na : Int) := by omega
        obtain ⟨N, F, next, hI, hGd⟩ := unhide HI
        rcases unhide HA with ⟨_, h0⟩ | ⟨b, off, c, hv, hn63, hbb, hcells⟩
        · omega
        injection hv with hp _ hcc
        subst hp hcc
        obtain ⟨p0, p1, p2, p3, ⟨uk, p4⟩, p5, pch⟩ := hcells i hin
        have below := hI.below
        have hcb : ∀ p : Addr, p.block = b → wr.cell? p = w0.cell? p := fun p hp => World.cell?_of_block (w := w0) (below.block p.block (by rw [hp]; exact hbb))
        have q0 := (hcb ⟨b, off + i * 6, none⟩ rfl).trans p0
        have q1 := (hcb ⟨b, off + i * 6 + 1, none⟩ rfl).trans p1
        have q2 := (hcb ⟨b, off + i * 6 + 2, none⟩ rfl).trans p2
        have q3 := (hcb ⟨b, off + i * 6 + 3, none⟩ rfl).trans p3
        have q4 := (hcb ⟨b, off + i * 6 + 4, none⟩ rfl).trans p4
        have q5 := (hcb ⟨b, off + i * 6 + 5, none⟩ rfl).trans p5
        obtain ⟨hs1, hs2⟩ := unhide HSz i hin
        have hsl : ∃ cp cn cc, (fa i).ch = .slice cp cn cc := by
          rcases pch with ⟨p, c, h1⟩ | ⟨b, off, m, c, h1, _⟩
          · exact ⟨_, _, _, h1⟩
          · exact ⟨_, _, _, h1⟩
        obtain ⟨cp, cn, cc, hch⟩ := hsl
        rw [hch] at q5
        have hd := done_good (unhide HR) hI hGd (by omega) (fa i) uk cp cn cc (by omega) (by omega)
        have HD := hide hd
        clear hI hGd hcells p0 p1 p2 p3 p4 p5 pch below hcb hd HI hch
        go_wp2_with fail
        refine (unhide HD).mono ?_
        rintro e w4 ⟨o, N', F', next', rfl, h4, hG4⟩
        have HI4 : Hid (∃ N F next, FSIn w0 w4 fb mb N F next l2 ∧ Good (i + 1) N F next) := ⟨_, _, _, h4, hG4⟩
        obtain ⟨ov, hov⟩ : ∃ ov, errV o = ov := ⟨_, rfl⟩
        rw [hov]
        clear h4 hG4 HD hov
        go_wp2_with fail
        go_roundg (na - i)
        case measure => omega
        case rel => exact ⟨i + 1, by omega, by omega, by simp, HI4⟩
      · have hiz : ¬ (i : Int) < (na : Int) := by omega
        go_wp2_with fail
        go_ret2
        obtain ⟨N, F, next, hI, hGd⟩ := unhide HI
        exact .inr ⟨fb, mb, N, F, next, rfl, hI, hGd.mono (by omega)⟩
end Go.Proofs.YtjpmomklkkifjaaGreatDoor.T
namespace Go.Proofs.YtjpmomklkkifjaaGreatDoor.T
open Go.RowKit
set_option linter.unusedVariables false
set_option linter.unusedSimpArgs false

set_option maxRecDepth 100000 in
set_option maxHeartbeats 1000000 in
theorem lightActs_told (v : Value) (n : Nat) (f : Nat → ActD) (w : World) (h : ActsOk w v n f) (most : Nat) (hm : most ≤ 1000) :
    Calls Tryz.prog 32 #[v, .int .i64 most] w fun e w' => LightTold n most f e ∧ w' = w := by
  rcases h with ⟨⟨p, c, rfl⟩, rfl⟩ | ⟨b, off, c, rfl, hn63, hb, hc⟩
  · go_enter Tryz.func32, Tryz.ntmps32
    have hz : ¬ ((most : Int) < 0) := by omega
    go_wp2_with fail
    go_loopg [5] 1 (fun g vi wr => vi = .int .i64 0 ∧ wr = w)
    case atStart => exact ⟨rfl, rfl⟩
    case round =>
      obtain ⟨rfl, rfl⟩ := hrel
      go_wp2_with fail
      go_ret
      exact ⟨⟨true, rfl, fun _ => ⟨Nat.zero_le _, fun j hj => by omega⟩⟩, rfl⟩
  · have HC := hide hc
    clear hc
    by_cases hmm : most < n
    · have hz : (most : Int) < (n : Int) := by omega
      go_enter Tryz.func32, Tryz.ntmps32
      go_wp2_with fail
      go_ret
      exact ⟨⟨false, rfl, fun h => by cases h⟩, rfl⟩
    · have hz : ¬ ((most : Int) < (n : Int)) := by omega
      go_enter Tryz.func32, Tryz.ntmps32
      go_wp2_with fail
      go_loopg [5] (n + 1) (fun g vi wr => ∃ i : Nat, n - i < g ∧ i ≤ n ∧ vi = .int .i64 i ∧ wr = w ∧ Hid (∀ j, j < i → (f j).s.size ≤ 200 ∧ (f j).t.size ≤ 200))
      case atStart => exact ⟨0, by omega, by omega, rfl, rfl, fun j hj => by omega⟩
      case round =>
        obtain ⟨i, hg, hi, rfl, rfl, HSz⟩ := hrel
        by_cases him : i < n
        · have hiz : (i : Int) < (n : Int) := by omega
          obtain ⟨_, q1, q2, _, _, q5, hch⟩ := unhide HC i him
          have e1 := lightChanges_calls (f i).ch wr hch 16 (by omega)
          have E1 := hide e1
          have hsh : ∃ p m c', (f i).ch = .slice p m c' := by
            rcases hch with ⟨p', c', h⟩ | ⟨b', o', m', c', h, _⟩
            · exact ⟨_, _, _, h⟩
            · exact ⟨_, _, _, h⟩
          obtain ⟨S, hS⟩ : ∃ S, (f i).s = S := ⟨_, rfl⟩
          obtain ⟨T, hT⟩ : ∃ T, (f i).t = T := ⟨_, rfl⟩
          obtain ⟨V, hV⟩ : ∃ V, (f i).ch = V := ⟨_, rfl⟩
          rw [hS] at q1
          rw [hT] at q2
          rw [hV] at q5 E1 hsh
          obtain ⟨p, m', c', rfl⟩ := hsh
          have Hst : Hid (S.size ≤ 200 → T.size ≤ 150 → ∀ j, j < i + 1 → (f j).s.size ≤ 200 ∧ (f j).t.size ≤ 200) := fun h1 h2 j hj => by
            rcases Nat.lt_or_ge j i with h | h
            · exact unhide HSz j h
            · obtain rfl : j = i := by omega
              rw [hS, hT]; exact ⟨h1, by omega⟩
          clear e1 hch hS hT hV
          by_cases h1 : 200 < S.size
          · have hz1 : (200 : Int) < (S.size : Int) := by omega
            go_wp2_with fail
            go_ret
            exact ⟨⟨false, rfl, fun h => by cases h⟩, rfl⟩
          · have hz1 : ¬ ((200 : Int) < (S.size : Int)) := by omega
            by_cases h2 : 150 < T.size
            · have hz2 : (150 : Int) < (T.size : Int) := by omega
              go_wp2_with fail
              go_ret
              exact ⟨⟨false, rfl, fun h => by cases h⟩, rfl⟩
            · have hz2 : ¬ ((150 : Int) < (T.size : Int)) := by omega
              go_wp2_with fail
              refine (unhide E1).mono ?_
              rintro e w3 ⟨⟨r, rfl⟩, rfl⟩
              cases r with
              | true =>
                go_wp2_with fail
                go_roundg (n - i)
                case measure => omega
                case rel => exact ⟨i + 1, by omega, by omega, by simp, rfl, unhide Hst (by omega) (by omega)⟩
              | false =>
                go_wp2_with fail
                go_ret
                exact ⟨⟨false, rfl, fun h => by cases h⟩, rfl⟩
        · have hiz : ¬ ((i : Int) < (n : Int)) := by omega
          go_wp2_with fail
          go_ret
          exact ⟨⟨true, rfl, fun _ => ⟨by omega, fun j hj => unhide HSz j (by omega)⟩⟩, rfl⟩

end Go.Proofs.YtjpmomklkkifjaaGreatDoor.T
namespace Go.Proofs.YtjpmomklkkifjaaGreatDoor.T
open Go.RowKit
set_option maxRecDepth 100000
set_option linter.unusedVariables false
set_option linter.unusedSimpArgs false

theorem cell_later {w w' : World} (hb : Below w.heap.size w w') {p : Addr} {v : Value} (h : w.cell? p = some v) : w'.cell? p = some v :=
  (World.cell?_of_block (w := w) (hb.block p.block (World.block_lt_of_cell? _ _ h))).trans h
theorem ChOk.later {w w' : World} {v : Value} (h : ChOk w v) (hb : Below w.heap.size w w') : ChOk w' v := by
  rcases h with h | ⟨b, off, m, c, h1, h2, h3⟩
  · exact .inl h
  · refine .inr ⟨b, off, m, c, h1, h2, fun j hj => ?_⟩
    obtain ⟨key, val, k1, k2⟩ := h3 j hj
    exact ⟨key, val, cell_later hb k1, cell_later hb k2⟩
theorem ActsOk.later {w w' : World} {v : Value} {n : Nat} {f : Nat → ActD} (h : ActsOk w v n f) (hb : Below w.heap.size w w') : ActsOk w' v n f := by
  rcases h with h | ⟨b, off, c, h1, h2, h3, h4⟩
  · exact .inl h
  · have hs := hb.size
    refine .inr ⟨b, off, c, h1, h2, by omega, fun j hj => ?_⟩
    obtain ⟨p0, p1, p2, p3, ⟨u, p4⟩, p5, p6⟩ := h4 j hj
    exact ⟨cell_later hb p0, cell_later hb p1, cell_later hb p2, cell_later hb p3, ⟨u, cell_later hb p4⟩, cell_later hb p5, p6.later hb⟩
theorem grown_calls {w0 w : World} {l2 : List Res} (hR : Ready w0) (h : H0 w0 w l2) (va : Value) (na : Nat) (fa : Nat → ActD) (hA : ActsOk w0 va na fa) :
    Calls Tryz.prog 14 #[va] w fun e w' => GrownEnd w0 l2 e w' :=
  grown_of hR h h.below.size va na fa hA (lightActs_told va na fa w (hA.later h.below) 60 (by decide))
end Go.Proofs.YtjpmomklkkifjaaGreatDoor.T
namespace Go.Proofs.YtjpmomklkkifjaaGreatDoor.T
open Go.RowKit
set_option maxRecDepth 100000
set_option linter.unusedVariables false
set_option linter.unusedSimpArgs false

theorem results_five {fn : Func} {p u : Tmp} (h : fn.results = #[.cell p 33, .tmp u]) (tmps : Array Value) (w : World) (g : Nat) (a b c d e : Value) {v : Value}
    (hp : tmps.getD p undef = .pointer (some ⟨g, 0, none⟩)) (hu2 : tmps.getD u undef = v) (hg : w.heap[g]? = some (.cells #[a, b, c, d, e] 33 (0, 0))) :
    (results fn tmps).run Tryz.prog w = .ok (.tuple #[.agg #[a, b, c, d, e], v]) w := by
  have hr := run_loadVar_row (P := Tryz.prog) w g 33 33 #[a, b, c, d, e] (0, 0) _ hg Tryz.underlying33 rfl (by kernel_rfl)
  rw [results_cell_tmp h, hp, hu2]
  simp [asAddr, hr]
def findRet (r : Except Int NV) : Value := .tuple #[.agg #[.int .i64 (resN r).id, .int .i64 (resN r).kind, .int .i64 (resN r).up, .int .i64 (resN r).links, .string (resN r).text], errV (resE r)]

variable (w0 w : World) (fb mb : Nat) (N : List NV) (F : Forest) (next : Int) (l2 : List Res)
set_option maxHeartbeats 2000000 in
theorem fsFind_calls (hR : Ready w0) (h : FSIn w0 w fb mb N F next l2) (hF : Fits N F next) (s : ByteArray) (hs : s.size ≤ 4000000000) :
    Calls Tryz.prog 21 #[.pointer (some ⟨fb, 0, none⟩), .string s] w fun e w' => e = .returned (findRet (findP N F s)) ∧ FSIn w0 w' fb mb N F next l2 := by
  obtain ⟨B, hB⟩ : ∃ B, w.heap.size = B := ⟨_, rfl⟩
  have h1 := h.made 33 [.int .i64 0, .int .i64 0, .int .i64 0, .int .i64 0, .string ⟨#[]⟩]
  rw [hB] at h1
  have hf := ffind_calls w0 _ fb mb N F next _ hR h1 hF s hs
  generalize findP N F s = r at hf ⊢
  clear h h1 hF hR
  unfold StepEnd nodeRet at hf
  unfold findRet
  obtain ⟨u, hu⟩ : ∃ u, resN r = u := ⟨_, rfl⟩
  obtain ⟨ov, hov⟩ : ∃ ov, errV (resE r) = ov := ⟨_, rfl⟩
  have hovs : ∃ t v, ov = .iface t v ∨ ov = .nilIface := by
    rw [← hov]
    cases resE r with
    | none => exact ⟨0, .nilIface, .inr rfl⟩
    | some k => exact ⟨_, _, .inl rfl⟩
  rw [hu, hov] at hf ⊢
  unfold NV.val at hf
  have HFl := hide hf
  clear hf hu hov
  go_enter Tryz.func21, Tryz.ntmps21
  go_wp2_with fail
  refine (unhide HFl).mono ?_
  rintro e w2 ⟨rfl, h2⟩
  obtain ⟨C, hC⟩ : ∃ C, w2.heap.size = C := ⟨_, rfl⟩
  have h3 := h2.made 80 [.int .i64 u.id, .int .i64 u.kind, .int .i64 u.up, .int .i64 u.links, .string u.text, .pointer u.ptr]
  rw [hC] at h3
  obtain ⟨w3, hw3⟩ : ∃ w3, w2.alloc (.cells [.int .i64 u.id, .int .i64 u.kind, .int .i64 u.up, .int .i64 u.links, .string u.text, .pointer u.ptr].toArray 80) = w3 := ⟨_, rfl⟩
  rw [hw3] at h3
  have b0 : w3.cell? ⟨B, 0, none⟩ = some (.int .i64 0) := h3.cellAt (.tail _ (.head _)) rfl
  have b1 : w3.cell? ⟨B, 1, none⟩ = some (.int .i64 0) := h3.cellAt (.tail _ (.head _)) rfl
  have b2 : w3.cell? ⟨B, 2, none⟩ = some (.int .i64 0) := h3.cellAt (.tail _ (.head _)) rfl
  have b3 : w3.cell? ⟨B, 3, none⟩ = some (.int .i64 0) := h3.cellAt (.tail _ (.head _)) rfl
  have b4 : w3.cell? ⟨B, 4, none⟩ = some (.string ⟨#[]⟩) := h3.cellAt (.tail _ (.head _)) rfl
  have f0 := h3.frozenAt (b := B) (.tail _ (.head _)) 0
  have f1 := h3.frozenAt (b := B) (.tail _ (.head _)) 1
  have f2 := h3.frozenAt (b := B) (.tail _ (.head _)) 2
  have f3 := h3.frozenAt (b := B) (.tail _ (.head _)) 3
  have f4 := h3.frozenAt (b := B) (.tail _ (.head _)) 4
  obtain ⟨k0, k1, k2, k3, k4, k5, _⟩ := h3.six (b := C) (.head _)
  have H3 := hide h3
  clear h2 h3 HFl
  go_wp2_with fail
  have s0 := FSIn.store [_] (unhide H3) 0 (.int .i64 u.id) _ rfl
  have s1 := FSIn.store [_] s0 1 (.int .i64 u.kind) _ rfl
  have s2 := FSIn.store [_] s1 2 (.int .i64 u.up) _ rfl
  have s3 := FSIn.store [_] s2 3 (.int .i64 u.links) _ rfl
  have s4 := FSIn.store [_] s3 4 (.string u.text) _ rfl
  refine bodyPost_ret (results_five (p := 4) (u := 5) rfl _ _ B _ _ _ _ _ rfl rfl (s4.heapAt (t := 33) (.tail _ (.head _)))) rfl ?_
  exact ⟨rfl, (s4.forget []).forget []⟩
end Go.Proofs.YtjpmomklkkifjaaGreatDoor.T
namespace Go.Proofs.YtjpmomklkkifjaaGreatDoor.T
open Go.RowKit Go.Lib
set_option maxRecDepth 100000
set_option linter.unusedVariables false
set_option linter.unusedSimpArgs false

def SeeSpecA (base : Nat) (w0 : World) (K0 : Nat → Nat) (ob nb : Nat) (S : List Item → List Res → Prop) (more : List Item → Bool) : Prop :=
  ∀ (w : World) (acc : List Item) (rs : List Res) (it : Item) (l2 : List Res), S acc rs → acc.length < 1000 → Hold base w0 K0 w (rs ++ l2) →
    Calls Tryz.prog 86 #[.agg #[.string it.name, .int .i64 it.node], .pointer (some ⟨ob, 0, none⟩), .pointer (some ⟨nb, 0, none⟩)] w fun e w' => SeeEnd base w0 K0 S more acc it l2 e w'

def WalkSpecA (base : Nat) (w0 : World) (K0 : Nat → Nat) (ob nb : Nat) (S : List Item → List Res → Prop) (more : List Item → Bool) (key : ByteArray) (h : Nat) : Prop :=
  ∀ (w : World) (k : Kid) (acc : List Item) (rs : List Res) (l2 : List Res), S acc rs → acc.length + k.L.length ≤ 1000 → Hold base w0 K0 w (rs ++ .sub h k :: l2) → Sorted k.L → k.c ≤ 3 →
    Calls Tryz.prog 85 #[.pointer (some ⟨k.b, 0, none⟩), .string key, .func (.func 86) #[] #[.pointer (some ⟨ob, 0, none⟩), .pointer (some ⟨nb, 0, none⟩)]] w fun e w' => WalkEnd base w0 K0 S more key h k acc l2 e w'

set_option maxRecDepth 100000 in
set_option maxHeartbeats 4000000 in
theorem walkA_leaf (base : Nat) (w0 : World) (K0 : Nat → Nat) (ob nb : Nat) (S : List Item → List Res → Prop) (more : List Item → Bool) (key : ByteArray) (hsee : SeeSpecA base w0 K0 ob nb S more) (w : World) (k : Kid) (acc0 : List Item) (rs0 : List Res) (l2 : List Res) (hS : S acc0 rs0) (hlen : acc0.length + k.L.length ≤ 1000) (H : Hold base w0 K0 w (rs0 ++ .sub 0 k :: l2)) (hs : Sorted k.L) (hc : k.c ≤ 3) :
    Calls Tryz.prog 85 #[.pointer (some ⟨k.b, 0, none⟩), .string key, .func (.func 86) #[] #[.pointer (some ⟨ob, 0, none⟩), .pointer (some ⟨nb, 0, none⟩)]] w fun e w' => WalkEnd base w0 K0 S more key 0 k acc0 l2 e w' := by
  obtain ⟨its, kids, v0, v1, hcc, hL, hsh, hfit, hown, H1⟩ := H.openk rs0
  have hk0 : kids = [] := by rcases hsh with ⟨_, h⟩ | ⟨h, _⟩; exact h; omega
  subst hk0
  simp only [List.map_nil, inter_nil] at hL
  obtain ⟨b, hb⟩ : ∃ b, k.b = b := ⟨_, rfl⟩
  obtain ⟨n, hn⟩ : ∃ n, its.length = n := ⟨_, rfl⟩
  have hn3 : n ≤ 3 := by omega
  rw [hL] at hs hlen
  rw [hb] at H1 ⊢
  have e1 := find_calls b v0 its key w (H1.cellAt (b := b) (t := 188) (vs := [v0, v1]) (by simp [nodeR]) (j := 0) rfl) base (H1.rowAt (by simp [rowI])) hs (by omega)
  have E1 := hide e1
  have HH := hide H1
  have HS := hide hS
  have Hsee := hide hsee
  have Hs := hide hs
  have HL := hide hL
  have Hcc := hide hcc
  have Hown := hide hown
  have Hb := hide hb
  have Hn := hide hn
  clear e1 H H1 hS hsee hs hL hcc hown hsh hfit hb hn
  go_enter Tryz.func85, Tryz.ntmps85
  go_wp2_with fail
  refine (unhide E1).mono ?_
  rintro e w2 ⟨at', is', rfl, hF, hB⟩
  have H3 := hide ((unhide HH).below hB)
  have han : at' ≤ n := by have := unhide Hn; have := hF.1; omega
  have Hst : Hid (tell more acc0 (afterL its key) = tell more acc0 (afterL (its.drop at') key)) := by
    have := after_from (its := its) (ls := []) (key := key) (.inl rfl) (by rw [inter_nil]; exact unhide Hs) hF.1 hF.2.1
    rw [inter_nil, rest_leaf] at this
    show _ = _
    rw [this]
  clear HH hB E1 hF
  go_wp2_with fail
  go_loopg [9] (n + 2) (fun g vi wr => ∃ (i : Nat) (acc : List Item) (rs : List Res), n + 1 - i < g ∧ i ≤ n + 1 ∧ vi = .int .i64 i ∧ acc.length + (its.drop i).length ≤ 1000 ∧ Hid (S acc rs) ∧ Hid (tell more acc0 (afterL its key) = tell more acc (afterL (its.drop i) key)) ∧ Hid (Hold base w0 K0 wr (rs ++ nodeR b v0 v1 :: rowI v0 its :: rowN v1 [] :: .subs (0 - 1) [] :: l2)))
  case atStart => exact ⟨at', acc0, rs0, by omega, by omega, rfl, by rw [List.length_drop]; omega, HS, Hst, H3⟩
  case round =>
    obtain ⟨i, acc, rs, hg, hi, rfl, hal, HSr, HT, HR⟩ := hrel
    have h4 := unhide HR
    have r0 : wr.ownsRow base 190 3 v0 n (flat its) := by have := unhide Hn; rw [← this]; exact h4.rowAt (by simp [rowI])
    have q0 : wr.cell? ⟨b, 0, none⟩ = some v0 := h4.cellAt (t := 188) (vs := [v0, v1]) (by simp [nodeR]) rfl
    have q1 : wr.cell? ⟨b, 1, none⟩ = some v1 := h4.cellAt (t := 188) (vs := [v0, v1]) (by simp [nodeR]) rfl
    have e2 := leaf_calls b v0 v1 0 wr q1 base [] (h4.rowAt (by simp [rowN])) (by omega)
    have E2 := hide e2
    by_cases hin : i < n
    · obtain ⟨g0, cap0, hv0, hc0, hm0⟩ := row_shape r0 (by omega)
      have hin' : i < its.length := by have := unhide Hn; omega
      obtain ⟨x, hx⟩ : ∃ x, its[i]? = some x := ⟨_, List.getElem?_eq_getElem hin'⟩
      rw [hv0] at r0 q0
      obtain ⟨s1, s2, s3⟩ := item_cell r0 (j := i) (x := x) hx
      have hdrop : its.drop i = x :: its.drop (i + 1) := by
        obtain ⟨g2, rfl⟩ := List.getElem?_eq_some_iff.1 hx
        exact List.drop_eq_getElem_cons g2
      have hz : (i : Int) ≤ (n : Int) := by omega
      have hz2 : (i : Int) < (n : Int) := by omega
      have Hdrop := hide hdrop
      clear e2 r0 h4 hx hdrop q1
      by_cases hgt : kLt key x.key
      · obtain ⟨hb1, hb2⟩ := greater_yes hgt
        have hb3 : (x.key.toList == key.toList) = false := by simp [hb2]
        have e3 := unhide Hsee wr acc rs x _ (unhide HSr) (by have := unhide Hdrop; rw [this] at hal; simp at hal; omega) (unhide HR)
        obtain ⟨ans, hans⟩ : ∃ ans, more (acc ++ [x]) = ans := ⟨_, rfl⟩
        have E3 := hide e3
        have HA := hide hans
        clear e3 hans hv0
        go_wp2_with fail
        refine (unhide E2).mono ?_
        rintro e w3 ⟨rfl, rfl⟩
        go_wp2_with fail
        refine (unhide E3).mono ?_
        rintro e w4 ⟨rs', rfl, hS', H5⟩
        rw [unhide HA]
        have HS' := hide hS'
        have HH5 := hide H5
        clear hS' H5 q0 s1 s2 s3 HR E2 E3
        have htell : tell more acc0 (afterL its key) = if ans then tell more (acc ++ [x]) (afterL (its.drop (i + 1)) key) else (acc ++ [x], false) := by
          rw [unhide HT, unhide Hdrop, afterL_cons, if_pos hgt, tell_cons, unhide HA]
        have HTe := hide htell
        clear htell
        cases ans with
        | true =>
          go_wp2_with fail
          go_roundg (n + 1 - i)
          case measure => omega
          case rel => exact ⟨i + 1, acc ++ [x], rs', by omega, by omega, by simp, by have := unhide Hdrop; rw [this] at hal; simp at hal ⊢; omega, HS', (unhide HTe), HH5⟩
        | false =>
          go_wp2_with fail
          go_ret
          have hT := unhide HTe
          simp only [Bool.false_eq_true, if_false] at hT
          refine ⟨rs', by rw [unhide HL, hT]; rfl, by rw [unhide HL, hT]; exact unhide HS', Hold.shutk (v0 := v0) (v1 := v1) rs' (by rw [unhide Hb]; exact unhide HH5) (unhide Hcc) (by rw [unhide HL]; simp [inter_nil]) (.inl ⟨rfl, rfl⟩) (by simp) (unhide Hown)⟩
      · have hb1 := greater_no hgt
        clear hv0
        go_wp2_with fail
        refine (unhide E2).mono ?_
        rintro e w3 ⟨rfl, rfl⟩
        go_wp2_with fail
        go_roundg (n + 1 - i)
        case measure => omega
        case rel => exact ⟨i + 1, acc, rs, by omega, by omega, by simp, by have := unhide Hdrop; rw [this] at hal; simp at hal ⊢; omega, HSr, (by show _ = _; rw [unhide HT, unhide Hdrop, afterL_cons, if_neg hgt]), HR⟩
    · obtain ⟨p0, cap0, hv0⟩ := row_len r0
      rw [hv0] at q0
      have hni : its.drop i = [] := List.drop_eq_nil_of_le (by have := unhide Hn; omega)
      have Hni := hide hni
      clear e2 r0 h4 q1 hni hv0
      have hz2 : ¬ ((i : Int) < (n : Int)) := by omega
      by_cases hin2 : i ≤ n
      · have hz : (i : Int) ≤ (n : Int) := by omega
        go_wp2_with fail
        refine (unhide E2).mono ?_
        rintro e w3 ⟨rfl, rfl⟩
        go_wp2_with fail
        go_roundg (n + 1 - i)
        case measure => omega
        case rel => exact ⟨i + 1, acc, rs, by omega, by omega, by simp, by have := unhide Hni; rw [this] at hal; rw [List.drop_eq_nil_of_le (by have := unhide Hn; omega)]; exact hal, HSr, (by show _ = _; rw [unhide HT, unhide Hni, List.drop_eq_nil_of_le (by have := unhide Hn; omega)]), HR⟩
      · have hz : ¬ ((i : Int) ≤ (n : Int)) := by omega
        go_wp2_with fail
        go_ret
        have hT := unhide HT
        rw [unhide Hni] at hT
        refine ⟨rs, by rw [unhide HL, hT]; rfl, by rw [unhide HL, hT]; exact unhide HSr, Hold.shutk (v0 := v0) (v1 := v1) rs (by rw [unhide Hb]; exact unhide HR) (unhide Hcc) (by rw [unhide HL]; simp [inter_nil]) (.inl ⟨rfl, rfl⟩) (by simp) (unhide Hown)⟩

set_option maxRecDepth 100000 in
set_option maxHeartbeats 4000000 in
theorem walkA_inner (base : Nat) (w0 : World) (K0 : Nat → Nat) (ob nb : Nat) (S : List Item → List Res → Prop) (more : List Item → Bool) (key : ByteArray) (hsee : SeeSpecA base w0 K0 ob nb S more) (h : Nat) (ih : WalkSpecA base w0 K0 ob nb S more key h) (w : World) (k : Kid) (acc0 : List Item) (rs0 : List Res) (l2 : List Res) (hS : S acc0 rs0) (hlen : acc0.length + k.L.length ≤ 1000) (H : Hold base w0 K0 w (rs0 ++ .sub (h + 1) k :: l2)) (hs : Sorted k.L) (hc : k.c ≤ 3) :
    Calls Tryz.prog 85 #[.pointer (some ⟨k.b, 0, none⟩), .string key, .func (.func 86) #[] #[.pointer (some ⟨ob, 0, none⟩), .pointer (some ⟨nb, 0, none⟩)]] w fun e w' => WalkEnd base w0 K0 S more key (h + 1) k acc0 l2 e w' := by
  obtain ⟨its, kids, v0, v1, hcc, hL, hsh, hfit, hown, H1⟩ := H.openk rs0
  have hk0 : kids.length = its.length + 1 := by rcases hsh with ⟨h, _⟩ | ⟨_, h⟩; omega; exact h
  obtain ⟨b, hb⟩ : ∃ b, k.b = b := ⟨_, rfl⟩
  obtain ⟨n, hn⟩ : ∃ n, its.length = n := ⟨_, rfl⟩
  have hn3 : n ≤ 3 := by omega
  have hk1 : (kids.map Kid.L).length = its.length + 1 := by simpa using hk0
  rw [hL] at hs hlen
  rw [hb] at H1 ⊢
  have e1 := find_calls b v0 its key w (H1.cellAt (b := b) (t := 188) (vs := [v0, v1]) (by simp [nodeR]) (j := 0) rfl) base (H1.rowAt (by simp [rowI])) (hs.items (.inr hk1)) (by omega)
  have E1 := hide e1
  have HH := hide H1
  have HS := hide hS
  have Hsee := hide hsee
  have IH := hide ih
  have Hs := hide hs
  have HL := hide hL
  have Hcc := hide hcc
  have Hown := hide hown
  have Hb := hide hb
  have Hn := hide hn
  have Hk0 := hide hk0
  have Hk1 := hide hk1
  have Hsh := hide hsh
  have Hfit := hide hfit
  have Hlen := hide hlen
  clear e1 H H1 hS hsee ih hs hL hcc hown hsh hfit hb hn hk0 hk1 hlen
  go_enter Tryz.func85, Tryz.ntmps85
  go_wp2_with fail
  refine (unhide E1).mono ?_
  rintro e w2 ⟨at', is', rfl, hF, hB⟩
  have H3 := hide ((unhide HH).below hB)
  have han : at' ≤ n := by have := unhide Hn; have := hF.1; omega
  have Hst : Hid (tell more acc0 (afterL (inter its (kids.map Kid.L)) key) = tell more acc0 (afterL (restL its (kids.map Kid.L) at') key)) := by
    show _ = _
    rw [after_from (.inr (unhide Hk1)) (unhide Hs) hF.1 hF.2.1]
  have hal0 : acc0.length + (restL its (kids.map Kid.L) at').length ≤ 1000 := by
    have h1 := unhide Hlen
    have h2 := rest_length its (kids.map Kid.L) at' (.inr (unhide Hk1)) hF.1
    omega
  have Hal0 := hide hal0
  clear HH hB E1 hF hal0
  go_wp2_with fail
  go_loopg [9] (n + 2) (fun g vi wr => ∃ (i : Nat) (acc : List Item) (rs : List Res), n + 1 - i < g ∧ i ≤ n + 1 ∧ vi = .int .i64 i ∧ Hid (acc.length + (restL its (kids.map Kid.L) i).length ≤ 1000) ∧ Hid (S acc rs) ∧ Hid (tell more acc0 (afterL (inter its (kids.map Kid.L)) key) = tell more acc (afterL (restL its (kids.map Kid.L) i) key)) ∧ Hid (Hold base w0 K0 wr (rs ++ nodeR b v0 v1 :: rowI v0 its :: rowN v1 kids :: .subs h kids :: l2)))
  case atStart => exact ⟨at', acc0, rs0, by omega, by omega, rfl, Hal0, HS, Hst, H3⟩
  case round =>
    obtain ⟨i, acc, rs, hg, hi, rfl, Hal, HSr, HT, HR⟩ := hrel
    have h4 := unhide HR
    have r0 : wr.ownsRow base 190 3 v0 n (flat its) := by have := unhide Hn; rw [← this]; exact h4.rowAt (by simp [rowI])
    have q0 : wr.cell? ⟨b, 0, none⟩ = some v0 := h4.cellAt (t := 188) (vs := [v0, v1]) (by simp [nodeR]) rfl
    have q1 : wr.cell? ⟨b, 1, none⟩ = some v1 := h4.cellAt (t := 188) (vs := [v0, v1]) (by simp [nodeR]) rfl
    obtain ⟨p0, cap0, hv0⟩ := row_len r0
    by_cases hin2 : i ≤ n
    · have hz : (i : Int) ≤ (n : Int) := by omega
      have r1 : wr.ownsRow base 128 1 v1 (n + 1) (kids.map fun y => ptrV y.b) := by have h1 := unhide Hn; have h2 := unhide Hk0; rw [← h1, ← h2]; exact h4.rowAt (by simp [rowN])
      have e2 := leaf_calls b v0 v1 (n + 1) wr q1 base _ r1 (by omega)
      rw [show decide (n + 1 = 0) = false from by simp] at e2
      have E2 := hide e2
      obtain ⟨g1, cap1, hv1, hc1, hm1⟩ := row_shape r1 (by omega)
      have hik : i < kids.length := by have h1 := unhide Hn; have h2 := unhide Hk0; omega
      obtain ⟨ks1, kk, ks2, hkids, hks1⟩ : ∃ ks1 kk ks2, kids = ks1 ++ kk :: ks2 ∧ ks1.length = i := ⟨kids.take i, kids[i], kids.drop (i + 1), by rw [← List.drop_eq_getElem_cons hik, List.take_append_drop], by rw [List.length_take]; omega⟩
      have hkki : kids[i]? = some kk := by rw [hkids, ← hks1]; simp
      have hkkL : (kids.map Kid.L)[i]? = some kk.L := by rw [List.getElem?_map, hkki]; rfl
      rw [hv1] at r1 q1
      have p1 := ptr_cell r1 (j := i) (k := kk) hkki
      have hfk : Fit kk := unhide Hfit kk (by rw [hkids]; simp)
      -- what is left from here on
      obtain ⟨rest, hrest⟩ : ∃ rest, restL its (kids.map Kid.L) i = kk.L ++ rest := by
        rcases Nat.lt_or_ge i n with h1 | h1
        · exact ⟨_, rest_item (unhide Hk1) hkkL (List.getElem?_eq_getElem (by have := unhide Hn; omega))⟩
        · refine ⟨[], ?_⟩
          have h2 : its.length = i := by have := unhide Hn; omega
          rw [← h2, List.append_nil]
          exact rest_last (unhide Hk1) (by rw [h2]; exact hkkL)
      have hskk : Sorted kk.L := by
        have h1 := unhide Hs
        rw [hkids, List.map_append, List.map_cons] at h1
        have h2 := inter_split (its.take i) (ks1.map Kid.L) (its.drop i) kk.L (ks2.map Kid.L) (by have := unhide Hn; simp; omega) (by have h5 := unhide Hk0; rw [hkids] at h5; simp at h5 ⊢; omega)
        rw [List.take_append_drop] at h2
        rw [h2] at h1
        exact h1.mid
      have halk : acc.length + kk.L.length ≤ 1000 := by have h1 := unhide Hal; rw [hrest, List.length_append] at h1; omega
      have h5 : Hold base w0 K0 wr (rs ++ .sub h kk :: nodeR b v0 v1 :: rowI v0 its :: rowN v1 kids :: .subs h (ks1 ++ ks2) :: l2) := by
        rw [hkids] at h4 ⊢
        exact h4.kidOut rs
      have e3 := unhide IH wr kk acc rs _ (unhide HSr) halk h5 hskk hfk.2
      have E3 := hide e3
      obtain ⟨acc1, hacc1⟩ : ∃ acc1, (tell more acc (afterL kk.L key)).1 = acc1 := ⟨_, rfl⟩
      obtain ⟨ans1, hans1⟩ : ∃ ans1, (tell more acc (afterL kk.L key)).2 = ans1 := ⟨_, rfl⟩
      have hal1 : acc1.length + rest.length ≤ 1000 := by
        have h1 := unhide Hal
        rw [hrest, List.length_append] at h1
        have h2 := tell_length more (afterL kk.L key) acc
        rw [hacc1] at h2
        have h3 := afterL_length kk.L key
        omega
      have HT2 : Hid (tell more acc0 (afterL (inter its (kids.map Kid.L)) key) = if ans1 then tell more acc1 (afterL rest key) else (acc1, false)) := by
        show _ = _
        rw [unhide HT, hrest, afterL_append, tell_append, hacc1, hans1]
        cases ans1 with
        | true => rfl
        | false => simp only [Bool.false_eq_true, if_false]; rw [← hacc1, ← hans1]
      have Hrest := hide hrest
      have Hal1 := hide hal1
      have Hkids := hide hkids
      have Hacc1 := hide hacc1
      have Hans1 := hide hans1
      have HkkL := hide hkkL
      have hv0' := hide hv0
      have hv1' := hide hv1
      have hiz1 : (i : Int) < (n : Int) + 1 := by omega
      clear e2 e3 r0 r1 h4 h5 hrest hal1 hkids hacc1 hans1 hkkL hskk halk hkki hks1 hfk hik
      rw [hv0] at q0
      clear hv0 hv1
      go_wp2_with fail
      refine (unhide E2).mono ?_
      rintro e w3 ⟨rfl, rfl⟩
      go_wp2_with fail
      refine (unhide E3).mono ?_
      rintro e w4 ⟨rs', rfl, hS', H6⟩
      rw [unhide Hans1]
      rw [unhide Hacc1] at hS'
      have H7 : Hold base w0 K0 w4 (rs' ++ nodeR b v0 v1 :: rowI v0 its :: rowN v1 kids :: .subs h kids :: l2) := by
        have hk := unhide Hkids
        rw [hk] at H6 ⊢
        exact H6.kidIn rs'
      have q0' : w4.cell? ⟨b, 0, none⟩ = some v0 := H7.cellAt (t := 188) (vs := [v0, v1]) (by simp [nodeR]) rfl
      have r0' : w4.ownsRow base 190 3 v0 n (flat its) := by have := unhide Hn; rw [← this]; exact H7.rowAt (by simp [rowI])
      rw [unhide hv0'] at q0'
      have HS' := hide hS'
      have HH7 := hide H7
      have Hr0 := hide r0'
      clear hS' H6 H7 q0 q1 p1 HR E2 E3 Hans1 Hacc1 HSr HT r0'
      cases ans1 with
      | false =>
        go_wp2_with fail
        go_ret
        have hT := unhide HT2
        simp only [Bool.false_eq_true, if_false] at hT
        refine ⟨rs', by rw [unhide HL, hT]; rfl, by rw [unhide HL, hT]; exact unhide HS', Hold.shutk (v0 := v0) (v1 := v1) rs' (by rw [unhide Hb]; exact unhide HH7) (unhide Hcc) (unhide HL) (unhide Hsh) (unhide Hfit) (unhide Hown)⟩
      | true =>
        have hT := unhide HT2
        simp only [if_true] at hT
        have HT3 := hide hT
        clear hT HT2
        by_cases hin : i < n
        · obtain ⟨g0, cap0', hv0, hc0, hm0⟩ := row_shape (unhide Hr0) (by omega)
          have hv00 := unhide hv0'
          rw [hv0] at hv00
          injection hv00 with hp hnn hcap
          subst hp hcap
          have hin' : i < its.length := by have := unhide Hn; omega
          obtain ⟨x, hx⟩ : ∃ x, its[i]? = some x := ⟨_, List.getElem?_eq_getElem hin'⟩
          have hr0 := unhide Hr0
          rw [hv0] at hr0
          obtain ⟨s1, s2, s3⟩ := item_cell hr0 (j := i) (x := x) hx
          have hre : rest = x :: restL its (kids.map Kid.L) (i + 1) := by
            have h1 := rest_item (unhide Hk1) (unhide HkkL) hx
            rw [unhide Hrest] at h1
            exact List.append_cancel_left h1
          have Hre := hide hre
          have hz2 : (i : Int) < (n : Int) := by omega
          clear hr0 hx hre hv0 hnn
          by_cases hgt : kLt key x.key
          · obtain ⟨hb1, hb2⟩ := greater_yes hgt
            have hb3 : (x.key.toList == key.toList) = false := by simp [hb2]
            have e4 := unhide Hsee w4 acc1 rs' x _ (unhide HS') (by have h1 := unhide Hal1; rw [unhide Hre] at h1; simp at h1; omega) (unhide HH7)
            obtain ⟨ans, hans⟩ : ∃ ans, more (acc1 ++ [x]) = ans := ⟨_, rfl⟩
            have E4 := hide e4
            have HA := hide hans
            clear e4 hans
            go_wp2_with fail
            refine (unhide E4).mono ?_
            rintro e w5 ⟨rs2, rfl, hS2, H8⟩
            rw [unhide HA]
            have HS2 := hide hS2
            have HH8 := hide H8
            clear hS2 H8 q0' s1 s2 s3 E4 HH7 Hr0
            have htell : tell more acc0 (afterL (inter its (kids.map Kid.L)) key) = if ans then tell more (acc1 ++ [x]) (afterL (restL its (kids.map Kid.L) (i + 1)) key) else (acc1 ++ [x], false) := by
              rw [unhide HT3, unhide Hre, afterL_cons, if_pos hgt, tell_cons, unhide HA]
            have HTe := hide htell
            clear htell
            cases ans with
            | true =>
              go_wp2_with fail
              go_roundg (n + 1 - i)
              case measure => omega
              case rel => exact ⟨i + 1, acc1 ++ [x], rs2, by omega, by omega, by simp, (by have h1 := unhide Hal1; rw [unhide Hre] at h1; show _ ≤ _; simp at h1 ⊢; omega), HS2, (unhide HTe), HH8⟩
            | false =>
              go_wp2_with fail
              go_ret
              have hT := unhide HTe
              simp only [Bool.false_eq_true, if_false] at hT
              refine ⟨rs2, by rw [unhide HL, hT]; rfl, by rw [unhide HL, hT]; exact unhide HS2, Hold.shutk (v0 := v0) (v1 := v1) rs2 (by rw [unhide Hb]; exact unhide HH8) (unhide Hcc) (unhide HL) (unhide Hsh) (unhide Hfit) (unhide Hown)⟩
          · have hb1 := greater_no hgt
            go_wp2_with fail
            go_roundg (n + 1 - i)
            case measure => omega
            case rel => exact ⟨i + 1, acc1, rs', by omega, by omega, by simp, (by have h1 := unhide Hal1; rw [unhide Hre] at h1; show _ ≤ _; simp at h1 ⊢; omega), HS', (by show _ = _; rw [unhide HT3, unhide Hre, afterL_cons, if_neg hgt]), HH7⟩
        · have hz2 : ¬ ((i : Int) < (n : Int)) := by omega
          have hre : rest = restL its (kids.map Kid.L) (i + 1) := by
            have h2 : its.length = i := by have := unhide Hn; omega
            have h1 := rest_last (unhide Hk1) (by rw [h2]; exact unhide HkkL)
            rw [h2, unhide Hrest] at h1
            have h3 : rest = [] := by have h4 := congrArg List.length h1; simp at h4; exact h4
            rw [h3, ← h2, rest_end (unhide Hk1)]
          have Hre := hide hre
          clear hre
          go_wp2_with fail
          go_roundg (n + 1 - i)
          case measure => omega
          case rel => exact ⟨i + 1, acc1, rs', by omega, by omega, by simp, (by have h1 := unhide Hal1; rw [unhide Hre] at h1; exact h1), HS', (by show _ = _; rw [unhide HT3, unhide Hre]), HH7⟩
    · have hz : ¬ ((i : Int) ≤ (n : Int)) := by omega
      rw [hv0] at q0
      clear r0 h4 q1 hv0
      go_wp2_with fail
      go_ret
      have hT := unhide HT
      rw [show i = its.length + 1 by have := unhide Hn; omega, rest_end (unhide Hk1)] at hT
      refine ⟨rs, by rw [unhide HL, hT]; rfl, by rw [unhide HL, hT]; exact unhide HSr, Hold.shutk (v0 := v0) (v1 := v1) rs (by rw [unhide Hb]; exact unhide HR) (unhide Hcc) (unhide HL) (unhide Hsh) (unhide Hfit) (unhide Hown)⟩

theorem walkA_spec (base : Nat) (w0 : World) (K0 : Nat → Nat) (ob nb : Nat) (S : List Item → List Res → Prop) (more : List Item → Bool) (key : ByteArray) (hsee : SeeSpecA base w0 K0 ob nb S more) : ∀ h, WalkSpecA base w0 K0 ob nb S more key h
  | 0 => fun w k acc rs l2 hS hl H hs hc => walkA_leaf base w0 K0 ob nb S more key hsee w k acc rs l2 hS hl H hs hc
  | h + 1 => fun w k acc rs l2 hS hl H hs hc => walkA_inner base w0 K0 ob nb S more key hsee h (walkA_spec base w0 K0 ob nb S more key hsee h) w k acc rs l2 hS hl H hs hc

end Go.Proofs.YtjpmomklkkifjaaGreatDoor.T
