import Derived.Test.YtjpmomklkkifjaaGreatDoorCFCopy
import Derived.Shelf.Strconv.AtoiAll
import Derived.Lib.AppendIntMem
import Derived.Shelf.Small.Wraps
import Derived.RegionTactic
set_option maxRecDepth 100000
set_option linter.unusedVariables false
set_option linter.unusedSimpArgs false
namespace Go.Proofs.YtjpmomklkkifjaaGreatDoor.T
open Go.RowKit
def nodeCh (v : NV) : CH := ⟨⟨#[110]⟩ ++ toldS v.id.toNat, ((⟨#[if v.kind = 1 then 100 else 102]⟩ ++ toldS v.up.toNat) ++ toldS v.links.toNat) ++ v.text, false⟩
noncomputable def entCh (i : Int) (x : Item) : CH := ⟨(⟨#[101]⟩ ++ toldS i.toNat) ++ keyS x.name, toldS x.node.toNat ++ x.name, false⟩
noncomputable def ofNode (F : Forest) (v : NV) : List CH := nodeCh v :: (entsK F v).map (entCh v.id)
def nextCh (next : Int) : CH := ⟨⟨#[120]⟩, toldS next.toNat, false⟩
noncomputable def rowsOf (F : Forest) (next : Int) (L : List NV) : List CH := nextCh next :: L.flatMap (ofNode F)
theorem rowsOf_perm {F : Forest} {next : Int} {L N : List NV} (h : L.Perm N) : (rowsOf F next L).Perm (rowsOf F next N) := (h.flatMap_right (ofNode F)).cons _
theorem told_list : ∀ i : Fin 100, (toldS i.val).data.toList = [48, UInt8.ofNat (48 + i.val / 10), UInt8.ofNat (48 + i.val % 10)] := of_decide_eq_true (by kernel_rfl)
theorem told_sums : ∀ i j : Fin 100, UInt8.ofNat (48 + i.val / 10) = UInt8.ofNat (48 + j.val / 10) → UInt8.ofNat (48 + i.val % 10) = UInt8.ofNat (48 + j.val % 10) → i = j := of_decide_eq_true (by kernel_rfl)
theorem told_inj {a b : Nat} (ha : a < 100) (hb : b < 100) (h : toldS a = toldS b) : a = b := by
  have h1 := told_list ⟨a, ha⟩
  have h2 := told_list ⟨b, hb⟩
  simp only at h1 h2
  rw [h, h2] at h1
  injection h1 with _ h1
  injection h1 with h3 h1
  injection h1 with h4 _
  exact congrArg Fin.val (told_sums ⟨a, ha⟩ ⟨b, hb⟩ h3.symm h4.symm)
theorem bytes_ext {a b : ByteArray} (h : a.data.toList = b.data.toList) : a = b := ByteArray.ext (by simpa using h)
theorem app_list (a b : ByteArray) : (a ++ b).data.toList = a.data.toList ++ b.data.toList := by simp
theorem app_left {a b c d : ByteArray} (hs : a.size = c.size) (h : a ++ b = c ++ d) : a = c ∧ b = d := by
  have h1 := congrArg (fun x : ByteArray => x.data.toList) h
  simp only [app_list] at h1
  have h2 : a.data.toList.length = c.data.toList.length := by
    have e1 : a.data.toList.length = a.size := (Lib.size_eq a).symm
    have e2 : c.data.toList.length = c.size := (Lib.size_eq c).symm
    omega
  obtain ⟨h3, h4⟩ := List.append_inj h1 h2
  exact ⟨bytes_ext h3, bytes_ext h4⟩
theorem repl_len : ∀ (n : Nat) (l : List Int), l.length ≤ n → (repl l).length ≤ l.length := by
  intro n
  induction n with
  | zero =>
    intro l h
    have : l = [] := List.eq_nil_of_length_eq_zero (by omega)
    subst this
    simp [repl]
  | succ n ih =>
    intro l h
    match l with
    | [] => simp [repl]
    | [r] => simp [repl]
    | r :: q :: t =>
      rw [repl]
      split
      · have := ih t (by simp at h; omega)
        simp only [List.length_cons]; omega
      · have := ih (q :: t) (by simp at h ⊢; omega)
        simp only [List.length_cons] at this ⊢; omega
theorem keyS_size {s : ByteArray} (h : checkP s = none) : (keyS s).size ≤ 100 := by
  obtain ⟨hn, _, _⟩ := name_of_check h
  have h1 := hn.few
  have h2 := repl_len _ (foldL (signsOf s)) (Nat.le_refl _)
  have h3 : (foldL (signsOf s)).length = (splitL (signsOf s)).length := by simp [foldL]
  obtain ⟨f1, f2, _, _⟩ := runK_facts (repl (foldL (signsOf s)))
  have h4 : (keyS s).size = (keyZ (repl (foldL (signsOf s)))).length := by
    unfold keyS keyOf keyB toB
    simp [ByteArray.size]
  rw [h4]
  unfold keyZ
  simp only [List.length_append, List.length_cons, List.length_nil]
  omega
theorem name_size {s : ByteArray} (h : checkP s = none) : s.size ≤ 100 := by
  obtain ⟨hn, e, _⟩ := name_of_check h
  have := hn.bytes
  rw [e, encS_size]
  omega
structure RowsOk (N : List NV) (F : Forest) (next : Int) : Prop where
  fits : Fits N F next
  nodup : (N.map NV.id).Nodup
  root : N ≠ []
  ids : ∀ v ∈ N, 0 ≤ v.id ∧ v.id < 100
  ups : ∀ v ∈ N, 0 ≤ v.up ∧ v.up < 100
  links : ∀ v ∈ N, 0 ≤ v.links ∧ v.links < 100
  text : ∀ v ∈ N, v.text.size ≤ 20
  top : 0 ≤ next ∧ next < 100
  ents : ∀ v ∈ N, ∀ x ∈ entsK F v, x.key = keyS x.name ∧ checkP x.name = none ∧ 0 ≤ x.node ∧ x.node < 100
  sorted : ∀ v ∈ N, Sorted (entsK F v)
  many : (rowsOf F next N).length ≤ 1000
theorem nodeKey_ne {v : NV} {next : Int} : (nodeCh v).key ≠ (nextCh next).key := by
  intro h
  have h1 := congrArg (fun x : ByteArray => x.data.toList) h
  simp [nodeCh, nextCh, app_list] at h1
theorem entKey_ne {i : Int} {x : Item} {next : Int} : (entCh i x).key ≠ (nextCh next).key := by
  intro h
  have h1 := congrArg (fun x : ByteArray => x.data.toList) h
  simp [entCh, nextCh, app_list] at h1
theorem nodeEnt_ne {v : NV} {i : Int} {x : Item} : (nodeCh v).key ≠ (entCh i x).key := by
  intro h
  have h1 := congrArg (fun x : ByteArray => x.data.toList) h
  simp [entCh, nodeCh, app_list] at h1
theorem nodeKey_inj {u v : NV} (hu : 0 ≤ u.id ∧ u.id < 100) (hv : 0 ≤ v.id ∧ v.id < 100) (h : (nodeCh u).key = (nodeCh v).key) : u.id = v.id := by
  have h1 := (app_left rfl h).2
  have := told_inj (by omega) (by omega) h1
  omega
theorem entKey_inj {i j : Int} {x y : Item} (hi : 0 ≤ i ∧ i < 100) (hj : 0 ≤ j ∧ j < 100) (h : (entCh i x).key = (entCh j y).key) : i = j ∧ keyS x.name = keyS y.name := by
  have hi2 : i.toNat < 100 := by omega
  have hj2 : j.toNat < 100 := by omega
  have h0 : ((⟨#[101]⟩ : ByteArray) ++ toldS i.toNat).size = ((⟨#[101]⟩ : ByteArray) ++ toldS j.toNat).size := by
    rw [ByteArray.size_append, ByteArray.size_append, told_size hi2, told_size hj2]
  obtain ⟨h1, h2⟩ := app_left h0 h
  have h3 := (app_left rfl h1).2
  have := told_inj hi2 hj2 h3
  exact ⟨by omega, h2⟩
theorem ofNode_keys {F : Forest} {v : NV} {c : CH} (h : c ∈ ofNode F v) : c = nodeCh v ∨ ∃ x ∈ entsK F v, c = entCh v.id x := by
  rcases List.mem_cons.1 h with h | h
  · exact .inl h
  · obtain ⟨x, hx, rfl⟩ := List.mem_map.1 h
    exact .inr ⟨x, hx, rfl⟩
theorem RowsOk.keys {N : List NV} {F : Forest} {next : Int} (h : RowsOk N F next) : ((rowsOf F next N).map CH.key).Nodup := by
  have hall : ∀ (M : List NV), (∀ v ∈ M, v ∈ N) → (M.map NV.id).Nodup → ((M.flatMap (ofNode F)).map CH.key).Nodup := by
    intro M
    induction M with
    | nil => intros; simp
    | cons v M ih =>
      intro hs hn
      rw [List.map_cons, List.nodup_cons] at hn
      have ihM := ih (fun u hu => hs u (List.mem_cons_of_mem _ hu)) hn.2
      have hvN := hs v List.mem_cons_self
      rw [List.flatMap_cons, List.map_append, List.nodup_append]
      refine ⟨?_, ihM, ?_⟩
      · show (((nodeCh v).key) :: ((entsK F v).map (entCh v.id)).map CH.key).Nodup
        rw [List.nodup_cons]
        refine ⟨fun hm => ?_, ?_⟩
        · obtain ⟨c, hc, e⟩ := List.mem_map.1 hm
          obtain ⟨x, hx, rfl⟩ := List.mem_map.1 hc
          exact nodeEnt_ne e.symm
        · rw [List.map_map]
          refine List.pairwise_map.2 ?_
          refine (List.Pairwise.imp_of_mem (fun {a b} ha hb hk e => ?_) (h.sorted v hvN))
          have h1 := (entKey_inj (h.ids v hvN) (h.ids v hvN) e).2
          rw [← (h.ents v hvN a ha).1, ← (h.ents v hvN b hb).1] at h1
          rw [h1] at hk
          exact kLt_irrefl _ hk
      · intro a ha b hb e
        subst e
        obtain ⟨c, hc, e1⟩ := List.mem_map.1 ha
        obtain ⟨d, hd, e2⟩ := List.mem_map.1 hb
        obtain ⟨u, hu, hdu⟩ := List.mem_flatMap.1 hd
        have huN := hs u (List.mem_cons_of_mem _ hu)
        have hne : v.id ≠ u.id := fun e => hn.1 (e ▸ List.mem_map.2 ⟨u, hu, rfl⟩)
        have hk : c.key = d.key := e1.trans e2.symm
        rcases ofNode_keys hc with rfl | ⟨x, hx, rfl⟩ <;> rcases ofNode_keys hdu with rfl | ⟨y, hy, rfl⟩
        · exact hne (nodeKey_inj (h.ids v hvN) (h.ids u huN) hk)
        · exact nodeEnt_ne hk
        · exact nodeEnt_ne hk.symm
        · exact hne (entKey_inj (h.ids v hvN) (h.ids u huN) hk).1
  show ((nextCh next).key :: (N.flatMap (ofNode F)).map CH.key).Nodup
  rw [List.nodup_cons]
  refine ⟨fun hm => ?_, hall N (fun v hv => hv) h.nodup⟩
  obtain ⟨c, hc, e⟩ := List.mem_map.1 hm
  obtain ⟨u, hu, hcu⟩ := List.mem_flatMap.1 hc
  rcases ofNode_keys hcu with rfl | ⟨x, hx, rfl⟩
  · exact nodeKey_ne e
  · exact entKey_ne e
theorem flat_len (F : Forest) (k : Nat) : ∀ (N : List NV), (∀ v ∈ N, (entsK F v).length ≤ k) → (N.flatMap (ofNode F)).length ≤ N.length * (k + 1)
  | [], _ => by simp
  | v :: N, h => by
    have := flat_len F k N fun u hu => h u (List.mem_cons_of_mem _ hu)
    have h1 := h v List.mem_cons_self
    rw [List.flatMap_cons, List.length_append, List.length_cons, Nat.add_mul, Nat.one_mul]
    have h2 : (ofNode F v).length = (entsK F v).length + 1 := by simp [ofNode]
    omega
theorem Good.rowsMany {k : Nat} {N : List NV} {F : Forest} {next : Int} (h : Good k N F next) (hk : k ≤ 90) (hmany : (rowsOf F next N).length ≤ 1000) : RowsOk N F next := by
  have hf := h.fits
  have hw := h.whole
  have hl := hw.linked
  have htop := h.goo.top
  have hids : ∀ v ∈ N, 0 ≤ v.id ∧ v.id < 100 := fun v hv => by have := hw.ids v hv; omega
  have hents := fun v hv => hw.ents hf (u := v) hv
  obtain ⟨r, hr, hr1, hr2, hr3⟩ := hl.root
  refine ⟨hf, hl.nodup, fun e => (by rw [e] at hr; cases hr), hids, fun v hv => ?_, fun v hv => ?_, fun v hv => ?_, by have := hf.next; omega, fun v hv x hx => ?_, fun v hv => (hents v hv).sorted, ?_⟩
  · rcases hl.kinds v hv with ⟨k1, _⟩ | ⟨_, k2, _⟩
    · by_cases h1 : v.id = 1
      · have : v = r := by
          have a := findN_mem hl.nodup hv
          have b := findN_mem hl.nodup hr
          rw [h1, ← hr1, b] at a
          exact (Option.some.inj a).symm
        rw [this, hr3]; omega
      · obtain ⟨it, h2, _⟩ := hl.ups v hv k1 h1
        obtain ⟨u, hu, e, _⟩ := hl.folder _ h2
        have := hids u hu
        simp only at e
        omega
    · omega
  · have := h.goo.links v hv; omega
  · rcases hl.kinds v hv with ⟨_, _, e⟩ | ⟨_, _, e⟩
    · rw [e]; decide
    · exact e
  · obtain ⟨_, u, hu, e⟩ := (hents v hv).node x hx
    have := hids u hu
    exact ⟨(hents v hv).key x hx, (hents v hv).name x hx, by omega, by omega⟩
  · exact hmany
theorem Good.many {k : Nat} {N : List NV} {F : Forest} {next : Int} (h : Good k N F next) (hk : k ≤ 60) : (rowsOf F next N).length ≤ 1000 := by
  have hw := h.whole
  have hlk : ∀ v ∈ N, (entsK F v).length ≤ k := fun v hv => by
    unfold entsK
    split
    · rename_i hk1
      obtain ⟨tb, htb, ht⟩ := hw.tree v hv hk1
      unfold entsOf
      rw [htb]
      exact h.few.look tb
    · simp
  have h1 := flat_len F k N hlk
  have h2 := h.fits.few
  show (N.flatMap (ofNode F)).length + 1 ≤ 1000
  have h3 : N.length * (k + 1) ≤ 16 * 61 := Nat.mul_le_mul h2 (by omega)
  omega
theorem Good.rows {k : Nat} {N : List NV} {F : Forest} {next : Int} (h : Good k N F next) (hk : k ≤ 60) : RowsOk N F next := h.rowsMany (by omega) (h.many hk)
end Go.Proofs.YtjpmomklkkifjaaGreatDoor.T
namespace Go.Proofs.YtjpmomklkkifjaaGreatDoor.T.J
open Go.Shelf Go.RowKit
theorem lays172m : LaysM.n172 Tryz.prog lays172_ren := { lays172 with
  t80 := Tryz.underlying150
  a80 := Tryz.isAgg150
  z80 := Tryz.sizeOf150
  v80 := Tryz.zeroValue150
  i0 := by kernel_rfl
  i2 := by kernel_rfl
  i3 := by kernel_rfl
  i4 := by kernel_rfl
  i5 := by kernel_rfl
  i9 := by kernel_rfl
  i20 := by kernel_rfl
  i21 := by kernel_rfl
  i37 := by kernel_rfl
  i46 := by kernel_rfl
  i51 := by kernel_rfl
  i53 := by kernel_rfl
  i75 := by kernel_rfl
  i76 := by kernel_rfl
  i80 := by kernel_rfl
  i85 := by kernel_rfl
  i127 := by kernel_rfl
  i143 := by kernel_rfl
  i145 := by kernel_rfl
  i167 := by kernel_rfl
  i168 := by kernel_rfl
  i171 := by kernel_rfl
  i173 := by kernel_rfl
  i175 := by kernel_rfl
  i210 := by kernel_rfl
  i212 := by kernel_rfl
  i232 := by kernel_rfl
  i233 := by kernel_rfl
  m15 := by kernel_rfl
  m16 := by kernel_rfl
  m17 := by kernel_rfl
  m18 := by kernel_rfl
  m19 := by kernel_rfl
}
theorem lays172c : LaysC.n172 Tryz.prog lays172_ren := { lays172m with
  c0 := by kernel_rfl
  c2 := by kernel_rfl
  c3 := by kernel_rfl
  c4 := by kernel_rfl
  c5 := by kernel_rfl
  c9 := by kernel_rfl
  c20 := by kernel_rfl
  c21 := by kernel_rfl
  c37 := by kernel_rfl
  c46 := by kernel_rfl
  c51 := by kernel_rfl
  c53 := by kernel_rfl
  c75 := by kernel_rfl
  c76 := by kernel_rfl
  c80 := by kernel_rfl
  c85 := by kernel_rfl
  c127 := by kernel_rfl
  c143 := by kernel_rfl
  c145 := by kernel_rfl
  c167 := by kernel_rfl
  c168 := by kernel_rfl
  c171 := by kernel_rfl
  c173 := by kernel_rfl
  c175 := by kernel_rfl
  c210 := by kernel_rfl
  c212 := by kernel_rfl
  c213 := by kernel_rfl
  c232 := by kernel_rfl
  c233 := by kernel_rfl
}
theorem lays171m : LaysM.n171 Tryz.prog lays171_ren := { lays171 with
  i0 := by kernel_rfl
  i2 := by kernel_rfl
  i3 := by kernel_rfl
  i4 := by kernel_rfl
  i5 := by kernel_rfl
  i9 := by kernel_rfl
  i20 := by kernel_rfl
  i37 := by kernel_rfl
  i46 := by kernel_rfl
  i51 := by kernel_rfl
  i53 := by kernel_rfl
  i171 := by kernel_rfl
  i173 := by kernel_rfl
  i212 := by kernel_rfl
  i232 := by kernel_rfl
  i233 := by kernel_rfl
  m17 := by kernel_rfl
  m18 := by kernel_rfl
  m19 := by kernel_rfl
}
structure Ready8 (w : World) : Prop where
  r : Ready w
  pow : Lib.TabIs Tryz.prog w "internal/strconv.uint64pow10" .u64 Lib.pow10Tab
  syn : ∃ te pe, w.cell? ⟨4, 0, none⟩ = some (.iface te pe)
  rng : ∃ te pe, w.cell? ⟨5, 0, none⟩ = some (.iface te pe)
theorem cell_stays {w w' : World} (hb : Below w.heap.size w w') {a : Addr} {v : Value} (hc : w.cell? a = some v) : w'.cell? a = some v := (hb.cell (World.block_lt_of_cell? w a hc)).trans hc
theorem tab_stays {n : String} {g : Nat} {k : IntKind} {zs : List Int} {w w' : World} (hg : Tryz.prog.globalNamed n = some g) (h : Lib.TabIs Tryz.prog w n k zs) (hb : Below w.heap.size w w') : Lib.TabIs Tryz.prog w' n k zs := by
  unfold Lib.TabIs World.var? at h ⊢
  rw [hg] at h ⊢
  simp only [Option.bind_some] at h ⊢
  have hlt : g < w.heap.size := by
    rcases Nat.lt_or_ge g w.heap.size with h' | h'
    · exact h'
    · rw [Array.getElem?_eq_none h'] at h; cases h
  rw [hb.block g hlt]
  exact h
theorem Ready8.later {w w' : World} (h : Ready8 w) (hb : Below w.heap.size w w') : Ready8 w' where
  r := h.r.later hb
  pow := tab_stays (g := 6) (by kernel_rfl) h.pow hb
  syn := by obtain ⟨a, b, h1⟩ := h.syn; exact ⟨a, b, cell_stays hb h1⟩
  rng := by obtain ⟨a, b, h1⟩ := h.rng; exact ⟨a, b, cell_stays hb h1⟩
theorem below_grows (w : World) (k : Nat) (os : Array Obj) : Below w.heap.size w (Sort.grow (w.drewN k) os) :=
  Lib.below_grow _ _ (Nat.le_refl _) _ _
theorem itoa_any (n : Nat) (hn : n ≤ 1000) (w : World) (hR : Ready8 w) : Calls Tryz.prog 110 #[.int .i64 n] w fun e w' => e = .returned (.string ⟨(Lib.decDigits n).toArray⟩) ∧ Below w.heap.size w w' := by
  refine (Any.strconv_Itoa lays171m n (by omega) (by omega) w hR.pow).mono ?_
  rintro e w' ⟨he, k, os, rfl⟩
  refine ⟨?_, below_grows _ _ _⟩
  rw [he]
  unfold Lib.itoa
  rw [if_neg (by omega), Int.toNat_natCast]
theorem digits_any : ∀ i : Fin 1001, (Lib.decDigits i.val).length = if i.val < 10 then 1 else if i.val < 100 then 2 else if i.val < 1000 then 3 else 4 := of_decide_eq_true (by kernel_rfl)
theorem repeat_any (c : Nat) (hc : c ≤ 2) (w : World) : Calls Tryz.prog 111 #[.string ⟨#[48]⟩, .int .i64 c] w fun e w' => e = .returned (.string ⟨(List.replicate c 48).toArray⟩) ∧ Below w.heap.size w w' := by
  rcases Nat.eq_zero_or_pos c with rfl | h
  · exact (Any.strings_Repeat_zero lays105 ⟨#[48]⟩ w).mono fun e w' ⟨h1, h2⟩ => ⟨h1, by rw [h2]; exact Below.refl _ _⟩
  · exact repeat_calls c (by omega) w
theorem told_size {n : Nat} (hn : n < 1000) : (toldS n).size = 3 := by
  have h := digits_any ⟨n, by omega⟩
  show (List.replicate (3 - (Lib.decDigits n).length) 48 ++ Lib.decDigits n).toArray.size = 3
  simp only [List.size_toArray, List.length_append, List.length_replicate]
  simp only at h
  split at h
  · omega
  · split at h
    · omega
    · first | omega | (rw [if_pos hn] at h; omega)
theorem told_list : ∀ i : Fin 1000, (toldS i.val).data.toList = [UInt8.ofNat (48 + i.val / 100), UInt8.ofNat (48 + i.val / 10 % 10), UInt8.ofNat (48 + i.val % 10)] := of_decide_eq_true (by kernel_rfl)
theorem digit_inj : ∀ a b : Fin 10, UInt8.ofNat (48 + a.val) = UInt8.ofNat (48 + b.val) → a = b := of_decide_eq_true (by kernel_rfl)
theorem told_inj {a b : Nat} (ha : a < 1000) (hb : b < 1000) (h : toldS a = toldS b) : a = b := by
  have h1 := told_list ⟨a, ha⟩
  have h2 := told_list ⟨b, hb⟩
  simp only at h1 h2
  rw [h, h2] at h1
  injection h1 with h3 h1
  injection h1 with h4 h1
  injection h1 with h5 _
  have e3 := congrArg Fin.val (digit_inj ⟨b / 100, by omega⟩ ⟨a / 100, by omega⟩ h3)
  have e4 := congrArg Fin.val (digit_inj ⟨b / 10 % 10, by omega⟩ ⟨a / 10 % 10, by omega⟩ h4)
  have e5 := congrArg Fin.val (digit_inj ⟨b % 10, by omega⟩ ⟨a % 10, by omega⟩ h5)
  simp only at e3 e4 e5
  omega
set_option maxHeartbeats 4000000 in
theorem told_calls (n : Nat) (hn : n ≤ 1000) (w : World) (hRd : Ready8 w) : Calls Tryz.prog 68 #[.int .i64 n] w fun e w' => e = .returned (.string (toldS n)) ∧ Below w.heap.size w w' := by
  have hI := itoa_any n hn w hRd
  have hl := digits_any ⟨n, by omega⟩
  simp only at hl
  have hT : ∀ c, 3 - (Lib.decDigits n).length = c → (⟨(List.replicate c 48).toArray⟩ : ByteArray) ++ ⟨(Lib.decDigits n).toArray⟩ = toldS n := fun c h => by
    unfold toldS
    rw [h]
    apply ByteArray.ext
    simp
  have hsz : (⟨(Lib.decDigits n).toArray⟩ : ByteArray).size = (Lib.decDigits n).length := by
    show (Lib.decDigits n).toArray.size = _
    simp
  obtain ⟨s, hs⟩ : ∃ s : ByteArray, (⟨(Lib.decDigits n).toArray⟩ : ByteArray) = s := ⟨_, rfl⟩
  rw [hs] at hI hsz hT
  have hd : s.size = 1 ∨ s.size = 2 ∨ s.size = 3 ∨ s.size = 4 := by
    rw [hsz, hl]
    split
    · simp
    · split
      · simp
      · split <;> simp
  have HI := hide hI
  rcases hd with hd | hd | hd | hd
  · have hTT := hT 2 (by omega)
    have HT := hide hTT
    have hz : (s.size : Int) = 1 := by omega
    have HR := hide (fun wx => repeat_any 2 (by omega) wx)
    clear hI hl hT hsz hs hTT hd
    go_enter Tryz.func68, Tryz.ntmps68
    go_wp2_with fail
    refine (unhide HI).mono ?_
    rintro e w2 ⟨rfl, hb2⟩
    have Hb2 := hide hb2
    clear HI hb2
    go_wp2_with fail
    refine (unhide HR _).mono ?_
    rintro e w3 ⟨rfl, hb⟩
    have Hb := hide hb
    clear hb HR
    go_wp2_with fail
    go_ret
    exact ⟨by rw [← unhide HT]; rfl, (unhide Hb2).trans ((unhide Hb).mono (unhide Hb2).size)⟩
  · have hTT := hT 1 (by omega)
    have HT := hide hTT
    have hz : (s.size : Int) = 2 := by omega
    have HR := hide (fun wx => repeat_any 1 (by omega) wx)
    clear hI hl hT hsz hs hTT hd
    go_enter Tryz.func68, Tryz.ntmps68
    go_wp2_with fail
    refine (unhide HI).mono ?_
    rintro e w2 ⟨rfl, hb2⟩
    have Hb2 := hide hb2
    clear HI hb2
    go_wp2_with fail
    refine (unhide HR _).mono ?_
    rintro e w3 ⟨rfl, hb⟩
    have Hb := hide hb
    clear hb HR
    go_wp2_with fail
    go_ret
    exact ⟨by rw [← unhide HT]; rfl, (unhide Hb2).trans ((unhide Hb).mono (unhide Hb2).size)⟩
  · have hTT := hT 0 (by omega)
    have HT := hide hTT
    have hz : (s.size : Int) = 3 := by omega
    have HR := hide (fun wx => repeat_any 0 (by omega) wx)
    clear hI hl hT hsz hs hTT hd
    go_enter Tryz.func68, Tryz.ntmps68
    go_wp2_with fail
    refine (unhide HI).mono ?_
    rintro e w2 ⟨rfl, hb2⟩
    have Hb2 := hide hb2
    clear HI hb2
    go_wp2_with fail
    refine (unhide HR _).mono ?_
    rintro e w3 ⟨rfl, hb⟩
    have Hb := hide hb
    clear hb HR
    go_wp2_with fail
    go_ret
    exact ⟨by rw [← unhide HT]; rfl, (unhide Hb2).trans ((unhide Hb).mono (unhide Hb2).size)⟩
  · have hTT := hT 0 (by omega)
    have HT := hide hTT
    have hz : (s.size : Int) = 4 := by omega
    have HR := hide (fun wx => repeat_any 0 (by omega) wx)
    clear hI hl hT hsz hs hTT hd
    go_enter Tryz.func68, Tryz.ntmps68
    go_wp2_with fail
    refine (unhide HI).mono ?_
    rintro e w2 ⟨rfl, hb2⟩
    have Hb2 := hide hb2
    clear HI hb2
    go_wp2_with fail
    refine (unhide HR _).mono ?_
    rintro e w3 ⟨rfl, hb⟩
    have Hb := hide hb
    clear hb HR
    go_wp2_with fail
    go_ret
    exact ⟨by rw [← unhide HT]; rfl, (unhide Hb2).trans ((unhide Hb).mono (unhide Hb2).size)⟩
theorem atoi_any (s : ByteArray) (hs : s.size ≤ 100000) (w : World) (hR : Ready8 w) : Calls Tryz.prog 114 #[.string s] w fun e w' => ∃ (v : Int) (er : Value), e = .returned (.tuple #[.int .i64 v, er]) ∧ ((er = .nilIface ∧ Lib.atoiAll s.data.toList = .ok v) ∨ ∃ t p, er = .iface t p) ∧ Below w.heap.size w w' := by
  cases h : Lib.atoiAll s.data.toList with
  | ok v =>
    refine (Any.strconv_Atoi_ok lays172c s (by omega) v h w).mono ?_
    rintro e w' ⟨he, hw⟩
    refine ⟨v, _, he, .inl ⟨rfl, rfl⟩, ?_⟩
    rcases hw with rfl | ⟨t, rfl⟩
    · exact Below.refl _ _
    · exact ⟨rfl, rfl, rfl, by rw [Lib.bytesWorld_size]; omega, fun j hj => Lib.bytesWorld_at_old w (lays172_ren.t 5) t j hj⟩
  | «syntax» =>
    obtain ⟨te, pe, hv⟩ := hR.syn
    refine (Any.strconv_Atoi_syntax lays172c s (by omega) h _ w hv (.inr ⟨te, pe, rfl⟩)).mono ?_
    rintro e w' ⟨N, he, _, _, hb⟩
    exact ⟨_, _, he, .inr ⟨_, _, rfl⟩, hb⟩
  | range =>
    obtain ⟨te, pe, hv⟩ := hR.rng
    refine (Any.strconv_Atoi_range lays172c s (by omega) h _ w hv (.inr ⟨te, pe, rfl⟩)).mono ?_
    rintro e w' ⟨N, he, _, _, hb⟩
    exact ⟨_, _, he, .inr ⟨_, _, rfl⟩, hb⟩
end Go.Proofs.YtjpmomklkkifjaaGreatDoor.T.J
namespace Go.Proofs.YtjpmomklkkifjaaGreatDoor.T
open Go.Shelf Go.RowKit
def lays103_ren : Go.Shelf.Ren := ⟨fun | 103 => 115 | 206 => 101 | 210 => 168 | n => n, fun | 24 => 162 | 3 => 3 | 4 => 4 | 9 => 9 | n => n, fun | n => n⟩
theorem lays103 : Lays.n103 Tryz.prog lays103_ren := {
  mixed := by kernel_rfl
  f103 := Tryz.func115.trans (congrArg some (by kernel_rfl))
  f206 := Tryz.func101.trans (congrArg some (by kernel_rfl))
  f210 := Tryz.func168.trans (congrArg some (by kernel_rfl))
  t3 := Tryz.underlying3
  a3 := Tryz.isAgg3
  z3 := Tryz.sizeOf3
  v3 := Tryz.zeroValue3
  t4 := Tryz.underlying4
  a4 := Tryz.isAgg4
  z4 := Tryz.sizeOf4
  v4 := Tryz.zeroValue4
  t9 := Tryz.underlying9
  a9 := Tryz.isAgg9
  z9 := Tryz.sizeOf9
  v9 := Tryz.zeroValue9
  t24 := Tryz.underlying162
  a24 := Tryz.isAgg162
  z24 := Tryz.sizeOf162
  v24 := Tryz.zeroValue162 }
end Go.Proofs.YtjpmomklkkifjaaGreatDoor.T
namespace Go.Proofs.YtjpmomklkkifjaaGreatDoor.T.J
open Go.Shelf Go.RowKit
theorem wfI_atoi {l : List UInt8} {v : Int} (h : Lib.atoiAll l = .ok v) : WfI v := by
  have := Lib.atoiAll_bounds h
  exact wfI_of (by omega) (by omega)
theorem wfI_zero : WfI 0 := wfI_of (by omega) (by omega)
set_option maxHeartbeats 2000000 in
theorem cutNumber_any (s : ByteArray) (hs : s.size ≤ 100000) (w : World) (hR : Ready8 w) :
    Calls Tryz.prog 116 #[.string s] w fun e w' => ∃ (n : Int) (rest : ByteArray) (ok : Bool), e = .returned (.tuple #[.int .i64 n, .string rest, .bool ok]) ∧ WfI n ∧ rest.size ≤ s.size ∧ Below w.heap.size w w' := by
  by_cases h3 : s.size < 3
  · have hz1 : (s.size : Int) < 3 := by omega
    clear h3 hs hR
    go_enter Tryz.func116, Tryz.ntmps116
    go_wp2_with fail
    refine bodyPost_ret (results_tmp3 rfl _ _ _) rfl ?_
    exact ⟨0, ⟨#[]⟩, false, rfl, wfI_zero, Nat.zero_le _, Below.refl _ _⟩
  · have hz1 : ¬ (s.size : Int) < 3 := by omega
    have hz2 : (3 : Int) ≤ (s.size : Int) := by omega
    have ha := fun wx hx => atoi_any (s.extract 0 3) (by rw [ByteArray.size_extract]; omega) wx hx
    obtain ⟨z, hz⟩ : ∃ z, s.size = z := ⟨_, rfl⟩
    have hq : (s.extract 3 z).size ≤ s.size := by rw [ByteArray.size_extract]; omega
    have HA := hide ha
    have HR := hide hR
    have HQ := hide hq
    clear ha h3 hs hR hq
    go_enter Tryz.func116, Tryz.ntmps116
    go_wp2_with fail
    refine (unhide HA _ (unhide HR)).mono ?_
    rintro e w2 ⟨v, er, rfl, her, hb⟩
    have Hb := hide hb
    clear hb HA
    rcases her with ⟨rfl, hv⟩ | ⟨t, p, rfl⟩
    · have Hv := hide (wfI_atoi hv)
      clear hv
      go_wp2_with fail
      go_region
      all_goals
        go_wp2_with fail
        refine bodyPost_ret (results_tmp3 rfl _ _ _) rfl ?_
        exact ⟨v, _, true, rfl, unhide Hv, unhide HQ, (unhide Hb).drew⟩
    · go_wp2_with fail
      refine bodyPost_ret (results_tmp3 rfl _ _ _) rfl ?_
      exact ⟨0, ⟨#[]⟩, false, rfl, wfI_zero, Nat.zero_le _, unhide Hb⟩
end Go.Proofs.YtjpmomklkkifjaaGreatDoor.T.J
