import Derived.Test.YtjpmomklkkifjaaGreatDoorCSymMerge
import Derived.Test.YtjpmomklkkifjaaGreatDoorCFShelf
import Derived.Test.YtjpmomklkkifjaaGreatDoorCFWalk
import Derived.Test.YtjpmomklkkifjaaGreatDoorCFRename
import Derived.Test.YtjpmomklkkifjaaGreatDoorCFAddF
set_option maxRecDepth 100000
set_option linter.unusedVariables false
set_option linter.unusedSimpArgs false
namespace Go.Proofs.YtjpmomklkkifjaaGreatDoor
open Go.RowKit Go.Sort
def SymSpec (k : Nat) : Prop := ∀ (w0 : World) (g cap : Nat) (tail : List Value) (P L R S : List Int) (w : World), L.length + R.length ≤ k → L ≠ [] → R ≠ [] → Srt L → Srt R → (P ++ L ++ R ++ S).length ≤ 1000 → RowAt w0 g tail (P ++ L ++ R ++ S) w →
    Calls Tryz.prog 208 #[.slice (some ⟨g, 0, none⟩) (P ++ L ++ R ++ S).length cap, .int .i64 P.length, .int .i64 (P ++ L).length, .int .i64 (P ++ L ++ R).length, .func (.func 137) #[] #[]] w fun e w' =>
      e = .returned (.tuple #[]) ∧ RowAt w0 g tail (P ++ sortM (L ++ R) ++ S) w'
theorem SymSpec.at {k : Nat} (ih : SymSpec k) {w0 : World} {g cap : Nat} {tail : List Value} {P L R S zs ys : List Int} {N a m b : Nat} (hk : L.length + R.length ≤ k) (hL0 : L ≠ []) (hR0 : R ≠ []) (hL : Srt L) (hR : Srt R) (hN : zs.length = N) (hN2 : N ≤ 1000)
    (hz : zs = P ++ L ++ R ++ S) (hy : ys = P ++ sortM (L ++ R) ++ S) (ha : P.length = a) (hm : a + L.length = m) (hb : m + R.length = b) : ∀ w, RowAt w0 g tail zs w → Calls Tryz.prog 208 #[.slice (some ⟨g, 0, none⟩) N cap, .int .i64 a, .int .i64 m, .int .i64 b, .func (.func 137) #[] #[]] w fun e w' =>
      e = .returned (.tuple #[]) ∧ RowAt w0 g tail ys w' := by
  intro w h
  subst hz hy
  have := ih w0 g cap tail P L R S w hk hL0 hR0 hL hR (by omega) h
  rw [hN, ha, show (P ++ L).length = m by rw [List.length_append]; omega, show (P ++ L ++ R).length = b by simp only [List.length_append]; omega] at this
  exact this
end Go.Proofs.YtjpmomklkkifjaaGreatDoor
namespace Go.Proofs.YtjpmomklkkifjaaGreatDoor
open Go.RowKit Go.Sort Go.Lib
end Go.Proofs.YtjpmomklkkifjaaGreatDoor
namespace Go.Proofs.YtjpmomklkkifjaaGreatDoor
open Go.RowKit Go.Sort Go.Lib
inductive Blk (bs : Nat) : List Int → List Int → Prop
  | last (l : List Int) : l.length < bs → Blk bs l (sortM l)
  | more (A B zs : List Int) : A.length = bs → Blk bs B zs → Blk bs (A ++ B) (sortM A ++ zs)
theorem Blk.split {bs : Nat} {R zs : List Int} (h : Blk bs R zs) (hl : bs ≤ R.length) : ∃ A B ys, R = A ++ B ∧ zs = sortM A ++ ys ∧ A.length = bs ∧ Blk bs B ys := by
  cases h with
  | last l h1 => omega
  | more A B ys h1 h2 => exact ⟨A, B, ys, rfl, rfl, h1, h2⟩
theorem Blk.all {bs : Nat} {R zs : List Int} (h : Blk bs R zs) (hb : 0 < bs) (hl : R.length ≤ bs) : zs = sortM R := by
  cases h with
  | last l h1 => rfl
  | more A B ys h1 h2 =>
    have hB : B = [] := List.eq_nil_of_length_eq_zero (by rw [List.length_append] at hl; omega)
    subst hB
    have : ys = [] := by
      generalize hN : ([] : List Int) = N at h2
      cases h2 with
      | last l h3 => rw [← hN]; rfl
      | more A2 B2 ys2 h3 h4 =>
        have := congrArg List.length hN
        rw [List.length_append] at this
        simp at this
        omega
    rw [this]; simp
theorem Blk.length {bs : Nat} {R zs : List Int} (h : Blk bs R zs) : zs.length = R.length := by
  induction h with
  | last l _ => exact sortM_length l
  | more A B zs _ _ ih => rw [List.length_append, List.length_append, sortM_length, ih]
end Go.Proofs.YtjpmomklkkifjaaGreatDoor
namespace Go.Proofs.YtjpmomklkkifjaaGreatDoor
open Go.RowKit
end Go.Proofs.YtjpmomklkkifjaaGreatDoor
namespace Go.Proofs.YtjpmomklkkifjaaGreatDoor
open Go.Lib
def GoodT (ts : List Int) : Prop := (∀ q ∈ ts, (BaseF q ∨ q = 67) ∨ Mark q) ∧ ∀ q t, ts = q :: t → (BaseF q ∨ q = 67)
theorem GoodT.empty {ts : List Int} (h : GoodT ts) (he : (runK ts).1 = []) : ts = [] := by
  cases ts with
  | nil => rfl
  | cons q t => exact absurd he (runK_ne (by have := weight_base (h.2 q t rfl); omega))
def unrepl (ts : List Int) : List Int := ts.flatMap fun r => if r = 67 then [99, 104] else [r]
end Go.Proofs.YtjpmomklkkifjaaGreatDoor
namespace Go.Proofs.YtjpmomklkkifjaaGreatDoor
def joinS (ps : List Int) : List Int := (runS ps).1 ++ sortM (runS ps).2
def swapZ (r : Int) : Int := if 97 ≤ r ∧ r ≤ 122 then r - 32 else if 65 ≤ r ∧ r ≤ 90 then r + 32 else r
theorem Name.part {rs : List Int} (h : Name rs) : ∀ p ∈ splitL rs, baseZ p = true ∨ Mark p := by
  intro p hp
  obtain ⟨r, hr, hpr⟩ := List.mem_flatMap.1 (splitL_mem p hp)
  exact parts_sign (h.signs r hr) p hpr
end Go.Proofs.YtjpmomklkkifjaaGreatDoor
namespace Go.Proofs.YtjpmomklkkifjaaGreatDoor
open Go.RowKit
end Go.Proofs.YtjpmomklkkifjaaGreatDoor
namespace Go.Proofs.YtjpmomklkkifjaaGreatDoor.T
open Go.RowKit
def otherR (rs : List Int) : List Int := (splitL rs).map swapZ
theorem enc_no47 {r : Int} (h : SmallR r) (h47 : r ≠ 47) : (47 : UInt8) ∉ Lib.encodeRune r := by
  obtain ⟨h0, h1⟩ := h
  rcases Int.lt_or_le r 128 with hl | hl
  · rw [enc_one h0 hl]
    intro e
    have e1 : (47 : UInt8) = r.toNat.toUInt8 := by simpa using e
    have e2 := congrArg UInt8.toNat e1
    rw [u8 _ (by omega)] at e2
    have : (47 : UInt8).toNat = 47 := rfl
    omega
  · rw [enc_two hl h1]
    intro e
    have e1 : (47 : UInt8) = (192 + r / 64).toNat.toUInt8 ∨ (47 : UInt8) = (128 + r % 64).toNat.toUInt8 := by simpa using e
    have h47 : (47 : UInt8).toNat = 47 := rfl
    rcases e1 with e1 | e1
    · have e2 := congrArg UInt8.toNat e1
      rw [u8 _ (by omega)] at e2
      omega
    · have e2 := congrArg UInt8.toNat e1
      rw [u8 _ (by omega)] at e2
      omega
theorem encL_no47 {rs : List Int} (h : ∀ r ∈ rs, SmallR r ∧ r ≠ 47) : (47 : UInt8) ∉ encL rs := by
  intro e
  obtain ⟨r, hr, hm⟩ := List.mem_flatMap.1 e
  exact enc_no47 (h r hr).1 (h r hr).2 hm
theorem isZ_47 : isZ 47 = false := by decide +kernel
theorem Name.no47 {rs : List Int} (h : Name rs) : ∀ r ∈ rs, SmallR r ∧ r ≠ 47 := fun r hr => ⟨h.small r hr, fun e => by
  have := h.signs r hr
  rw [e, isZ_47] at this
  cases this⟩
noncomputable def sg (p : ByteArray) : List Int := if p.toList = [46] then [46] else if p.toList = [46, 46] then [46, 46] else signsOf p
theorem toList_inj {a b : ByteArray} (h : a.data.toList = b.data.toList) : a = b := by
  cases a; cases b
  congr 1
  exact Array.toList_inj.1 h
noncomputable def otherPart (p : ByteArray) : ByteArray := encS (otherR (sg p))
end Go.Proofs.YtjpmomklkkifjaaGreatDoor.T
namespace Go.Proofs.YtjpmomklkkifjaaGreatDoor.T
open Go.RowKit
def upk (N : List NV) : Nat → Int → Int
  | 0, i => i
  | k + 1, i => upk N k (atN N i).up
theorem upk_add (N : List NV) : ∀ (a b : Nat) (i : Int), upk N (a + b) i = upk N b (upk N a i)
  | 0, b, i => by rw [Nat.zero_add]; rfl
  | a + 1, b, i => by
    rw [show a + 1 + b = (a + b) + 1 by omega]
    show upk N (a + b) (atN N i).up = upk N b (upk N a (atN N i).up)
    exact upk_add N a b _
theorem within_upk (N : List NV) : ∀ (n : Nat) (i o : Int), withinP N n i o = false → ∀ k, k < n → upk N k i ≠ o
  | 0, _, _, _, k, hk => by omega
  | n + 1, i, o, h, k, hk => by
    unfold withinP at h
    split at h
    · cases h
    rename_i hne
    cases k with
    | zero => exact fun e => hne (beq_iff_eq.2 e)
    | succ k => exact within_upk N n _ o h k (by omega)
theorem nodup_sub : ∀ {l m : List Int}, l.Nodup → (∀ x ∈ l, x ∈ m) → l.length ≤ m.length
  | [], m, _, _ => Nat.zero_le _
  | x :: l, m, hn, hs => by
    obtain ⟨h1, h2⟩ := List.nodup_cons.1 hn
    have hx := hs x (by simp)
    have := nodup_sub (l := l) (m := m.erase x) h2 fun y hy => (List.mem_erase_of_ne (fun e => h1 (by rw [← e]; exact hy))).2 (hs y (by simp [hy]))
    rw [List.length_erase_of_mem hx] at this
    have hp := List.length_pos_of_mem hx
    simp only [List.length_cons]
    omega
variable {N : List NV} {E : List (Int × Item)} {F : Forest} {next : Int}
theorem Linked.at1 (h : Linked N E) : (atN N 1).kind = 1 ∧ (atN N 1).up = 1 ∧ atN N 1 ∈ N ∧ (atN N 1).id = 1 := by
  obtain ⟨r, hr, h1, h2, h3⟩ := h.root
  have := atN_of h.nodup hr
  rw [h1] at this
  rw [this]
  exact ⟨h2, h3, hr, h1⟩
theorem Linked.stay (h : Linked N E) : ∀ k, upk N k 1 = 1
  | 0 => rfl
  | k + 1 => by show upk N k (atN N 1).up = 1; rw [h.at1.2.1]; exact h.stay k
theorem Linked.way (h : Linked N E) {j : Int} (hj : Hang N j) : ∃ d, upk N d j = 1 ∧ ∀ k, k ≤ d → upk N k j ∈ N.map NV.id ∧ (atN N (upk N k j)).kind = 1 := by
  induction hj with
  | root =>
    refine ⟨0, rfl, fun k hk => ?_⟩
    have : k = 0 := by omega
    subst this
    obtain ⟨a1, a2, a3, a4⟩ := h.at1
    exact ⟨List.mem_map.2 ⟨_, a3, a4⟩, a1⟩
  | @up v hv hk _ ih =>
    obtain ⟨d, h1, h2⟩ := ih
    have hat := atN_of h.nodup hv
    refine ⟨d + 1, by show upk N d (atN N v.id).up = 1; rw [hat]; exact h1, fun k hkd => ?_⟩
    cases k with
    | zero => exact ⟨List.mem_map.2 ⟨v, hv, rfl⟩, by show (atN N v.id).kind = 1; rw [hat]; exact hk⟩
    | succ k =>
      have := h2 k (by omega)
      show upk N k (atN N v.id).up ∈ _ ∧ (atN N (upk N k (atN N v.id).up)).kind = 1
      rw [hat]
      exact this
theorem Linked.short (h : Linked N E) {j : Int} (hj : Hang N j) : ∃ d, d < N.length ∧ upk N d j = 1 ∧ ∀ k, k < d → upk N k j ≠ 1 := by
  obtain ⟨d0, h0, hall⟩ := h.way hj
  obtain ⟨d, hd1, hd2, hd3⟩ : ∃ d, d ≤ d0 ∧ upk N d j = 1 ∧ ∀ k, k < d → upk N k j ≠ 1 := by
    clear hall
    induction d0 using Nat.strongRecOn with
    | ind d0 ih =>
      by_cases hx : ∃ k, k < d0 ∧ upk N k j = 1
      · obtain ⟨k, hk, hk1⟩ := hx
        obtain ⟨d, a, b, c⟩ := ih k hk hk1
        exact ⟨d, by omega, b, c⟩
      · exact ⟨d0, Nat.le_refl _, h0, fun k hk e => hx ⟨k, hk, e⟩⟩
  refine ⟨d, ?_, hd2, hd3⟩
  have hne : ∀ a b, a < b → b ≤ d → upk N a j ≠ upk N b j := fun a b hab hbd e => by
    have h1 : upk N (a + (d - b)) j = 1 := by
      rw [upk_add, e, ← upk_add, show b + (d - b) = d by omega]
      exact hd2
    exact hd3 (a + (d - b)) (by omega) h1
  have hl : (List.range (d + 1)).map (fun k => upk N k j) |>.Nodup := by
    rw [List.nodup_iff_pairwise_ne, List.pairwise_map]
    have : (List.range (d + 1)).Pairwise (fun a b => a < b) := List.pairwise_lt_range
    refine this.imp_of_mem fun {a b} ha hb hab => ?_
    exact hne a b hab (by have := List.mem_range.1 hb; omega)
  have := nodup_sub hl (m := N.map NV.id) fun x hx => by
    obtain ⟨k, hk, rfl⟩ := List.mem_map.1 hx
    exact (hall k (by have := List.mem_range.1 hk; omega)).1
  rw [List.length_map, List.length_map, List.length_range] at this
  omega
theorem Linked.on_upk (h : Linked N E) {j i : Int} (ho : On N j i) : ∃ k, upk N k j = i := by
  induction ho with
  | here j => exact ⟨0, rfl⟩
  | @up v i hv hk _ ih =>
    obtain ⟨k, e⟩ := ih
    exact ⟨k + 1, by show upk N k (atN N v.id).up = i; rw [atN_of h.nodup hv]; exact e⟩
theorem Linked.within (h : Linked N E) {j i : Int} (hj : Hang N j) (hw : withinP N N.length j i = false) : ¬ On N j i := by
  intro ho
  obtain ⟨k, e⟩ := h.on_upk ho
  obtain ⟨d, h1, h2, _⟩ := h.short hj
  have hall := within_upk N N.length j i hw
  by_cases hk : k < N.length
  · exact hall k hk e
  · have : upk N k j = 1 := by
      rw [show k = d + (k - d) by omega, upk_add, h2]
      exact h.stay _
    exact hall d h1 (by rw [h2, ← this, e])
theorem On.sub {M : List NV} {j i : Int} (h : On M j i) (hs : ∀ w ∈ M, w.kind = 1 → w ∈ N) : On N j i := by
  induction h with
  | here j => exact .here j
  | up hv hk _ ih => exact .up (hs _ hv hk) hk ih
theorem place_same_tb (h : Whole N F next) {p g : PL} (hp : PlaceOk N F p) (hg : PlaceOk N F g) : p.v.id = g.v.id ↔ p.tb = g.tb := by
  constructor
  · intro e
    have := uniq_of h.linked.nodup hp.inN hg.inN e
    unfold PL.tb
    rw [this]
  · intro e
    exact h.tbs _ hp.inN _ hg.inN hp.kind hg.kind (by rw [hp.tbs.1, hg.tbs.1, e])
theorem drop_look (F : Forest) (t u : Nat) (key : ByteArray) (ht : t ∈ F.map (·.1)) : lookF (dropF F t key) u = if u = t then dropL (lookF F t) key else lookF F u := by
  unfold dropF
  split
  · rename_i e; subst e; exact lookF_set _ _ _ ht
  · rename_i e; exact lookF_set_other _ _ _ _ e
theorem Whole.rename (h : Whole N F next) (hF : Fits N F next) (s t : ByteArray) : Whole (renameP N F s t).2.1 (renameP N F s t).2.2 next := by
  unfold renameP
  split
  · exact h
  rename_i p it hp
  split
  · exact h
  rename_i g hg
  obtain ⟨hpo, hit⟩ := takenP_ok hF hp
  have hgo := placeP_ok hF hg
  have hpt := hpo.tbs
  have hgt := hgo.tbs
  obtain ⟨v, hv, hid, hm⟩ := h.node hpo hit
  have hat : atN N it.node = v := by rw [← hid]; exact atN_of h.linked.nodup hv
  unfold goesP
  split
  · exact h
  rename_i hround
  have hon : (atN N it.node).kind = 1 → ¬ On N g.v.id it.node := fun hk => by
    have hwf : withinP N N.length g.v.id (atN N it.node).id = false := by
      rw [hk] at hround
      simpa using hround
    rw [hat, hid] at hwf
    exact h.linked.within (h.linked.hang g.v hgo.inN hgo.kind) hwf
  split
  · rename_i hfree
    refine h.moved hpo hit hgo ?_ hon
    rw [drop_look _ _ _ _ hpt.2]
    split
    · rename_i e; exact getL_drop_none _ (by rw [← e]; exact hfree)
    · exact hfree
  rename_i o ho
  split
  · rename_i hsame
    refine h.moved hpo hit hgo ?_ hon
    rw [Bool.and_eq_true, beq_iff_eq, beq_iff_eq] at hsame
    have htb : g.tb = p.tb := (place_same_tb h hgo hpo).1 hsame.1
    have hkey : g.key = p.key := toList_inj (by rw [← Lib.toList_data, ← Lib.toList_data]; exact hsame.2)
    rw [drop_look _ _ _ _ hpt.2, if_pos htb, hkey]
    exact getL_drop_same _ _
  rename_i hdiff
  split
  · exact h
  rename_i hnode
  split
  · exact h
  rename_i hmg
  obtain ⟨hkind, hempty⟩ := mayGo_empty hmg
  have hog : getL (entsOf F g.v) g.key = some o := by unfold entsOf; rw [hgt.1]; exact ho
  have h1 := h.unlinked hgo hog hempty
  obtain ⟨x, hx, hxid, _⟩ := h.node hgo hog
  have hxat : atN N o.node = x := by rw [← hxid]; exact atN_of h.linked.nodup hx
  rw [hxat] at hempty
  have hfull : ∀ {q : PL} {i : Item}, PlaceOk N F q → getL (entsOf F q.v) q.key = some i → q.v.id ≠ o.node := fun {q i} hq hi e => by
    have e2 := uniq_of h.linked.nodup hq.inN hx (by rw [e, hxid])
    have e3 := hempty (by rw [← e2]; exact hq.kind)
    rw [← e2, entsK_folder hq.kind hq.tbs.1] at e3
    have e4 := hq.taken hi
    rw [e3] at e4
    cases e4
  have hin : ∀ w ∈ N, w.id ≠ o.node → w ∈ unlinkN N o.node := fun w hw hne => by
    unfold unlinkN
    rw [hxat]
    split
    · exact mem_delN_iff.2 ⟨hw, hne⟩
    · exact mem_putN_iff.2 (.inr ⟨hw, by simp only; rw [hxid]; exact hne⟩)
  have hback : ∀ w ∈ unlinkN N o.node, w.kind = 1 → w ∈ N := fun w hw hwk => by
    unfold unlinkN at hw
    rw [hxat] at hw
    split at hw
    · exact (mem_delN_iff.1 hw).1
    · rename_i hl
      rcases mem_putN_iff.1 hw with rfl | ⟨hw, _⟩
      · rcases h.linked.kinds x hx with e | e
        · exact absurd (by omega : x.links - 1 < 1) hl
        · simp only at hwk; rw [e.1] at hwk; exact absurd hwk (by decide)
      · exact hw
  have hkk : (dropF F g.tb g.key).map (·.1) = F.map (·.1) := setF_keys _ _ _
  have hpl : ∀ {q : PL} {i : Item}, PlaceOk N F q → getL (entsOf F q.v) q.key = some i → PlaceOk (unlinkN N o.node) (dropF F g.tb g.key) q := fun {q i} hq hi =>
    ⟨hin _ hq.inN (hfull hq hi), hq.kind, by rw [hkk]; exact hq.tree, hq.name, hq.key⟩
  have hp1 := hpl hpo hit
  have hg1 := hpl hgo hog
  have hatne : atN (unlinkN N o.node) it.node = atN N it.node := by
    have hne : it.node ≠ o.node := fun e => hnode e.symm
    unfold atN unlinkN
    rw [hxat]
    split
    · rw [findN_del_other hne]
    · rw [findN_put_other (by simp only; rw [hxid]; exact hne)]
  have hit1 : getL (entsOf (dropF F g.tb g.key) p.v) p.key = some it := by
    unfold entsOf
    rw [hpt.1]
    simp only
    rw [drop_look _ _ _ _ hgt.2]
    have hpk := hpo.taken hit
    split
    · rename_i e
      rw [getL_drop_other, ← e]
      · exact hpk
      · intro e2
        apply hdiff
        rw [Bool.and_eq_true, beq_iff_eq, beq_iff_eq]
        exact ⟨((place_same_tb h hpo hgo).2 e).symm, by rw [e2]⟩
    · exact hpk
  refine h1.moved hp1 hit1 hg1 ?_ (fun hk ho2 => ?_)
  · rw [drop_look _ _ _ _ (by rw [hkk]; exact hpt.2), drop_look _ _ _ _ hgt.2, drop_look _ _ _ _ hgt.2]
    split
    · rename_i e
      rw [if_pos e.symm]
      exact getL_drop_none _ (getL_drop_same _ _)
    · rw [if_pos rfl]
      exact getL_drop_same _ _
  · rw [hatne] at hk
    exact hon hk (ho2.sub hback)
end Go.Proofs.YtjpmomklkkifjaaGreatDoor.T
namespace Go.Proofs.YtjpmomklkkifjaaGreatDoor.T
open Go.RowKit
structure Goo (k : Nat) (N : List NV) (F : Forest) (next : Int) : Prop where
  fits : Fits N F next
  few : Few k F
  links : ∀ v ∈ N, 0 ≤ v.links ∧ v.links ≤ k + 1
  top : next ≤ k + 2
variable {k : Nat} {N : List NV} {F : Forest} {next : Int}
theorem Goo.mono (h : Goo k N F next) {m : Nat} (hm : k ≤ m) : Goo m N F next := ⟨h.fits, h.few.mono hm, fun v hv => by have := h.links v hv; omega, by have := h.top; omega⟩
theorem Goo.million (h : Goo k N F next) (hk : k ≤ 800) : ∀ v ∈ N, 0 ≤ v.links ∧ v.links ≤ 1000000 := fun v hv => by have := h.links v hv; omega
theorem Goo.put (h : Goo k N F next) {tb : Nat} (ht : tb ∈ F.map (·.1)) {it : Item} (h1 : 0 ≤ it.node ∧ it.node ≤ 999) (h2 : it.key.toList.isEmpty = false) (hk : k < 800) : Goo (k + 1) N (putF F tb it) next :=
  ⟨h.fits.put ht h1 h2 h.few (by omega), h.few.put tb it, fun v hv => by have := h.links v hv; omega, by have := h.top; omega⟩
theorem Goo.drop (h : Goo k N F next) {tb : Nat} (ht : tb ∈ F.map (·.1)) (key : ByteArray) : Goo k N (dropF F tb key) next := ⟨h.fits.drop ht key, h.few.drop tb key, h.links, h.top⟩
theorem Goo.nput (h : Goo k N F next) {v : NV} (h1 : v.kind = 1 → ∃ tb, v.tb = some tb ∧ tb ∈ F.map (·.1)) (h2 : 0 ≤ v.id ∧ v.id ≤ 999) (h3 : 0 ≤ v.up ∧ v.up ≤ 999) (h4 : (findN N v.id).isSome = true ∨ N.length < 16) (h5 : 0 ≤ v.links ∧ v.links ≤ k + 1) : Goo k (putN N v) F next :=
  ⟨h.fits.nput h1 h2 h3 h4, h.few, fun x hx => by
    rcases mem_putN hx with rfl | hx
    · exact h5
    · exact h.links x hx, h.top⟩
theorem Goo.unlink (h : Goo k N F next) (i : Int) : Goo k (unlinkN N i) F next := by
  refine ⟨h.fits.unlink i fun v hv => (h.links v hv).1, h.few, fun x hx => ?_, h.top⟩
  unfold unlinkN at hx
  split at hx
  · exact h.links x (List.mem_filter.1 hx).1
  · rename_i hlt
    rcases mem_putN hx with rfl | hx
    · simp only
      have : (findN N i).isSome = true := by
        cases hf : findN N i with
        | some v => rfl
        | none =>
          exfalso
          apply hlt
          unfold atN
          rw [hf]
          simp [NV.zero]
      have := h.links _ (atN_in this).1
      omega
    · exact h.links x hx
theorem Goo.move (h : Goo k N F next) (i up : Int) (hu : 0 ≤ up ∧ up ≤ 999) : Goo k (moveN N i up) F next := by
  refine ⟨h.fits.move i up hu, h.few, fun x hx => ?_, h.top⟩
  unfold moveN at hx
  split at hx
  · rename_i hk
    rcases mem_putN hx with rfl | hx
    · exact h.links (atN N i) (atN_mem (N := N) (i := i) rfl (by rw [hk]; decide)).1
    · exact h.links x hx
  · exact h.links x hx
theorem Goo.newTree (h : Goo k N F next) (tb : Nat) : Goo k N ((tb, []) :: F) next := ⟨h.fits.newTree tb, h.few.newTree tb, h.links, h.top⟩
theorem Goo.next1 (h : Goo k N F next) (hn : next ≤ 999) (ht : next + 1 ≤ k + 2) : Goo k N F (next + 1) := ⟨h.fits.next1 hn, h.few, h.links, ht⟩
theorem find_in {v : NV} (h : v ∈ N) : (findN N v.id).isSome = true := by
  unfold findN
  rw [List.find?_isSome]
  exact ⟨v, h, by simp⟩
theorem Goo.write (h : Goo k N F next) (s t : ByteArray) : Goo k (writeP N F s t).2 F next := by
  unfold writeP
  split
  · exact h
  split
  · exact h
  · rename_i v hv
    have h1 := (fileP_in hv).1
    exact h.nput (fun hk => h.fits.tree v h1 hk) (h.fits.id v h1) (h.fits.up v h1) (.inl (by simp only; exact find_in h1)) (h.links v h1)
theorem Goo.link (h : Goo k N F next) (hk : k < 800) (s t : ByteArray) : Goo (k + 1) (linkP N F s t).2.1 (linkP N F s t).2.2 next := by
  unfold linkP
  split
  · exact h.mono (by omega)
  rename_i v hv
  split
  · exact h.mono (by omega)
  rename_i p hp
  have h1 := (fileP_in hv).1
  have hpo := (freeP_ok h.fits hp).1
  have h2 := h.put hpo.tbs.2 (it := ⟨p.key, p.name, v.id⟩) (h.fits.id v h1) (by rw [hpo.key]; exact key_full hpo.name) hk
  exact h2.nput (fun hk => h2.fits.tree v h1 hk) (h.fits.id v h1) (h.fits.up v h1) (.inl (by simp only; exact find_in h1)) (by have := h.links v h1; simp only; omega)
theorem Goo.remove (h : Goo k N F next) (s : ByteArray) (folder : Bool) : Goo k (removeP N F s folder).2.1 (removeP N F s folder).2.2 next := by
  unfold removeP
  split
  · exact h
  rename_i p it hp
  split
  · exact h
  · exact (h.drop (takenP_ok h.fits hp).1.tbs.2 p.key).unlink it.node
theorem Goo.moved (h : Goo k N F next) (hk : k < 800) {p g : PL} (hp : p.tb ∈ F.map (·.1)) (hg : g.tb ∈ F.map (·.1)) (hgk : g.key.toList.isEmpty = false) (hgi : 0 ≤ g.v.id ∧ g.v.id ≤ 999) {i : Int} (hi : 0 ≤ i ∧ i ≤ 999) : Goo (k + 1) (movedP N F p g i).2.1 (movedP N F p g i).2.2 next := by
  unfold movedP
  exact ((h.drop hp p.key).put (by rw [show (dropF F p.tb p.key).map (·.1) = F.map (·.1) from setF_keys _ _ _]; exact hg) hi hgk hk).move i g.v.id hgi
theorem Goo.rename (h : Goo k N F next) (hk : k < 800) (s t : ByteArray) : Goo (k + 1) (renameP N F s t).2.1 (renameP N F s t).2.2 next := by
  unfold renameP
  split
  · exact h.mono (by omega)
  rename_i p it hp
  split
  · exact h.mono (by omega)
  rename_i g hg
  have hpo := (takenP_ok h.fits hp).1
  have hgo := placeP_ok h.fits hg
  have hi := taken_node h.fits hp
  have hgk : g.key.toList.isEmpty = false := by rw [hgo.key]; exact key_full hgo.name
  have hgi := h.fits.id g.v hgo.inN
  unfold goesP
  split
  · exact h.mono (by omega)
  split
  · exact h.moved hk hpo.tbs.2 hgo.tbs.2 hgk hgi hi
  split
  · exact h.moved hk hpo.tbs.2 hgo.tbs.2 hgk hgi hi
  split
  · exact h.mono (by omega)
  split
  · exact h.mono (by omega)
  · exact ((h.drop hgo.tbs.2 g.key).unlink _).moved hk (by rw [show (dropF F g.tb g.key).map (·.1) = F.map (·.1) from setF_keys _ _ _]; exact hpo.tbs.2) (by rw [show (dropF F g.tb g.key).map (·.1) = F.map (·.1) from setF_keys _ _ _]; exact hgo.tbs.2) hgk hgi hi
theorem Goo.addFolder (h : Goo k N F next) (hk : k < 800) {p : PL} (hpo : PlaceOk N F p) (h16 : N.length < 16) (hn : next ≤ 999) (text : ByteArray) (tb : Nat) : Goo (k + 1) (putN N ⟨next, 1, p.v.id, 1, text, some tb⟩) (putF ((tb, []) :: F) p.tb ⟨p.key, p.name, next⟩) (next + 1) := by
  have hn0 := h.fits.next
  have hpt := hpo.tbs.2
  have h1 := (h.newTree tb).put (tb := p.tb) (by rw [List.map_cons]; exact List.mem_cons_of_mem _ hpt) (it := ⟨p.key, p.name, next⟩) ⟨by simp only; omega, by simp only; omega⟩ (by simp only; rw [hpo.key]; exact key_full hpo.name) hk
  refine (h1.nput (v := ⟨next, 1, p.v.id, 1, text, some tb⟩) (fun _ => ⟨tb, rfl, ?_⟩) ⟨by simp only; omega, by simp only; omega⟩ (h.fits.id p.v hpo.inN) (.inr h16) ⟨by simp only; omega, by simp only; omega⟩).next1 hn (by have := h.top; omega)
  rw [show (putF ((tb, []) :: F) p.tb ⟨p.key, p.name, next⟩).map (·.1) = ((tb, []) :: F).map (·.1) from setF_keys _ _ _]
  exact List.mem_cons_self
theorem Goo.addFile (h : Goo k N F next) (hk : k < 800) {p : PL} (hpo : PlaceOk N F p) (h16 : N.length < 16) (hn : next ≤ 999) (text : ByteArray) : Goo (k + 1) (putN N ⟨next, 2, 0, 1, text, none⟩) (putF F p.tb ⟨p.key, p.name, next⟩) (next + 1) := by
  have hn0 := h.fits.next
  have h1 := h.put (tb := p.tb) hpo.tbs.2 (it := ⟨p.key, p.name, next⟩) ⟨by simp only; omega, by simp only; omega⟩ (by simp only; rw [hpo.key]; exact key_full hpo.name) hk
  exact (h1.nput (v := ⟨next, 2, 0, 1, text, none⟩) (fun hx => by simp at hx) ⟨by simp only; omega, by simp only; omega⟩ ⟨by simp only; omega, by simp only; omega⟩ (.inr h16) ⟨by simp only; omega, by simp only; omega⟩).next1 hn (by have := h.top; omega)
structure Good (k : Nat) (N : List NV) (F : Forest) (next : Int) : Prop where
  goo : Goo k N F next
  whole : Whole N F next
theorem Good.fits (h : Good k N F next) : Fits N F next := h.goo.fits
theorem Good.few (h : Good k N F next) : Few k F := h.goo.few
theorem Good.mono (h : Good k N F next) {m : Nat} (hm : k ≤ m) : Good m N F next := ⟨h.goo.mono hm, h.whole⟩
theorem Good.million (h : Good k N F next) (hk : k ≤ 800) : ∀ v ∈ N, 0 ≤ v.links ∧ v.links ≤ 1000000 := h.goo.million hk
theorem Good.addFolder (h : Good k N F next) (hk : k < 800) {p : PL} (hpo : PlaceOk N F p ∧ getL (entsOf F p.v) p.key = none) (h16 : N.length < 16) (hn : next ≤ 999) {tb : Nat} (ht : tb ∉ F.map (·.1)) : Good (k + 1) (putN N ⟨next, 1, p.v.id, 1, ⟨#[]⟩, some tb⟩) (putF ((tb, []) :: F) p.tb ⟨p.key, p.name, next⟩) (next + 1) :=
  ⟨h.goo.addFolder hk hpo.1 h16 hn ⟨#[]⟩ tb, h.whole.addFolder hpo.1 hpo.2 ht⟩
theorem fresh_of {w0 w : World} {fb mb : Nat} {M : List NV} {G : Forest} {m : Int} {l2 : List Res} {tb t : Nat} {it : Item} (h : FSIn w0 w fb mb M (putF ((tb, []) :: F) t it) m l2) : tb ∉ F.map (·.1) := by
  have h1 := h.nodup
  unfold putF at h1
  rw [setF_keys, List.map_cons, List.nodup_cons] at h1
  exact h1.1
def GoodEnd (w0 : World) (fb mb : Nat) (l2 : List Res) (k : Nat) (e : Ending) (w' : World) : Prop := ∃ o N F next, e = .returned (errV o) ∧ FSIn w0 w' fb mb N F next l2 ∧ Good k N F next
variable {w0 w : World} {fb mb : Nat} {l2 : List Res}
theorem mkdir_good (hR : Ready w0) (h : FSIn w0 w fb mb N F next l2) (hG : Good k N F next) (hk : k < 800) (s : ByteArray) (hs : s.size ≤ 4000000000) :
    Calls Tryz.prog 24 #[.pointer (some ⟨fb, 0, none⟩), .string s] w fun e w' => GoodEnd w0 fb mb l2 (k + 1) e w' := by
  refine (mkdir_calls w0 w fb mb N F next l2 hR h hG.fits s hs).mono ?_
  intro e w' hE
  unfold AddFolderEnd at hE
  split at hE
  · exact ⟨some _, N, F, next, hE.1, hE.2, hG.mono (by omega)⟩
  rename_i p hp
  split at hE
  · exact ⟨some 9, N, F, next, hE.1, hE.2, hG.mono (by omega)⟩
  · rename_i hfull
    obtain ⟨he, tb, hI⟩ := hE
    exact ⟨none, _, _, _, he, hI, hG.addFolder hk (freeP_ok hG.fits hp) (by omega) (by omega) (fresh_of (G := F) hI)⟩
theorem create_good (hR : Ready w0) (h : FSIn w0 w fb mb N F next l2) (hG : Good k N F next) (hk : k < 800) (s t : ByteArray) (hs : s.size ≤ 4000000000) (ht : t.size ≤ 4000000000) :
    Calls Tryz.prog 73 #[.pointer (some ⟨fb, 0, none⟩), .string s, .string t] w fun e w' => GoodEnd w0 fb mb l2 (k + 1) e w' := by
  refine (create_calls w0 w fb mb N F next l2 hR h hG.fits s t hs ht).mono ?_
  rintro e w' (⟨_, h1, h2⟩ | ⟨h20, hE⟩)
  · exact ⟨some 2, N, F, next, h1, h2, hG.mono (by omega)⟩
  unfold AddFileEnd at hE
  split at hE
  · exact ⟨some _, N, F, next, hE.1, hE.2, hG.mono (by omega)⟩
  rename_i p hp
  split at hE
  · exact ⟨some 9, N, F, next, hE.1, hE.2, hG.mono (by omega)⟩
  · rename_i hfull
    exact ⟨none, _, _, _, hE.1, hE.2, hG.goo.addFile hk (freeP_ok hG.fits hp).1 (by omega) (by omega) _, hG.whole.addFile (freeP_ok hG.fits hp).1 (freeP_ok hG.fits hp).2 h20⟩
theorem write_good (hR : Ready w0) (h : FSIn w0 w fb mb N F next l2) (hG : Good k N F next) (hk : k < 800) (s t : ByteArray) (hs : s.size ≤ 4000000000) (ht : t.size ≤ 4000000000) :
    Calls Tryz.prog 74 #[.pointer (some ⟨fb, 0, none⟩), .string s, .string t] w fun e w' => GoodEnd w0 fb mb l2 (k + 1) e w' :=
  (write_calls w0 w fb mb N F next l2 hR h hG.fits s t hs ht).mono fun e w' hE => ⟨_, _, _, _, hE.1, hE.2, (hG.goo.write s t).mono (by omega), hG.whole.write s t⟩
theorem link_good (hR : Ready w0) (h : FSIn w0 w fb mb N F next l2) (hG : Good k N F next) (hk : k < 800) (s t : ByteArray) (hs : s.size ≤ 4000000000) (ht : t.size ≤ 4000000000) :
    Calls Tryz.prog 75 #[.pointer (some ⟨fb, 0, none⟩), .string s, .string t] w fun e w' => GoodEnd w0 fb mb l2 (k + 1) e w' :=
  (link_calls w0 w fb mb N F next l2 hR h hG.fits (hG.million (by omega)) s t hs ht).mono fun e w' hE => ⟨_, _, _, _, hE.1, hE.2, hG.goo.link hk s t, hG.whole.link hG.fits s t⟩
theorem remove_good (hR : Ready w0) (h : FSIn w0 w fb mb N F next l2) (hG : Good k N F next) (hk : k < 800) (s : ByteArray) (hs : s.size ≤ 4000000000) (folder : Bool) :
    Calls Tryz.prog 76 #[.pointer (some ⟨fb, 0, none⟩), .string s, .bool folder] w fun e w' => GoodEnd w0 fb mb l2 (k + 1) e w' :=
  (remove_calls w0 w fb mb N F next l2 hR h hG.fits (hG.million (by omega)) s hs folder).mono fun e w' hE => ⟨_, _, _, _, hE.1, hE.2, (hG.goo.remove s folder).mono (by omega), hG.whole.remove hG.fits s folder⟩
theorem rename_good (hR : Ready w0) (h : FSIn w0 w fb mb N F next l2) (hG : Good k N F next) (hk : k < 800) (s t : ByteArray) (hs : s.size ≤ 4000000000) (ht : t.size ≤ 4000000000) :
    Calls Tryz.prog 26 #[.pointer (some ⟨fb, 0, none⟩), .string s, .string t] w fun e w' => GoodEnd w0 fb mb l2 (k + 1) e w' :=
  (rename_calls w0 w fb mb N F next l2 hR h hG.fits (hG.million (by omega)) s t hs ht).mono fun e w' hE => ⟨_, _, _, _, hE.1, hE.2, hG.goo.rename hk s t, hG.whole.rename hG.fits s t⟩
end Go.Proofs.YtjpmomklkkifjaaGreatDoor.T
