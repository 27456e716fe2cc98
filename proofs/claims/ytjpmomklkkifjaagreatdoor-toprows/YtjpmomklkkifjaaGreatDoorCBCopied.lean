/-
  Paths that are written otherwise, and paths of one name: what their parts are. Plain facts; no Go text. Closed facts of the names a and A. Paths of one name: their place, and what they lead to; and the closed facts of made. Plain facts; no Go text. The contract of made: a closed fact, that a folder is made. A region that draws its order and whose callees only lay new blocks: one walk of the text's own order serves. What the entries of whole folders are like. The contract of image.told: a number of two digits at most, in three digits. The contract of image.told, of a number below a hundred. The contract of strconv.Atoi, of three digits. Rows of changes as plain data; the contract of SameChanges upon two rows that tell the same. The contract of slices.SortFunc upon rows of an image, by their keys. The contracts of node.copied and Tree.Copy, over the seat's program: the same entries in new nodes, the old ones as they were.
-/
import Derived.Test.YtjpmomklkkifjaaGreatDoorCFAlike
import Derived.Test.YtjpmomklkkifjaaGreatDoorCFWriteC
import Derived.Test.YtjpmomklkkifjaaGreatDoorCBWalkA
import Derived.Test.YtjpmomklkkifjaaGreatDoorCFNodes2
import Derived.BigQuiet
import Derived.Test.YtjpmomklkkifjaaGreatDoorProg
import Derived.Shelf.Strconv.Itoa3
import Derived.Shelf.Strings.Repeat
import Derived.WalkKit
import Derived.Shelf.Strconv.Atoi
import Derived.Test.YtjpmomklkkifjaaGreatDoorCBInsertI
import Derived.Test.YtjpmomklkkifjaaGreatDoorCBTreeDrop
import Derived.Deep.RegionLaw
namespace Go.Proofs.YtjpmomklkkifjaaGreatDoor.T
open Go.RowKit
set_option maxRecDepth 100000
set_option linter.unusedVariables false
set_option linter.unusedSimpArgs false

theorem splitS_data (s : ByteArray) : (splitS s).map (·.data.toList) = cutS s.data.toList := by
  unfold splitS
  rw [Lib.splitB_data, show Lib.countB s ⟨#[47]⟩ = Lib.count s.data.toList [47] from rfl, Lib.count_one]
  exact splitK_cut _
theorem data_inj {a b : List ByteArray} (h : a.map (·.data.toList) = b.map (·.data.toList)) : a = b := by
  induction a generalizing b with
  | nil => cases b with
    | nil => rfl
    | cons y b => simp at h
  | cons x a ih => cases b with
    | nil => simp at h
    | cons y b =>
      simp only [List.map_cons, List.cons.injEq] at h
      rw [toList_inj h.1, ih h.2]
theorem encL_ne {rs : List Int} (hs : ∀ r ∈ rs, SmallR r) (h : rs ≠ []) : encL rs ≠ [] := by
  intro e
  have h1 := (encL_len rs hs).1
  rw [e] at h1
  have h2 := List.length_pos_iff.2 h
  have h3 : rs.length ≤ 0 := h1
  omega
theorem data_enc (rs : List Int) : (encS rs).data.toList = encL rs := by simp [encS]
theorem parts_one {s t : ByteArray} (h : checkP s = none) (ht : t.data.toList = 47 :: s.data.toList) : partsP t = .ok [s] := by
  obtain ⟨hn, he, hd⟩ := name_of_check h
  have hsz : t.size = s.size + 1 := by rw [Lib.size_eq, ht, Lib.size_eq]; rfl
  have h24 : ¬ (s.size = 0 ∨ 24 < s.size) := by
    intro hx
    rw [checkP_size hx] at h
    cases h
  have h47 : (47 : UInt8) ∉ s.data.toList := by
    rw [he, data_enc]
    exact encL_no47 (Name.no47 hn)
  have hsp : splitS (t.extract 1 t.size) = [s] := by
    apply data_inj
    rw [splitS_data, Lib.extract_to_end, ht]
    exact cutS_none h47
  have hne : s.data.toList ≠ [] := by
    intro e
    have : s.size = 0 := by rw [Lib.size_eq, e]; rfl
    omega
  unfold partsP
  rw [if_neg (by omega), if_neg (by rw [ht]; simp [Lib.hasPrefix]), if_neg (by rw [Lib.toList_data, ht]; simpa using hne), hsp]
  have : partErr [s] = none := by
    unfold partErr
    rw [hd, h]
    rfl
  rw [if_neg (by simp), this]

theorem only_of (rs : List Int) (hz : ∀ r ∈ rs, isZ r = true) : ∀ (f : Nat) (done rest : List Int), rs = done ++ rest → onlyFrom (encS rs) f (encL done).length = true
  | 0, _, _, _ => rfl
  | f + 1, done, rest, he => by
    cases rest with
    | nil =>
      apply onlyFrom_end
      rw [encS_size, he, List.append_nil]
      omega
    | cons r rest =>
      have hr : r ∈ rs := by rw [he]; simp
      have hd := decode_at done r rest (is_small (hz r hr))
      rw [← he] at hd
      unfold onlyFrom
      split
      · rw [hd]
        have h0 : (((r.toNat : Nat) : Int)) = r := by have := (is_small (hz r hr)).1; omega
        simp only [h0, hz r hr, Bool.true_and]
        have := only_of rs hz f (done ++ [r]) rest (by rw [he]; simp)
        rw [encL_append, encL_one, List.length_append] at this
        exact this
      · rfl
theorem valid_enc : ∀ (rs : List Int), (∀ r ∈ rs, SmallR r) → Lib.validD (encL rs) = true
  | [], _ => rfl
  | r :: rs, h => by
    have hs := h r (by simp)
    have hne : encL (r :: rs) ≠ [] := encL_ne h (by simp)
    rw [Lib.validD_step _ hne, encL_cons, decode_enc hs]
    have hlt := hs.2
    rw [if_neg (by rintro ⟨h1, _⟩; simp only at h1; omega)]
    simp only [List.drop_left]
    exact valid_enc rs fun q hq => h q (by simp [hq])
theorem check_of_name {ts : List Int} (h : Name ts) (hd : dotsB (encS ts) = false) : checkP (encS ts) = none := by
  have hz := encS_size ts
  have hb := h.bytes
  have hp := List.length_pos_iff.2 (encL_ne h.small h.ne)
  unfold checkP
  rw [if_neg (by omega), if_neg (by rw [data_enc, valid_enc ts h.small]; simp), if_neg, signsOf_enc h.small]
  · obtain ⟨r, t, hts⟩ : ∃ r t, ts = r :: t := by
      cases ts with
      | nil => exact absurd rfl h.ne
      | cons r t => exact ⟨r, t, rfl⟩
    have hf := h.first r t hts
    have h0 : ts.headD 0 = r := by rw [hts]; rfl
    rw [h0, if_neg (by simpa using hf), if_neg (by rw [hd]; simp), if_neg (by have := h.few; omega)]
  · have := only_of ts h.signs (encS ts).size [] ts rfl
    rw [encL_nil, List.length_nil] at this
    unfold onlyB
    rw [this]; simp
end Go.Proofs.YtjpmomklkkifjaaGreatDoor.T
namespace Go.Proofs.YtjpmomklkkifjaaGreatDoor.T
open Go.RowKit
set_option maxRecDepth 100000
set_option linter.unusedSimpArgs false
theorem enc_a : encS [97] = ⟨#[97]⟩ := by first | kernel_rfl | rfl
theorem enc_A : encS [65] = ⟨#[65]⟩ := by first | kernel_rfl | rfl
theorem signs_a : signsOf ⟨#[97]⟩ = [97] := by rw [← enc_a]; exact signsOf_enc (fun r hr => by rw [List.mem_singleton.1 hr]; unfold SmallR; omega)
theorem signs_A : signsOf ⟨#[65]⟩ = [65] := by rw [← enc_A]; exact signsOf_enc (fun r hr => by rw [List.mem_singleton.1 hr]; unfold SmallR; omega)
theorem key_aA : keyS ⟨#[97]⟩ = keyS ⟨#[65]⟩ := by unfold keyS; rw [signs_a, signs_A]; kernel_rfl
end Go.Proofs.YtjpmomklkkifjaaGreatDoor.T
namespace Go.Proofs.YtjpmomklkkifjaaGreatDoor.T
open Go.RowKit
set_option maxRecDepth 100000
set_option linter.unusedVariables false
set_option linter.unusedSimpArgs false

theorem place_one {N : List NV} {F : Forest} {s t : ByteArray} (h : checkP s = none) (ht : t.data.toList = 47 :: s.data.toList) : placeP N F t = if (atN N 1).kind ≠ 1 then .error 7 else .ok ⟨atN N 1, keyS s, s⟩ := by
  have hd := (name_of_check h).2.2
  unfold placeP
  rw [parts_one h ht]
  simp only [List.getLast_singleton, hd, List.length_nil, List.take_zero, walkP]
  rfl
theorem find_one {N : List NV} {F : Forest} {s t : ByteArray} (h : checkP s = none) (ht : t.data.toList = 47 :: s.data.toList) : findP N F t = if (atN N 1).kind ≠ 1 then .error 7 else match getL (entsOf F (atN N 1)) (keyS s) with | none => .error 5 | some it => .ok (atN N it.node) := by
  have hd := (name_of_check h).2.2
  unfold dotsB at hd
  simp only [Bool.or_eq_false_iff] at hd
  have hw : findP N F t = stepP N F (atN N 1) s := by
    unfold findP
    rw [parts_one h ht]
    simp only [walkP]
    cases stepP N F (atN N 1) s <;> rfl
  rw [hw]
  unfold stepP
  rw [hd.1, hd.2]
  rfl
theorem name_one {x : Int} (h1 : isZ x = true) (h2 : classZ x = 0) (h3 : (encL [x]).length ≤ 24) (h4 : (splitL [x]).length ≤ 12) : Name [x] := ⟨fun r hr => by rw [List.mem_singleton.1 hr]; exact h1, by simp, fun r t e => by cases e; exact h2, h3, h4⟩
theorem check_a : checkP ⟨#[97]⟩ = none := by
  rw [← enc_a]
  exact check_of_name (name_one (by decide +kernel) (by decide) (by decide +kernel) (by decide +kernel)) (by rw [enc_a]; decide +kernel)
theorem check_A : checkP ⟨#[65]⟩ = none := by
  rw [← enc_A]
  exact check_of_name (name_one (by decide +kernel) (by decide) (by decide +kernel) (by decide +kernel)) (by rw [enc_A]; decide +kernel)
theorem path_a : (⟨#[47, 97]⟩ : ByteArray).data.toList = 47 :: (⟨#[97]⟩ : ByteArray).data.toList := rfl
theorem path_A : (⟨#[47, 65]⟩ : ByteArray).data.toList = 47 :: (⟨#[65]⟩ : ByteArray).data.toList := rfl

theorem putL_has : ∀ (L : List Item) (it : Item), it ∈ putL L it
  | [], it => by simp [putL]
  | x :: L, it => by
    unfold putL
    split
    · simp
    split
    · simp
    · exact List.mem_cons_of_mem _ (putL_has L it)
theorem getL_putL {key : ByteArray} {it : Item} (hk : it.key = key) : ∀ {L : List Item}, Sorted L → getL (putL L it) key = some it := by
  intro L hs
  have := putL_sorted (it := it) hs
  rw [← hk]
  exact getL_some this (putL_has L it)
theorem free_root (tb : Nat) : freeP [rootN tb] [(tb, [])] ⟨#[47, 97]⟩ = .ok ⟨rootN tb, keyS ⟨#[97]⟩, ⟨#[97]⟩⟩ := by
  have h1 : atN [rootN tb] 1 = rootN tb := by simp [atN, findN, rootN]
  unfold freeP
  rw [place_one check_a path_a, h1, if_neg (by simp [rootN])]
  have h2 : entsOf [(tb, ([] : List Item))] (rootN tb) = [] := by simp [entsOf, rootN, lookF]
  simp only [h2]
  rfl
theorem find_root (tb t2 : Nat) (text : ByteArray) : ∃ u, u.id = 2 ∧ findP (putN [rootN tb] ⟨2, 1, 1, 1, text, some t2⟩) (putF ((t2, []) :: [(tb, [])]) tb ⟨keyS ⟨#[97]⟩, ⟨#[97]⟩, 2⟩) ⟨#[47, 65]⟩ = .ok u := by
  have hp : putN [rootN tb] ⟨2, 1, 1, 1, text, some t2⟩ = [rootN tb, ⟨2, 1, 1, 1, text, some t2⟩] := by simp [putN, findN, rootN]
  have h1 : atN [rootN tb, ⟨2, 1, 1, 1, text, some t2⟩] 1 = rootN tb := by simp [atN, findN, rootN]
  have h2 : atN [rootN tb, ⟨2, 1, 1, 1, text, some t2⟩] 2 = ⟨2, 1, 1, 1, text, some t2⟩ := by simp [atN, findN, rootN]
  refine ⟨⟨2, 1, 1, 1, text, some t2⟩, rfl, ?_⟩
  rw [find_one check_A path_A, hp, h1, if_neg (by simp [rootN])]
  have h3 : entsOf (putF ((t2, []) :: [(tb, [])]) tb ⟨keyS ⟨#[97]⟩, ⟨#[97]⟩, 2⟩) (rootN tb) = putL [] ⟨keyS ⟨#[97]⟩, ⟨#[97]⟩, 2⟩ := by
    show lookF _ tb = _
    unfold putF
    rw [lookF_set _ _ _ (by simp)]
    have : lookF ((t2, ([] : List Item)) :: [(tb, [])]) tb = [] := by
      unfold lookF
      rw [List.find?_cons]
      split
      · rfl
      · simp
    rw [this]
  rw [h3, ← key_aA, getL_putL (key := keyS ⟨#[97]⟩) rfl List.Pairwise.nil]
  simp only [h2]
end Go.Proofs.YtjpmomklkkifjaaGreatDoor.T
namespace Go.Proofs.YtjpmomklkkifjaaGreatDoor.T
open Go.RowKit
set_option maxRecDepth 100000
set_option linter.unusedVariables false
set_option linter.unusedSimpArgs false

set_option maxHeartbeats 2000000 in
theorem made_calls {w0 w : World} {l2 : List Res} (hR : Ready w0) (h : H0 w0 w l2) (hb : w0.heap.size ≤ w.heap.size) :
    Calls Tryz.prog 13 #[] w fun e w' => e = .returned (.bool true) ∧ H0 w0 w' l2 := by
  have hnew := fsNew_calls h hb
  have HNw := hide hnew
  have HR := hide hR
  clear h hnew hR
  go_enter Tryz.func13, Tryz.ntmps13
  go_wp2_with fail
  refine (unhide HNw).mono ?_
  rintro e w2 ⟨fb, mb, tb, rfl, h2⟩
  have hm := mkdir_calls w0 w2 fb mb _ _ 2 l2 (unhide HR) h2 (good_new tb).fits ⟨#[47, 97]⟩ (by decide)
  have hpl := freeP_ok (good_new tb).fits (free_root tb)
  have Hg : Hid (∀ t2, t2 ∉ [tb] → Good 1 (putN [rootN tb] ⟨2, 1, 1, 1, ⟨#[]⟩, some t2⟩) (putF ((t2, []) :: [(tb, [])]) tb ⟨keyS ⟨#[97]⟩, ⟨#[97]⟩, 2⟩) (2 + 1)) := fun t2 ht =>
    (good_new tb).addFolder (by omega) hpl (by simp) (by omega) ht
  have hm2 : Calls Tryz.prog 24 #[.pointer (some ⟨fb, 0, none⟩), .string ⟨#[47, 97]⟩] w2 fun e w' => e = .returned .nilIface ∧ ∃ t2, FSIn w0 w' fb mb (putN [rootN tb] ⟨2, 1, 1, 1, ⟨#[]⟩, some t2⟩) (putF ((t2, []) :: [(tb, [])]) tb ⟨keyS ⟨#[97]⟩, ⟨#[97]⟩, 2⟩) (2 + 1) l2 := by
    refine hm.mono fun e w' hE => ?_
    unfold AddFolderEnd at hE
    rw [free_root tb] at hE
    simp only at hE
    rw [if_neg (by simp)] at hE
    exact hE
  have HM := hide hm2
  clear h2 hm hm2 hpl HNw
  go_wp2_with fail
  refine (unhide HM).mono ?_
  rintro e w3 ⟨rfl, t2, h3⟩
  obtain ⟨u, hu, hf⟩ := find_root tb t2 ⟨#[]⟩
  have hF := fsFind_calls w0 w3 fb mb _ _ _ l2 (unhide HR) h3 (unhide Hg t2 (fresh_of (G := []) h3)).fits ⟨#[47, 65]⟩ (by decide)
  rw [hf] at hF
  unfold findRet at hF
  simp only [resN, resE, errV, hu] at hF
  have HF : Hid (Calls Tryz.prog 21 #[.pointer (some ⟨fb, 0, none⟩), .string ⟨#[47, 65]⟩] w3 fun e w' => e = .returned (.tuple #[.agg #[.int .i64 2, .int .i64 u.kind, .int .i64 u.up, .int .i64 u.links, .string u.text], .nilIface]) ∧ H0 w0 w' l2) :=
    hF.mono fun e w' ⟨he, hI⟩ => ⟨he, hI.rest⟩
  clear h3 hF hf hu HM Hg
  go_wp2_with fail
  refine (unhide HF).mono ?_
  rintro e w4 ⟨rfl, h4⟩
  have H4 := hide h4
  clear h4 HF
  go_wp2_with fail
  go_ret
  exact ⟨rfl, Hold.alloc (unhide H4) _⟩
end Go.Proofs.YtjpmomklkkifjaaGreatDoor.T
namespace Go.Proofs.YtjpmomklkkifjaaGreatDoor.T
open Go.RowKit Go.Lib
set_option maxRecDepth 100000
set_option linter.unusedVariables false
set_option linter.unusedSimpArgs false

structure Later (w : World) where
  wld : World
  bel : Below w.heap.size w wld
instance (w : World) : Nonempty (Later w) := ⟨⟨w, Below.refl _ _⟩⟩
theorem Calls.later {P : Program} {f : FuncId} {args : Array Value} {w : World} {u : Later w} {v : Value}
    (h : Calls P f args u.wld fun e w' => e = .returned v ∧ Below u.wld.heap.size u.wld w') : Calls P f args u.wld fun e w'' => e = .returned v ∧ ∃ u' : Later w, w'' = u'.wld :=
  h.mono fun _ w' ⟨he, hb⟩ => ⟨he, ⟨w', u.bel.trans (hb.mono u.bel.size)⟩, rfl⟩

variable {k : Nat} {N : List NV} {F : Forest} {next : Int}
structure EntsOk (N : List NV) (es : List Item) : Prop where
  key : ∀ x ∈ es, x.key = keyS x.name
  name : ∀ x ∈ es, checkP x.name = none
  node : ∀ x ∈ es, x.node ≠ 1 ∧ ∃ v ∈ N, v.id = x.node
  sorted : Sorted es
  few : es.length ≤ 900
theorem Whole.ents (h : Whole N F next) (hF : Fits N F next) {u : NV} (hu : u ∈ N) : EntsOk N (entsK F u) := by
  unfold entsK
  split
  · rename_i hk
    obtain ⟨tb, htb, ht⟩ := h.tree u hu hk
    have he : entsOf F u = lookF F tb := by unfold entsOf; rw [htb]
    obtain ⟨h1, h2⟩ := h.trees.look ht
    rw [he]
    refine ⟨fun x hx => (h2 x hx).1, fun x hx => (h2 x hx).2, fun x hx => ?_, h1, (show Few 900 F from hF.many).look tb⟩
    have hp : (u.id, x) ∈ pairs N F := List.mem_flatMap.2 ⟨u, hu, List.mem_map.2 ⟨x, by rw [entsK_folder hk htb]; exact hx, rfl⟩⟩
    exact h.linked.named _ hp
  · exact ⟨by simp, by simp, by simp, List.Pairwise.nil, by simp⟩
end Go.Proofs.YtjpmomklkkifjaaGreatDoor.T
namespace Go.Proofs.YtjpmomklkkifjaaGreatDoor.T
open Go.Shelf Go.RowKit
set_option maxRecDepth 100000
set_option linter.unusedVariables false
set_option linter.unusedSimpArgs false

def lays171_ren : Go.Shelf.Ren := ⟨fun | 129 => 130 | 171 => 110 | 243 => 153 | 246 => 194 | 283 => 217 | 284 => 218 | 285 => 219 | 286 => 220 | 317 => 234 | 318 => 235 | 319 => 236 | 320 => 237 | 337 => 244 | 338 => 245 | n => n, fun | 37 => 143 | 46 => 126 | 51 => 182 | 53 => 62 | 171 => 255 | 173 => 257 | 212 => 271 | 213 => 272 | 232 => 280 | 233 => 281 | 0 => 0 | 2 => 2 | 3 => 3 | 4 => 4 | 5 => 5 | 9 => 9 | 20 => 20 | n => n, fun | 17 => 6 | 18 => 7 | 19 => 8 | n => n⟩
theorem lays171 : Lays.n171 Tryz.prog lays171_ren := {
  mixed := by kernel_rfl
  f129 := Tryz.func130.trans (congrArg some (by kernel_rfl))
  f171 := Tryz.func110.trans (congrArg some (by kernel_rfl))
  f243 := Tryz.func153.trans (congrArg some (by kernel_rfl))
  f246 := Tryz.func194.trans (congrArg some (by kernel_rfl))
  f283 := Tryz.func217.trans (congrArg some (by kernel_rfl))
  f284 := Tryz.func218.trans (congrArg some (by kernel_rfl))
  f285 := Tryz.func219.trans (congrArg some (by kernel_rfl))
  f286 := Tryz.func220.trans (congrArg some (by kernel_rfl))
  f317 := Tryz.func234.trans (congrArg some (by kernel_rfl))
  f318 := Tryz.func235.trans (congrArg some (by kernel_rfl))
  f319 := Tryz.func236.trans (congrArg some (by kernel_rfl))
  f320 := Tryz.func237.trans (congrArg some (by kernel_rfl))
  f337 := Tryz.func244.trans (congrArg some (by kernel_rfl))
  f338 := Tryz.func245.trans (congrArg some (by kernel_rfl))
  t0 := Tryz.underlying0
  a0 := Tryz.isAgg0
  z0 := Tryz.sizeOf0
  v0 := Tryz.zeroValue0
  t2 := Tryz.underlying2
  a2 := Tryz.isAgg2
  z2 := Tryz.sizeOf2
  v2 := Tryz.zeroValue2
  t3 := Tryz.underlying3
  a3 := Tryz.isAgg3
  z3 := Tryz.sizeOf3
  v3 := Tryz.zeroValue3
  t4 := Tryz.underlying4
  a4 := Tryz.isAgg4
  z4 := Tryz.sizeOf4
  v4 := Tryz.zeroValue4
  t5 := Tryz.underlying5
  a5 := Tryz.isAgg5
  z5 := Tryz.sizeOf5
  v5 := Tryz.zeroValue5
  t9 := Tryz.underlying9
  a9 := Tryz.isAgg9
  z9 := Tryz.sizeOf9
  v9 := Tryz.zeroValue9
  t20 := Tryz.underlying20
  a20 := Tryz.isAgg20
  z20 := Tryz.sizeOf20
  v20 := Tryz.zeroValue20
  t37 := Tryz.underlying143
  a37 := Tryz.isAgg143
  z37 := Tryz.sizeOf143
  v37 := Tryz.zeroValue143
  t46 := Tryz.underlying126
  a46 := Tryz.isAgg126
  z46 := Tryz.sizeOf126
  v46 := Tryz.zeroValue126
  t51 := Tryz.underlying182
  a51 := Tryz.isAgg182
  z51 := Tryz.sizeOf182
  v51 := Tryz.zeroValue182
  t53 := Tryz.underlying62
  a53 := Tryz.isAgg62
  z53 := Tryz.sizeOf62
  v53 := Tryz.zeroValue62
  t171 := Tryz.underlying255
  a171 := Tryz.isAgg255
  z171 := Tryz.sizeOf255
  v171 := Tryz.zeroValue255
  t173 := Tryz.underlying257
  a173 := Tryz.isAgg257
  z173 := Tryz.sizeOf257
  v173 := Tryz.zeroValue257
  t212 := Tryz.underlying271
  a212 := Tryz.isAgg271
  z212 := Tryz.sizeOf271
  v212 := Tryz.zeroValue271
  t213 := Tryz.underlying272
  a213 := Tryz.isAgg272
  z213 := Tryz.sizeOf272
  t232 := Tryz.underlying280
  a232 := Tryz.isAgg280
  z232 := Tryz.sizeOf280
  v232 := Tryz.zeroValue280
  t233 := Tryz.underlying281
  a233 := Tryz.isAgg281
  z233 := Tryz.sizeOf281
  v233 := Tryz.zeroValue281
  g17 := by kernel_rfl
  g18 := by kernel_rfl
  g19 := by kernel_rfl }
def lays105_ren : Go.Shelf.Ren := ⟨fun | 99 => 55 | 105 => 111 | 165 => 155 | 166 => 156 | 169 => 95 | 170 => 157 | 206 => 101 | 212 => 154 | 240 => 138 | 241 => 197 | 263 => 195 | 264 => 196 | 276 => 179 | 277 => 221 | n => n, fun | 37 => 143 | 46 => 126 | 51 => 182 | 53 => 62 | 70 => 142 | 72 => 145 | 80 => 150 | 75 => 35 | 76 => 148 | 109 => 207 | 127 => 198 | 146 => 233 | 148 => 235 | 164 => 226 | 0 => 0 | 3 => 3 | 4 => 4 | 5 => 5 | 9 => 9 | 20 => 20 | n => n, fun | n => n⟩
theorem lays105 : Lays.n105 Tryz.prog lays105_ren := {
  mixed := by kernel_rfl
  f99 := Tryz.func55.trans (congrArg some (by kernel_rfl))
  f105 := Tryz.func111.trans (congrArg some (by kernel_rfl))
  f165 := Tryz.func155.trans (congrArg some (by kernel_rfl))
  f166 := Tryz.func156.trans (congrArg some (by kernel_rfl))
  f169 := Tryz.func95.trans (congrArg some (by kernel_rfl))
  f170 := Tryz.func157.trans (congrArg some (by kernel_rfl))
  f206 := Tryz.func101.trans (congrArg some (by kernel_rfl))
  f212 := Tryz.func154.trans (congrArg some (by kernel_rfl))
  f240 := Tryz.func138.trans (congrArg some (by kernel_rfl))
  f241 := Tryz.func197.trans (congrArg some (by kernel_rfl))
  f263 := Tryz.func195.trans (congrArg some (by kernel_rfl))
  f264 := Tryz.func196.trans (congrArg some (by kernel_rfl))
  f276 := Tryz.func179.trans (congrArg some (by kernel_rfl))
  f277 := Tryz.func221.trans (congrArg some (by kernel_rfl))
  t0 := Tryz.underlying0
  a0 := Tryz.isAgg0
  z0 := Tryz.sizeOf0
  v0 := Tryz.zeroValue0
  t3 := Tryz.underlying3
  a3 := Tryz.isAgg3
  z3 := Tryz.sizeOf3
  v3 := Tryz.zeroValue3
  t4 := Tryz.underlying4
  a4 := Tryz.isAgg4
  z4 := Tryz.sizeOf4
  v4 := Tryz.zeroValue4
  t5 := Tryz.underlying5
  a5 := Tryz.isAgg5
  z5 := Tryz.sizeOf5
  v5 := Tryz.zeroValue5
  t9 := Tryz.underlying9
  a9 := Tryz.isAgg9
  z9 := Tryz.sizeOf9
  v9 := Tryz.zeroValue9
  t20 := Tryz.underlying20
  a20 := Tryz.isAgg20
  z20 := Tryz.sizeOf20
  v20 := Tryz.zeroValue20
  t37 := Tryz.underlying143
  a37 := Tryz.isAgg143
  z37 := Tryz.sizeOf143
  v37 := Tryz.zeroValue143
  t46 := Tryz.underlying126
  a46 := Tryz.isAgg126
  z46 := Tryz.sizeOf126
  v46 := Tryz.zeroValue126
  t51 := Tryz.underlying182
  a51 := Tryz.isAgg182
  z51 := Tryz.sizeOf182
  v51 := Tryz.zeroValue182
  t53 := Tryz.underlying62
  a53 := Tryz.isAgg62
  z53 := Tryz.sizeOf62
  v53 := Tryz.zeroValue62
  t70 := Tryz.underlying142
  a70 := Tryz.isAgg142
  z70 := Tryz.sizeOf142
  v70 := Tryz.zeroValue142
  t72 := Tryz.underlying145
  a72 := Tryz.isAgg145
  z72 := Tryz.sizeOf145
  v72 := Tryz.zeroValue145
  t75 := Tryz.underlying35
  a75 := Tryz.isAgg35
  z75 := Tryz.sizeOf35
  v75 := Tryz.zeroValue35
  t76 := Tryz.underlying148
  a76 := Tryz.isAgg148
  z76 := Tryz.sizeOf148
  v76 := Tryz.zeroValue148
  t109 := Tryz.underlying207
  a109 := Tryz.isAgg207
  z109 := Tryz.sizeOf207
  v109 := Tryz.zeroValue207
  t127 := Tryz.underlying198
  a127 := Tryz.isAgg198
  z127 := Tryz.sizeOf198
  v127 := Tryz.zeroValue198
  t146 := Tryz.underlying233
  a146 := Tryz.isAgg233
  z146 := Tryz.sizeOf233
  v146 := Tryz.zeroValue233
  t148 := Tryz.underlying235
  a148 := Tryz.isAgg235
  z148 := Tryz.sizeOf235
  v148 := Tryz.zeroValue235
  t164 := Tryz.underlying226
  a164 := Tryz.isAgg226
  z164 := Tryz.sizeOf226
  v164 := Tryz.zeroValue226 }
theorem extra105 : Builder.Extra Tryz.prog lays105_ren := {
  sizeBuilder := by kernel_rfl
  liesBuilder := by kernel_rfl
  t5 := Tryz.underlying5
  a5 := Tryz.isAgg5
  z5 := Tryz.sizeOf5
  v5 := Tryz.zeroValue5
  infoByte := by kernel_rfl
  cellsByte := by kernel_rfl
  sizeByte := by kernel_rfl
  neB5 := by decide }
theorem itoa_calls (i : Nat) (hi : i < 100) (w : World) : Calls Tryz.prog 110 #[.int .i64 i] w fun e w' => e = .returned (.string ⟨(Lib.decDigits i).toArray⟩) ∧ w' = w := Any.strconv_Itoa_small lays171 i hi w
theorem repeat_calls (c : Nat) (hc : c = 1 ∨ c = 2) (w : World) : Calls Tryz.prog 111 #[.string ⟨#[48]⟩, .int .i64 c] w fun e w' => e = .returned (.string ⟨(List.replicate c 48).toArray⟩) ∧ Below w.heap.size w w' := by
  rcases hc with rfl | rfl
  · exact (Any.strings_Repeat_one lays105 ⟨#[48]⟩ w).mono fun e w' ⟨h1, h2⟩ => ⟨h1, by rw [h2]; exact Below.refl _ _⟩
  · exact (Any.strings_Repeat_main lays105 extra105 ⟨#[48]⟩ 2 w (by decide) (by decide) (by decide) (by decide)).mono fun e w' ⟨h1, h2⟩ => ⟨h1, h2⟩
theorem digits_len : ∀ i : Fin 100, (Lib.decDigits i.val).length = if i.val < 10 then 1 else 2 := of_decide_eq_true (by kernel_rfl)
end Go.Proofs.YtjpmomklkkifjaaGreatDoor.T
namespace Go.Proofs.YtjpmomklkkifjaaGreatDoor.T
open Go.Shelf Go.RowKit
set_option maxRecDepth 100000
set_option linter.unusedVariables false
set_option linter.unusedSimpArgs false

def toldS (n : Nat) : ByteArray := ⟨(List.replicate (3 - (Lib.decDigits n).length) 48 ++ Lib.decDigits n).toArray⟩
theorem told_size {n : Nat} (hn : n < 100) : (toldS n).size = 3 := by
  have h := digits_len ⟨n, hn⟩
  show (List.replicate (3 - (Lib.decDigits n).length) 48 ++ Lib.decDigits n).toArray.size = 3
  simp only [List.size_toArray, List.length_append, List.length_replicate]
  simp only at h
  split at h <;> omega

set_option maxHeartbeats 2000000 in
theorem told_calls (n : Nat) (hn : n < 100) (w : World) : Calls Tryz.prog 68 #[.int .i64 n] w fun e w' => e = .returned (.string (toldS n)) ∧ Below w.heap.size w w' := by
  have hI := itoa_calls n hn w
  have hR1 := repeat_calls 1 (.inl rfl) w
  have hR2 := repeat_calls 2 (.inr rfl) w
  have hl := digits_len ⟨n, hn⟩
  simp only at hl
  have hT : ∀ c, (Lib.decDigits n).length = 3 - c → c ≤ 3 → (⟨(List.replicate c 48).toArray⟩ : ByteArray) ++ ⟨(Lib.decDigits n).toArray⟩ = toldS n := fun c h hc => by
    unfold toldS
    rw [h, show 3 - (3 - c) = c by omega]
    apply ByteArray.ext
    simp
  have hsz : (⟨(Lib.decDigits n).toArray⟩ : ByteArray).size = (Lib.decDigits n).length := by
    show (Lib.decDigits n).toArray.size = _
    simp
  obtain ⟨s, hs⟩ : ∃ s : ByteArray, (⟨(Lib.decDigits n).toArray⟩ : ByteArray) = s := ⟨_, rfl⟩
  rw [hs] at hI hsz hT
  have hd : s.size = 1 ∨ s.size = 2 := by
    rw [hsz, hl]
    split <;> simp
  rcases hd with hd | hd
  · have hTT := hT 2 (by omega) (by omega)
    have HT := hide hTT
    have hz : (s.size : Int) = 1 := by omega
    have HI := hide hI
    have HR := hide hR2
    clear hI hR1 hR2 hl hT hsz hs hTT hd
    go_enter Tryz.func68, Tryz.ntmps68
    go_wp2_with fail
    refine (unhide HI).mono ?_
    rintro e w2 ⟨rfl, rfl⟩
    clear HI
    go_wp2_with fail
    refine (unhide HR).mono ?_
    rintro e w3 ⟨rfl, hb⟩
    have Hb := hide hb
    clear hb HR
    go_wp2_with fail
    go_ret
    exact ⟨by rw [← unhide HT]; rfl, unhide Hb⟩
  · have hTT := hT 1 (by omega) (by omega)
    have HT := hide hTT
    have hz : (s.size : Int) = 2 := by omega
    have HI := hide hI
    have HR := hide hR1
    clear hI hR1 hR2 hl hT hsz hs hTT hd
    go_enter Tryz.func68, Tryz.ntmps68
    go_wp2_with fail
    refine (unhide HI).mono ?_
    rintro e w2 ⟨rfl, rfl⟩
    clear HI
    go_wp2_with fail
    refine (unhide HR).mono ?_
    rintro e w3 ⟨rfl, hb⟩
    have Hb := hide hb
    clear hb HR
    go_wp2_with fail
    go_ret
    exact ⟨by rw [← unhide HT]; rfl, unhide Hb⟩
end Go.Proofs.YtjpmomklkkifjaaGreatDoor.T
namespace Go.Proofs.YtjpmomklkkifjaaGreatDoor.T
open Go.Shelf Go.RowKit
set_option maxRecDepth 100000
set_option linter.unusedVariables false
set_option linter.unusedSimpArgs false

def lays172_ren : Go.Shelf.Ren := ⟨fun | 129 => 130 | 171 => 110 | 172 => 114 | 205 => 225 | 243 => 153 | 244 => 166 | 245 => 167 | 246 => 194 | 247 => 201 | 279 => 202 | 280 => 203 | 281 => 204 | 282 => 205 | 283 => 217 | 284 => 218 | 285 => 219 | 286 => 220 | 287 => 223 | 316 => 224 | 317 => 234 | 318 => 235 | 319 => 236 | 320 => 237 | 321 => 238 | 322 => 239 | 337 => 244 | 338 => 245 | n => n, fun | 37 => 143 | 46 => 126 | 51 => 182 | 53 => 62 | 171 => 255 | 173 => 257 | 212 => 271 | 213 => 272 | 232 => 280 | 233 => 281 | 75 => 35 | 76 => 148 | 85 => 240 | 127 => 198 | 143 => 274 | 145 => 276 | 167 => 239 | 168 => 242 | 175 => 261 | 210 => 264 | 80 => 150 | 0 => 0 | 2 => 2 | 3 => 3 | 4 => 4 | 5 => 5 | 9 => 9 | 20 => 20 | 21 => 21 | n => n, fun | 1 => 2 | 3 => 0 | 4 => 1 | 15 => 4 | 16 => 5 | 17 => 6 | 18 => 7 | 19 => 8 | n => n⟩
theorem lays172 : Lays.n172 Tryz.prog lays172_ren := {
  mixed := by kernel_rfl
  f129 := Tryz.func130.trans (congrArg some (by kernel_rfl))
  f171 := Tryz.func110.trans (congrArg some (by kernel_rfl))
  f172 := Tryz.func114.trans (congrArg some (by kernel_rfl))
  f205 := Tryz.func225.trans (congrArg some (by kernel_rfl))
  f243 := Tryz.func153.trans (congrArg some (by kernel_rfl))
  f244 := Tryz.func166.trans (congrArg some (by kernel_rfl))
  f245 := Tryz.func167.trans (congrArg some (by kernel_rfl))
  f246 := Tryz.func194.trans (congrArg some (by kernel_rfl))
  f247 := Tryz.func201.trans (congrArg some (by kernel_rfl))
  f279 := Tryz.func202.trans (congrArg some (by kernel_rfl))
  f280 := Tryz.func203.trans (congrArg some (by kernel_rfl))
  f281 := Tryz.func204.trans (congrArg some (by kernel_rfl))
  f282 := Tryz.func205.trans (congrArg some (by kernel_rfl))
  f283 := Tryz.func217.trans (congrArg some (by kernel_rfl))
  f284 := Tryz.func218.trans (congrArg some (by kernel_rfl))
  f285 := Tryz.func219.trans (congrArg some (by kernel_rfl))
  f286 := Tryz.func220.trans (congrArg some (by kernel_rfl))
  f287 := Tryz.func223.trans (congrArg some (by kernel_rfl))
  f316 := Tryz.func224.trans (congrArg some (by kernel_rfl))
  f317 := Tryz.func234.trans (congrArg some (by kernel_rfl))
  f318 := Tryz.func235.trans (congrArg some (by kernel_rfl))
  f319 := Tryz.func236.trans (congrArg some (by kernel_rfl))
  f320 := Tryz.func237.trans (congrArg some (by kernel_rfl))
  f321 := Tryz.func238.trans (congrArg some (by kernel_rfl))
  f322 := Tryz.func239.trans (congrArg some (by kernel_rfl))
  f337 := Tryz.func244.trans (congrArg some (by kernel_rfl))
  f338 := Tryz.func245.trans (congrArg some (by kernel_rfl))
  t0 := Tryz.underlying0
  a0 := Tryz.isAgg0
  z0 := Tryz.sizeOf0
  v0 := Tryz.zeroValue0
  t2 := Tryz.underlying2
  a2 := Tryz.isAgg2
  z2 := Tryz.sizeOf2
  v2 := Tryz.zeroValue2
  t3 := Tryz.underlying3
  a3 := Tryz.isAgg3
  z3 := Tryz.sizeOf3
  v3 := Tryz.zeroValue3
  t4 := Tryz.underlying4
  a4 := Tryz.isAgg4
  z4 := Tryz.sizeOf4
  v4 := Tryz.zeroValue4
  t5 := Tryz.underlying5
  a5 := Tryz.isAgg5
  z5 := Tryz.sizeOf5
  v5 := Tryz.zeroValue5
  t9 := Tryz.underlying9
  a9 := Tryz.isAgg9
  z9 := Tryz.sizeOf9
  v9 := Tryz.zeroValue9
  t20 := Tryz.underlying20
  a20 := Tryz.isAgg20
  z20 := Tryz.sizeOf20
  v20 := Tryz.zeroValue20
  t21 := Tryz.underlying21
  a21 := Tryz.isAgg21
  z21 := Tryz.sizeOf21
  v21 := Tryz.zeroValue21
  t37 := Tryz.underlying143
  a37 := Tryz.isAgg143
  z37 := Tryz.sizeOf143
  v37 := Tryz.zeroValue143
  t46 := Tryz.underlying126
  a46 := Tryz.isAgg126
  z46 := Tryz.sizeOf126
  v46 := Tryz.zeroValue126
  t51 := Tryz.underlying182
  a51 := Tryz.isAgg182
  z51 := Tryz.sizeOf182
  v51 := Tryz.zeroValue182
  t53 := Tryz.underlying62
  a53 := Tryz.isAgg62
  z53 := Tryz.sizeOf62
  v53 := Tryz.zeroValue62
  t75 := Tryz.underlying35
  a75 := Tryz.isAgg35
  z75 := Tryz.sizeOf35
  v75 := Tryz.zeroValue35
  t76 := Tryz.underlying148
  a76 := Tryz.isAgg148
  z76 := Tryz.sizeOf148
  v76 := Tryz.zeroValue148
  t85 := Tryz.underlying240
  a85 := Tryz.isAgg240
  z85 := Tryz.sizeOf240
  v85 := Tryz.zeroValue240
  t127 := Tryz.underlying198
  a127 := Tryz.isAgg198
  z127 := Tryz.sizeOf198
  v127 := Tryz.zeroValue198
  t143 := Tryz.underlying274
  a143 := Tryz.isAgg274
  z143 := Tryz.sizeOf274
  v143 := Tryz.zeroValue274
  t145 := Tryz.underlying276
  a145 := Tryz.isAgg276
  z145 := Tryz.sizeOf276
  v145 := Tryz.zeroValue276
  t167 := Tryz.underlying239
  a167 := Tryz.isAgg239
  z167 := Tryz.sizeOf239
  v167 := Tryz.zeroValue239
  t168 := Tryz.underlying242
  a168 := Tryz.isAgg242
  z168 := Tryz.sizeOf242
  v168 := Tryz.zeroValue242
  t171 := Tryz.underlying255
  a171 := Tryz.isAgg255
  z171 := Tryz.sizeOf255
  v171 := Tryz.zeroValue255
  t173 := Tryz.underlying257
  a173 := Tryz.isAgg257
  z173 := Tryz.sizeOf257
  v173 := Tryz.zeroValue257
  t175 := Tryz.underlying261
  a175 := Tryz.isAgg261
  z175 := Tryz.sizeOf261
  v175 := Tryz.zeroValue261
  t210 := Tryz.underlying264
  a210 := Tryz.isAgg264
  z210 := Tryz.sizeOf264
  v210 := Tryz.zeroValue264
  t212 := Tryz.underlying271
  a212 := Tryz.isAgg271
  z212 := Tryz.sizeOf271
  v212 := Tryz.zeroValue271
  t213 := Tryz.underlying272
  a213 := Tryz.isAgg272
  z213 := Tryz.sizeOf272
  t232 := Tryz.underlying280
  a232 := Tryz.isAgg280
  z232 := Tryz.sizeOf280
  v232 := Tryz.zeroValue280
  t233 := Tryz.underlying281
  a233 := Tryz.isAgg281
  z233 := Tryz.sizeOf281
  v233 := Tryz.zeroValue281
  g15 := by kernel_rfl
  g16 := by kernel_rfl
  g17 := by kernel_rfl
  g18 := by kernel_rfl
  g19 := by kernel_rfl }
theorem atoi_list : ∀ i : Fin 100, Lib.atoi (toldS i.val).data.toList = some (i.val : Int) := of_decide_eq_true (by kernel_rfl)
theorem atoi_calls (n : Nat) (hn : n < 100) (w : World) : Calls Tryz.prog 114 #[.string (toldS n)] w fun e w' => e = .returned (.tuple #[.int .i64 n, .nilIface]) ∧ Below w.heap.size w w' := by
  refine (Any.strconv_Atoi lays172 (toldS n) n (by rw [told_size hn]; decide) (atoi_list ⟨n, hn⟩) w).mono ?_
  rintro e w' ⟨he, h⟩
  obtain ⟨t, rfl⟩ := h
  exact ⟨he, ⟨rfl, rfl, rfl, by rw [Lib.bytesWorld_size]; omega, fun j hj => Lib.bytesWorld_at_old w (lays172_ren.t 5) t j hj⟩⟩
end Go.Proofs.YtjpmomklkkifjaaGreatDoor.T
namespace Go.Proofs.YtjpmomklkkifjaaGreatDoor.T
open Go.RowKit Go.Lib
set_option maxRecDepth 100000
set_option linter.unusedVariables false
set_option linter.unusedSimpArgs false

structure CH where
  key : ByteArray
  val : ByteArray
  gone : Bool
def encC (c : CH) : List Value := [.string c.key, .string c.val, .bool c.gone]
def flatC (L : List CH) : List Value := L.flatMap encC
theorem flatC_length (L : List CH) : (flatC L).length = L.length * 3 := by
  induction L with
  | nil => rfl
  | cons x L ih => simp [flatC, encC] at ih ⊢; omega
theorem flatC_snoc (L : List CH) (x : CH) : flatC (L ++ [x]) = flatC L ++ encC x := by simp [flatC]
theorem flatC_get : ∀ (L : List CH) (j : Nat) (u : CH), L[j]? = some u → ∀ i x, (encC u)[i]? = some x → (flatC L)[j * 3 + i]? = some x
  | y :: L, 0, u, h, i, x, hx => by
    have e : y = u := by simpa using h
    subst e
    have hi : i < (encC y).length := (List.getElem?_eq_some_iff.1 hx).1
    show (encC y ++ flatC L)[0 * 3 + i]? = some x
    rw [Nat.zero_mul, Nat.zero_add, List.getElem?_append_left hi]
    exact hx
  | y :: L, j + 1, u, h, i, x, hx => by
    have := flatC_get L j u (by simpa using h) i x hx
    show (encC y ++ flatC L)[(j + 1) * 3 + i]? = some x
    rw [List.getElem?_append_right (by simp [encC]; omega)]
    simp only [encC, List.length_cons, List.length_nil]
    rw [show (j + 1) * 3 + i - (0 + 1 + 1 + 1) = j * 3 + i by omega]
    exact this
def rowCh (v : Value) (L : List CH) : Res := .row v 69 3 L.length (flatC L)
theorem infoChange : (Tryz.prog.info? 69).map (fun i => (i.zero, i.size, i.bytes)) = some (some (.agg #[.string ⟨#[]⟩, .string ⟨#[]⟩, .bool false]), 3, 40) := by kernel_rfl
theorem ch_cell {w : World} {base g n cap : Nat} {L : List CH} (h : w.ownsRow base 69 3 (.slice (some ⟨g, 0, none⟩) n cap) n (flatC L)) {j : Nat} {u : CH} (hk : L[j]? = some u) :
    w.cell? ⟨g, j * 3, none⟩ = some (.string u.key) ∧ w.cell? ⟨g, j * 3 + 1, none⟩ = some (.string u.val) ∧ w.cell? ⟨g, j * 3 + 2, none⟩ = some (.bool u.gone) := by
  have hl : L.length * 3 = n * 3 := by rw [← h.1, flatC_length]
  obtain ⟨hj, _⟩ := List.getElem?_eq_some_iff.1 hk
  have h1 := flatC_get L j u hk
  exact ⟨by rw [h.cellAt _ (by omega)]; exact h1 0 _ rfl, by rw [h.cellAt _ (by omega)]; exact h1 1 _ rfl, by rw [h.cellAt _ (by omega)]; exact h1 2 _ rfl⟩
theorem row_cut {w : World} {base : Nat} {v : Value} {e : TypeId} {k n : Nat} {xs : List Value} (h : w.ownsRow base e k v n xs) : ∃ p c, v = .slice p n c := by
  rcases h.2 with ⟨h1, h2⟩ | ⟨g, cap, cur, h1, _⟩
  · exact ⟨none, 0, by rw [h1, h2]⟩
  · exact ⟨_, cap, h1⟩

set_option maxHeartbeats 4000000 in
theorem sameCh_calls {w : World} {b1 b2 n : Nat} {va vb : Value} {L : List CH} (ha : w.ownsRow b1 69 3 va n (flatC L)) (hb : w.ownsRow b2 69 3 vb n (flatC L)) (hn : L.length = n) (hm : n ≤ 200000) :
    Calls Tryz.prog 39 #[va, vb] w fun e w' => e = .returned (.bool true) ∧ Below w.heap.size w w' := by
  obtain ⟨pa, ca, rfl⟩ := row_cut ha
  obtain ⟨pb, cb, rfl⟩ := row_cut hb
  have HN := hide hn
  have HR : Hid (w.ownsRow b1 69 3 (.slice pa n ca) n (flatC L) ∧ w.ownsRow b2 69 3 (.slice pb n cb) n (flatC L) ∧ Below w.heap.size w w) := ⟨ha, hb, Below.refl _ _⟩
  clear ha hb hn
  go_enter Tryz.func39, Tryz.ntmps39
  go_wp2_with fail
  go_loopg [5] (n + 1) (fun k vi wr => ∃ j : Nat, n - j < k ∧ j ≤ n ∧ vi = .int .i64 j ∧ Hid (wr.ownsRow b1 69 3 (.slice pa n ca) n (flatC L) ∧ wr.ownsRow b2 69 3 (.slice pb n cb) n (flatC L) ∧ Below w.heap.size w wr))
  case atStart => exact ⟨0, by omega, by omega, rfl, HR⟩
  case round =>
    obtain ⟨j, hk, hj, rfl, HI⟩ := hrel
    clear HR
    by_cases hjn : j < n
    · have hjz : (j : Int) < (n : Int) := by omega
      have hjl : j < L.length := by rw [unhide HN]; exact hjn
      obtain ⟨x, hx⟩ : ∃ x, L[j]? = some x := ⟨L[j]'hjl, by simp [hjl]⟩
      obtain ⟨g1, cap1, e1, _⟩ := row_shape (unhide HI).1 (by omega)
      injection e1 with e1 _ e2
      subst e1 e2
      obtain ⟨g2, cap2, e3, _⟩ := row_shape (unhide HI).2.1 (by omega)
      injection e3 with e3 _ e4
      subst e3 e4
      obtain ⟨x0, x1, x2⟩ := ch_cell (unhide HI).1 hx
      obtain ⟨y0, y1, y2⟩ := ch_cell (unhide HI).2.1 hx
      clear hx hjl
      go_wp2_with fail
      go_region
      all_goals
        go_wp2_with fail
        go_roundg (n - j)
        case measure => omega
        case rel => exact ⟨j + 1, by omega, by omega, by simp, (unhide HI).1, (unhide HI).2.1, (unhide HI).2.2.drew⟩
    · have hjz : ¬ (j : Int) < (n : Int) := by omega
      go_wp2_with fail
      go_ret
      exact ⟨rfl, (unhide HI).2.2⟩
end Go.Proofs.YtjpmomklkkifjaaGreatDoor.T
namespace Go.Proofs.YtjpmomklkkifjaaGreatDoor.T
open Go.RowKit Go.Shelf Go.Sort
open Go.Maps (Keyed)
set_option maxRecDepth 100000
set_option linter.unusedVariables false
set_option linter.unusedSimpArgs false

instance : Inhabited CH := ⟨⟨⟨#[]⟩, ⟨#[]⟩, false⟩⟩
theorem byKey_calls (x y : CH) (W : World) : Calls Tryz.prog 72 #[.agg (encC x).toArray, .agg (encC y).toArray] W fun e w' => e = .returned (.int .i64 (cmpB x.key y.key)) ∧ ∃ q os', w' = grow (W.drewN q) os' := by
  have hc := fun wx => compare_calls x.key y.key wx
  generalize cmpB x.key y.key = r at hc ⊢
  have HC := hide hc
  clear hc
  simp only [encC]
  go_enter Tryz.func72, Tryz.ntmps72
  go_wp2_with fail
  refine (unhide HC _).mono ?_
  rintro e wx ⟨rfl, hwx⟩
  have hwx := hwx.symm
  subst hwx
  go_wp2_with fail
  go_ret
  exact ⟨rfl, 0, _, by rw [alloc_eq_grow, alloc_eq_grow, grow_grow]; rfl⟩
theorem cmpK_lt (x y : CH) : ltOf (fun a b : CH => cmpB a.key b.key) x y = decide (kLt x.key y.key) := rfl
theorem swoC : SWO (ltOf fun a b : CH => cmpB a.key b.key) where
  irrefl x := by rw [cmpK_lt]; simpa using kLt_irrefl x.key
  trans x y z h1 h2 := by rw [cmpK_lt] at *; simp at *; exact kLt_trans h1 h2
  ntrans x y z h1 h2 := by
    rw [cmpK_lt] at *
    simp at *
    intro h
    by_cases he : y.key = z.key
    · rw [he] at h1; exact h1 h
    · by_cases hx : x.key = y.key
      · rw [hx] at h; exact h2 h
      · have n1 : cmpB x.key y.key ≠ 0 := fun e => hx ((cmpB_zero _ _).1 e)
        have n2 : cmpB y.key z.key ≠ 0 := fun e => he ((cmpB_zero _ _).1 e)
        have p1 : kLt y.key x.key := by
          have := cmpB_neg x.key y.key
          unfold kLt at h1 ⊢
          omega
        have p2 : kLt z.key y.key := by
          have := cmpB_neg y.key z.key
          unfold kLt at h2 ⊢
          omega
        exact kLt_asymm h (kLt_trans p2 p1)

theorem flatK_flatC (L : List CH) : flatK encC 3 L.toArray = (flatC L).toArray := by
  apply Array.ext_getElem?
  intro t
  by_cases ht : t < L.length * 3
  · have hk : t / 3 < L.length := by omega
    have hr : t % 3 < 3 := Nat.mod_lt _ (by omega)
    have h0 : t < (flatK encC 3 L.toArray).size := by simpa using ht
    have h1 := get_flatK encC 3 L.toArray t (by simpa using ht)
    rw [getElem!_pos (flatK encC 3 L.toArray) t h0] at h1
    rw [Array.getElem?_eq_getElem h0, h1]
    have h2 : L.toArray[t / 3]! = L[t / 3] := by
      simp only [List.getElem!_toArray]
      rw [getElem!_pos L _ hk]
    rw [h2]
    have h3 : (encC L[t / 3]).length = 3 := rfl
    have h5 : t % 3 < (encC L[t / 3]).length := by rw [h3]; exact hr
    have h4 := flatC_get L (t / 3) L[t / 3] (List.getElem?_eq_getElem hk) (t % 3) ((encC L[t / 3])[t % 3]!) (by rw [getElem!_pos (encC L[t / 3]) (t % 3) h5]; exact List.getElem?_eq_getElem h5)
    rw [show t / 3 * 3 + t % 3 = t by omega] at h4
    rw [List.getElem?_toArray]
    exact h4.symm
  · rw [Array.getElem?_eq_none (by simp; omega), Array.getElem?_eq_none (by simp [flatC_length]; omega)]

set_option maxHeartbeats 1000000 in
theorem sortRows_calls {w : World} {base g n cap : Nat} {L : List CH} (h : w.ownsRow base 69 3 (.slice (some ⟨g, 0, none⟩) n cap) n (flatC L)) (hl : L.length = n) (hn : n ≤ 1000) :
    Calls Tryz.prog 71 #[.slice (some ⟨g, 0, none⟩) n cap, .func (.func 72) #[] #[]] w fun e w' => e = .returned (.tuple #[]) ∧ ∃ L', L'.Perm L ∧ L'.Pairwise (fun a b => ¬ kLt b.key a.key) ∧ w'.ownsRow base 69 3 (.slice (some ⟨g, 0, none⟩) n cap) n (flatC L') ∧ w.grownBy w' (some g) := by
  have eg : ∀ args w, (callFunc 72 args).run Tryz.prog w = .ok (.enter 72 args) w := enters_of Tryz.func72 (by kernel_rfl) rfl
  have hH : HoldsK encC 3 w g 0 L.toArray := by
    unfold HoldsK
    rw [flatK_flatC]
    exact holds_row h
  have hlt : g < w.heap.size := by
    rcases h.2 with ⟨hh, _⟩ | ⟨g', cap', cur, hv, hb, hg, _⟩
    · cases hh
    · injection hv with hv1 _ _
      injection hv1 with hv1
      injection hv1 with hv1
      subst hv1
      exact (Array.getElem?_eq_some_iff.1 hg).1
  have hc := AnyQ.slices_SortFunc sortLaysC 3 Tryz.isAgg69 Tryz.sizeOf69 encC (fun _ => rfl) (fun x v hv => by simp [encC] at hv; rcases hv with rfl | rfl | rfl <;> rfl) (fun a b : CH => cmpB a.key b.key) swoC 72 #[] g 0 cap L.toArray w eg (fun _ _ _ _ x y => byKey_calls x y _) hH hlt (by simp; omega)
  have e1 : L.toArray.size = n := by simp [hl]
  rw [e1] at hc
  refine Calls.mono (show Calls Tryz.prog 71 _ _ _ from hc) ?_
  rintro e w' ⟨he, d', m, os, ⟨hs, _, hp⟩, hsort, rfl⟩
  have hs' : d'.size = n := by rw [hs, e1]
  have hd : d'.toList.length = n := by simpa using hs'
  have hex : (d'.extract 0 n).toList = d'.toList := by rw [← hs']; simp
  have hex2 : (L.toArray.extract 0 n).toList = L := by rw [← hl]; simp
  rw [hex, hex2] at hp
  have hk : flatK encC 3 d' = (flatC d'.toList).toArray := by
    have := flatK_flatC d'.toList
    simpa using this
  have hr := row_put h (ys := flatC d'.toList) (by rw [flatC_length, flatC_length, hd, hl]) m os
  have hw : sortWorldK encC 3 w g 0 m d' os = grow (putRow id (Go.Sort.ahead w m) g 0 (flatC d'.toList).toArray) os := by
    unfold sortWorldK putRowK
    rw [hk]
  rw [hw]
  refine ⟨he, d'.toList, hp, ?_, hr⟩
  rw [List.pairwise_iff_getElem]
  intro i j hi hj hij
  have h1 := hsort i j (by omega) hij (by omega)
  rw [cmpK_lt] at h1
  have hi' : i < d'.size := by simpa using hi
  have hj' : j < d'.size := by simpa using hj
  rw [getElem!_pos d' i hi', getElem!_pos d' j hj'] at h1
  have h2 : ¬ kLt d'[j].key d'[i].key := of_decide_eq_false h1
  rw [Array.getElem_toList, Array.getElem_toList]
  exact h2
theorem sorted_once : ∀ {A B : List CH}, A.Perm B → A.Pairwise (fun a b => ¬ kLt b.key a.key) → B.Pairwise (fun a b => ¬ kLt b.key a.key) → (A.map CH.key).Nodup → A = B := by
  intro A B hp hA hB hn
  have hkk : ∀ x y : CH, x.key ≠ y.key → ¬ kLt y.key x.key → kLt x.key y.key := fun x y hne h => by
    have n1 : cmpB x.key y.key ≠ 0 := fun e => hne ((cmpB_zero _ _).1 e)
    have := cmpB_neg x.key y.key
    unfold kLt at h ⊢
    omega
  have strict : ∀ {L : List CH}, L.Pairwise (fun a b => ¬ kLt b.key a.key) → (L.map CH.key).Nodup → L.Pairwise (fun a b => kLt a.key b.key) := fun h1 h2 => by
    have h3 := List.pairwise_map.1 h2
    exact (h1.and h3).imp fun ⟨a, b⟩ => hkk _ _ b a
  exact hp.eq_of_pairwise (fun a b _ _ h1 h2 => absurd h2 (kLt_asymm h1)) (strict hA hn) (strict hB ((hp.map CH.key).nodup_iff.1 hn))
end Go.Proofs.YtjpmomklkkifjaaGreatDoor.T
namespace Go.Proofs.YtjpmomklkkifjaaGreatDoor.T
open Go.RowKit Go.Lib
set_option maxRecDepth 100000
set_option linter.unusedVariables false
set_option linter.unusedSimpArgs false

section
variable {base : Nat} {w0 w : World} {K0 : Nat → Nat}
def ItemsEnd (base : Nat) (w0 : World) (K0 : Nat → Nat) (its : List Item) (rs : List Res) (e : Ending) (w' : World) : Prop :=
  ∃ v, e = .returned v ∧ Hold base w0 K0 w' (rowI v its :: rs)
end

def CopyEnd (base : Nat) (w0 : World) (K0 : Nat → Nat) (h : Nat) (k : Kid) (l2 : List Res) (e : Ending) (w' : World) : Prop :=
  ∃ k' : Kid, e = .returned (.pointer (some ⟨k'.b, 0, none⟩)) ∧ k'.c = k.c ∧ k'.L = k.L ∧ Hold base w0 K0 w' (.sub h k' :: .sub h k :: l2)
def CopySpec (h : Nat) : Prop := ∀ (base : Nat) (w0 : World) (K0 : Nat → Nat) (w : World) (k : Kid) (l2 : List Res), Hold base w0 K0 w (.sub h k :: l2) → k.c ≤ 3 →
  Calls Tryz.prog 109 #[.pointer (some ⟨k.b, 0, none⟩)] w fun e w' => CopyEnd base w0 K0 h k l2 e w'

def TreeCopyEnd (base : Nat) (w0 : World) (K0 : Nat → Nat) (tb : Nat) (L : List Item) (l2 : List Res) (e : Ending) (w' : World) : Prop :=
  ∃ tb' h' k', e = .returned (.pointer (some ⟨tb', 0, none⟩)) ∧ k'.L = L ∧ k'.c ≤ 3 ∧ (h' = 0 ∨ 1 ≤ k'.c) ∧ TreeIn base w0 K0 w' tb L (.cell tb' 130 [ptrV k'.b] :: .sub h' k' :: l2)

end Go.Proofs.YtjpmomklkkifjaaGreatDoor.T
