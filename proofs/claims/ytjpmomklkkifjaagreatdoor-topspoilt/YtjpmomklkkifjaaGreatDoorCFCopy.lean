import Derived.Test.YtjpmomklkkifjaaGreatDoorProg
import Derived.Shelf.Strconv.Itoa3
import Derived.Shelf.Strings.Repeat
import Derived.WalkKit
import Derived.Test.YtjpmomklkkifjaaGreatDoorCFLater
import Derived.Shelf.Strconv.Atoi
import Derived.Test.YtjpmomklkkifjaaGreatDoorCFNodes
import Derived.Test.YtjpmomklkkifjaaGreatDoorCBSearch
import Derived.Test.YtjpmomklkkifjaaGreatDoorCBTreeDrop
import Derived.Deep.RegionLaw
set_option maxRecDepth 100000
set_option linter.unusedVariables false
set_option linter.unusedSimpArgs false
namespace Go.Proofs.YtjpmomklkkifjaaGreatDoor.T
open Go.Shelf Go.RowKit
def lays171_ren : Go.Shelf.Ren := ⟨fun | 129 => 130 | 171 => 110 | 243 => 153 | 246 => 194 | 283 => 217 | 284 => 218 | 285 => 219 | 286 => 220 | 317 => 234 | 318 => 235 | 319 => 236 | 320 => 237 | 337 => 244 | 338 => 245 | n => n, fun | 37 => 143 | 46 => 126 | 51 => 182 | 53 => 62 | 171 => 255 | 173 => 257 | 212 => 271 | 213 => 272 | 232 => 280 | 233 => 281 | 0 => 0 | 2 => 2 | 3 => 3 | 4 => 4 | 5 => 5 | 9 => 9 | 20 => 20 | n => n, fun | 17 => 6 | 18 => 7 | 19 => 8 | n => n⟩
theorem lays171 : Lays.n171 Tryz.prog lays171_ren := {
  mixed := by kernel_rfl
  f129 := Tryz.func130.trans (congrArg some (by kernel_rfl))
  f171 := Tryz.func110.trans (congrArg some (by kernel_rfl))
  f243 := Tryz.func153.trans (congrArg some (by kernel_rfl))
  f246 := Tryz.func194.trans (congrArg some (by kernel_rfl))
  f283 := Tryz.func217.trans (congrArg some (by kernel_rfl))
  f284 := Tryz.func218.trans (congrArg some (by kernel_rfl))
  f285 := Tryz.func219.trans (congrArg some (by kernel_rfl))
  f286 := Tryz.func220.trans (congrArg some (by kernel_rfl))
  f317 := Tryz.func234.trans (congrArg some (by kernel_rfl))
  f318 := Tryz.func235.trans (congrArg some (by kernel_rfl))
  f319 := Tryz.func236.trans (congrArg some (by kernel_rfl))
  f320 := Tryz.func237.trans (congrArg some (by kernel_rfl))
  f337 := Tryz.func244.trans (congrArg some (by kernel_rfl))
  f338 := Tryz.func245.trans (congrArg some (by kernel_rfl))
  t0 := Tryz.underlying0
  a0 := Tryz.isAgg0
  z0 := Tryz.sizeOf0
  v0 := Tryz.zeroValue0
  t2 := Tryz.underlying2
  a2 := Tryz.isAgg2
  z2 := Tryz.sizeOf2
  v2 := Tryz.zeroValue2
  t3 := Tryz.underlying3
  a3 := Tryz.isAgg3
  z3 := Tryz.sizeOf3
  v3 := Tryz.zeroValue3
  t4 := Tryz.underlying4
  a4 := Tryz.isAgg4
  z4 := Tryz.sizeOf4
  v4 := Tryz.zeroValue4
  t5 := Tryz.underlying5
  a5 := Tryz.isAgg5
  z5 := Tryz.sizeOf5
  v5 := Tryz.zeroValue5
  t9 := Tryz.underlying9
  a9 := Tryz.isAgg9
  z9 := Tryz.sizeOf9
  v9 := Tryz.zeroValue9
  t20 := Tryz.underlying20
  a20 := Tryz.isAgg20
  z20 := Tryz.sizeOf20
  v20 := Tryz.zeroValue20
  t37 := Tryz.underlying143
  a37 := Tryz.isAgg143
  z37 := Tryz.sizeOf143
  v37 := Tryz.zeroValue143
  t46 := Tryz.underlying126
  a46 := Tryz.isAgg126
  z46 := Tryz.sizeOf126
  v46 := Tryz.zeroValue126
  t51 := Tryz.underlying182
  a51 := Tryz.isAgg182
  z51 := Tryz.sizeOf182
  v51 := Tryz.zeroValue182
  t53 := Tryz.underlying62
  a53 := Tryz.isAgg62
  z53 := Tryz.sizeOf62
  v53 := Tryz.zeroValue62
  t171 := Tryz.underlying255
  a171 := Tryz.isAgg255
  z171 := Tryz.sizeOf255
  v171 := Tryz.zeroValue255
  t173 := Tryz.underlying257
  a173 := Tryz.isAgg257
  z173 := Tryz.sizeOf257
  v173 := Tryz.zeroValue257
  t212 := Tryz.underlying271
  a212 := Tryz.isAgg271
  z212 := Tryz.sizeOf271
  v212 := Tryz.zeroValue271
  t213 := Tryz.underlying272
  a213 := Tryz.isAgg272
  z213 := Tryz.sizeOf272
  t232 := Tryz.underlying280
  a232 := Tryz.isAgg280
  z232 := Tryz.sizeOf280
  v232 := Tryz.zeroValue280
  t233 := Tryz.underlying281
  a233 := Tryz.isAgg281
  z233 := Tryz.sizeOf281
  v233 := Tryz.zeroValue281
  g17 := by kernel_rfl
  g18 := by kernel_rfl
  g19 := by kernel_rfl }
def lays105_ren : Go.Shelf.Ren := ⟨fun | 99 => 55 | 105 => 111 | 165 => 155 | 166 => 156 | 169 => 95 | 170 => 157 | 206 => 101 | 212 => 154 | 240 => 138 | 241 => 197 | 263 => 195 | 264 => 196 | 276 => 179 | 277 => 221 | n => n, fun | 37 => 143 | 46 => 126 | 51 => 182 | 53 => 62 | 70 => 142 | 72 => 145 | 80 => 150 | 75 => 35 | 76 => 148 | 109 => 207 | 127 => 198 | 146 => 233 | 148 => 235 | 164 => 226 | 0 => 0 | 3 => 3 | 4 => 4 | 5 => 5 | 9 => 9 | 20 => 20 | n => n, fun | n => n⟩
theorem lays105 : Lays.n105 Tryz.prog lays105_ren := {
  mixed := by kernel_rfl
  f99 := Tryz.func55.trans (congrArg some (by kernel_rfl))
  f105 := Tryz.func111.trans (congrArg some (by kernel_rfl))
  f165 := Tryz.func155.trans (congrArg some (by kernel_rfl))
  f166 := Tryz.func156.trans (congrArg some (by kernel_rfl))
  f169 := Tryz.func95.trans (congrArg some (by kernel_rfl))
  f170 := Tryz.func157.trans (congrArg some (by kernel_rfl))
  f206 := Tryz.func101.trans (congrArg some (by kernel_rfl))
  f212 := Tryz.func154.trans (congrArg some (by kernel_rfl))
  f240 := Tryz.func138.trans (congrArg some (by kernel_rfl))
  f241 := Tryz.func197.trans (congrArg some (by kernel_rfl))
  f263 := Tryz.func195.trans (congrArg some (by kernel_rfl))
  f264 := Tryz.func196.trans (congrArg some (by kernel_rfl))
  f276 := Tryz.func179.trans (congrArg some (by kernel_rfl))
  f277 := Tryz.func221.trans (congrArg some (by kernel_rfl))
  t0 := Tryz.underlying0
  a0 := Tryz.isAgg0
  z0 := Tryz.sizeOf0
  v0 := Tryz.zeroValue0
  t3 := Tryz.underlying3
  a3 := Tryz.isAgg3
  z3 := Tryz.sizeOf3
  v3 := Tryz.zeroValue3
  t4 := Tryz.underlying4
  a4 := Tryz.isAgg4
  z4 := Tryz.sizeOf4
  v4 := Tryz.zeroValue4
  t5 := Tryz.underlying5
  a5 := Tryz.isAgg5
  z5 := Tryz.sizeOf5
  v5 := Tryz.zeroValue5
  t9 := Tryz.underlying9
  a9 := Tryz.isAgg9
  z9 := Tryz.sizeOf9
  v9 := Tryz.zeroValue9
  t20 := Tryz.underlying20
  a20 := Tryz.isAgg20
  z20 := Tryz.sizeOf20
  v20 := Tryz.zeroValue20
  t37 := Tryz.underlying143
  a37 := Tryz.isAgg143
  z37 := Tryz.sizeOf143
  v37 := Tryz.zeroValue143
  t46 := Tryz.underlying126
  a46 := Tryz.isAgg126
  z46 := Tryz.sizeOf126
  v46 := Tryz.zeroValue126
  t51 := Tryz.underlying182
  a51 := Tryz.isAgg182
  z51 := Tryz.sizeOf182
  v51 := Tryz.zeroValue182
  t53 := Tryz.underlying62
  a53 := Tryz.isAgg62
  z53 := Tryz.sizeOf62
  v53 := Tryz.zeroValue62
  t70 := Tryz.underlying142
  a70 := Tryz.isAgg142
  z70 := Tryz.sizeOf142
  v70 := Tryz.zeroValue142
  t72 := Tryz.underlying145
  a72 := Tryz.isAgg145
  z72 := Tryz.sizeOf145
  v72 := Tryz.zeroValue145
  t75 := Tryz.underlying35
  a75 := Tryz.isAgg35
  z75 := Tryz.sizeOf35
  v75 := Tryz.zeroValue35
  t76 := Tryz.underlying148
  a76 := Tryz.isAgg148
  z76 := Tryz.sizeOf148
  v76 := Tryz.zeroValue148
  t109 := Tryz.underlying207
  a109 := Tryz.isAgg207
  z109 := Tryz.sizeOf207
  v109 := Tryz.zeroValue207
  t127 := Tryz.underlying198
  a127 := Tryz.isAgg198
  z127 := Tryz.sizeOf198
  v127 := Tryz.zeroValue198
  t146 := Tryz.underlying233
  a146 := Tryz.isAgg233
  z146 := Tryz.sizeOf233
  v146 := Tryz.zeroValue233
  t148 := Tryz.underlying235
  a148 := Tryz.isAgg235
  z148 := Tryz.sizeOf235
  v148 := Tryz.zeroValue235
  t164 := Tryz.underlying226
  a164 := Tryz.isAgg226
  z164 := Tryz.sizeOf226
  v164 := Tryz.zeroValue226 }
theorem extra105 : Builder.Extra Tryz.prog lays105_ren := {
  sizeBuilder := by kernel_rfl
  liesBuilder := by kernel_rfl
  t5 := Tryz.underlying5
  a5 := Tryz.isAgg5
  z5 := Tryz.sizeOf5
  v5 := Tryz.zeroValue5
  infoByte := by kernel_rfl
  cellsByte := by kernel_rfl
  sizeByte := by kernel_rfl
  neB5 := by decide }
theorem repeat_calls (c : Nat) (hc : c = 1 ∨ c = 2) (w : World) : Calls Tryz.prog 111 #[.string ⟨#[48]⟩, .int .i64 c] w fun e w' => e = .returned (.string ⟨(List.replicate c 48).toArray⟩) ∧ Below w.heap.size w w' := by
  rcases hc with rfl | rfl
  · exact (Any.strings_Repeat_one lays105 ⟨#[48]⟩ w).mono fun e w' ⟨h1, h2⟩ => ⟨h1, by rw [h2]; exact Below.refl _ _⟩
  · exact (Any.strings_Repeat_main lays105 extra105 ⟨#[48]⟩ 2 w (by decide) (by decide) (by decide) (by decide)).mono fun e w' ⟨h1, h2⟩ => ⟨h1, h2⟩
theorem digits_len : ∀ i : Fin 100, (Lib.decDigits i.val).length = if i.val < 10 then 1 else 2 := of_decide_eq_true (by kernel_rfl)
end Go.Proofs.YtjpmomklkkifjaaGreatDoor.T
namespace Go.Proofs.YtjpmomklkkifjaaGreatDoor.T
open Go.Shelf Go.RowKit
def toldS (n : Nat) : ByteArray := ⟨(List.replicate (3 - (Lib.decDigits n).length) 48 ++ Lib.decDigits n).toArray⟩
theorem told_size {n : Nat} (hn : n < 100) : (toldS n).size = 3 := by
  have h := digits_len ⟨n, hn⟩
  show (List.replicate (3 - (Lib.decDigits n).length) 48 ++ Lib.decDigits n).toArray.size = 3
  simp only [List.size_toArray, List.length_append, List.length_replicate]
  simp only at h
  split at h <;> omega
end Go.Proofs.YtjpmomklkkifjaaGreatDoor.T
namespace Go.Proofs.YtjpmomklkkifjaaGreatDoor.T
open Go.Shelf Go.RowKit
def lays172_ren : Go.Shelf.Ren := ⟨fun | 129 => 130 | 171 => 110 | 172 => 114 | 205 => 225 | 243 => 153 | 244 => 166 | 245 => 167 | 246 => 194 | 247 => 201 | 279 => 202 | 280 => 203 | 281 => 204 | 282 => 205 | 283 => 217 | 284 => 218 | 285 => 219 | 286 => 220 | 287 => 223 | 316 => 224 | 317 => 234 | 318 => 235 | 319 => 236 | 320 => 237 | 321 => 238 | 322 => 239 | 337 => 244 | 338 => 245 | n => n, fun | 37 => 143 | 46 => 126 | 51 => 182 | 53 => 62 | 171 => 255 | 173 => 257 | 212 => 271 | 213 => 272 | 232 => 280 | 233 => 281 | 75 => 35 | 76 => 148 | 85 => 240 | 127 => 198 | 143 => 274 | 145 => 276 | 167 => 239 | 168 => 242 | 175 => 261 | 210 => 264 | 80 => 150 | 0 => 0 | 2 => 2 | 3 => 3 | 4 => 4 | 5 => 5 | 9 => 9 | 20 => 20 | 21 => 21 | n => n, fun | 1 => 2 | 3 => 0 | 4 => 1 | 15 => 4 | 16 => 5 | 17 => 6 | 18 => 7 | 19 => 8 | n => n⟩
theorem lays172 : Lays.n172 Tryz.prog lays172_ren := {
  mixed := by kernel_rfl
  f129 := Tryz.func130.trans (congrArg some (by kernel_rfl))
  f171 := Tryz.func110.trans (congrArg some (by kernel_rfl))
  f172 := Tryz.func114.trans (congrArg some (by kernel_rfl))
  f205 := Tryz.func225.trans (congrArg some (by kernel_rfl))
  f243 := Tryz.func153.trans (congrArg some (by kernel_rfl))
  f244 := Tryz.func166.trans (congrArg some (by kernel_rfl))
  f245 := Tryz.func167.trans (congrArg some (by kernel_rfl))
  f246 := Tryz.func194.trans (congrArg some (by kernel_rfl))
  f247 := Tryz.func201.trans (congrArg some (by kernel_rfl))
  f279 := Tryz.func202.trans (congrArg some (by kernel_rfl))
  f280 := Tryz.func203.trans (congrArg some (by kernel_rfl))
  f281 := Tryz.func204.trans (congrArg some (by kernel_rfl))
  f282 := Tryz.func205.trans (congrArg some (by kernel_rfl))
  f283 := Tryz.func217.trans (congrArg some (by kernel_rfl))
  f284 := Tryz.func218.trans (congrArg some (by kernel_rfl))
  f285 := Tryz.func219.trans (congrArg some (by kernel_rfl))
  f286 := Tryz.func220.trans (congrArg some (by kernel_rfl))
  f287 := Tryz.func223.trans (congrArg some (by kernel_rfl))
  f316 := Tryz.func224.trans (congrArg some (by kernel_rfl))
  f317 := Tryz.func234.trans (congrArg some (by kernel_rfl))
  f318 := Tryz.func235.trans (congrArg some (by kernel_rfl))
  f319 := Tryz.func236.trans (congrArg some (by kernel_rfl))
  f320 := Tryz.func237.trans (congrArg some (by kernel_rfl))
  f321 := Tryz.func238.trans (congrArg some (by kernel_rfl))
  f322 := Tryz.func239.trans (congrArg some (by kernel_rfl))
  f337 := Tryz.func244.trans (congrArg some (by kernel_rfl))
  f338 := Tryz.func245.trans (congrArg some (by kernel_rfl))
  t0 := Tryz.underlying0
  a0 := Tryz.isAgg0
  z0 := Tryz.sizeOf0
  v0 := Tryz.zeroValue0
  t2 := Tryz.underlying2
  a2 := Tryz.isAgg2
  z2 := Tryz.sizeOf2
  v2 := Tryz.zeroValue2
  t3 := Tryz.underlying3
  a3 := Tryz.isAgg3
  z3 := Tryz.sizeOf3
  v3 := Tryz.zeroValue3
  t4 := Tryz.underlying4
  a4 := Tryz.isAgg4
  z4 := Tryz.sizeOf4
  v4 := Tryz.zeroValue4
  t5 := Tryz.underlying5
  a5 := Tryz.isAgg5
  z5 := Tryz.sizeOf5
  v5 := Tryz.zeroValue5
  t9 := Tryz.underlying9
  a9 := Tryz.isAgg9
  z9 := Tryz.sizeOf9
  v9 := Tryz.zeroValue9
  t20 := Tryz.underlying20
  a20 := Tryz.isAgg20
  z20 := Tryz.sizeOf20
  v20 := Tryz.zeroValue20
  t21 := Tryz.underlying21
  a21 := Tryz.isAgg21
  z21 := Tryz.sizeOf21
  v21 := Tryz.zeroValue21
  t37 := Tryz.underlying143
  a37 := Tryz.isAgg143
  z37 := Tryz.sizeOf143
  v37 := Tryz.zeroValue143
  t46 := Tryz.underlying126
  a46 := Tryz.isAgg126
  z46 := Tryz.sizeOf126
  v46 := Tryz.zeroValue126
  t51 := Tryz.underlying182
  a51 := Tryz.isAgg182
  z51 := Tryz.sizeOf182
  v51 := Tryz.zeroValue182
  t53 := Tryz.underlying62
  a53 := Tryz.isAgg62
  z53 := Tryz.sizeOf62
  v53 := Tryz.zeroValue62
  t75 := Tryz.underlying35
  a75 := Tryz.isAgg35
  z75 := Tryz.sizeOf35
  v75 := Tryz.zeroValue35
  t76 := Tryz.underlying148
  a76 := Tryz.isAgg148
  z76 := Tryz.sizeOf148
  v76 := Tryz.zeroValue148
  t85 := Tryz.underlying240
  a85 := Tryz.isAgg240
  z85 := Tryz.sizeOf240
  v85 := Tryz.zeroValue240
  t127 := Tryz.underlying198
  a127 := Tryz.isAgg198
  z127 := Tryz.sizeOf198
  v127 := Tryz.zeroValue198
  t143 := Tryz.underlying274
  a143 := Tryz.isAgg274
  z143 := Tryz.sizeOf274
  v143 := Tryz.zeroValue274
  t145 := Tryz.underlying276
  a145 := Tryz.isAgg276
  z145 := Tryz.sizeOf276
  v145 := Tryz.zeroValue276
  t167 := Tryz.underlying239
  a167 := Tryz.isAgg239
  z167 := Tryz.sizeOf239
  v167 := Tryz.zeroValue239
  t168 := Tryz.underlying242
  a168 := Tryz.isAgg242
  z168 := Tryz.sizeOf242
  v168 := Tryz.zeroValue242
  t171 := Tryz.underlying255
  a171 := Tryz.isAgg255
  z171 := Tryz.sizeOf255
  v171 := Tryz.zeroValue255
  t173 := Tryz.underlying257
  a173 := Tryz.isAgg257
  z173 := Tryz.sizeOf257
  v173 := Tryz.zeroValue257
  t175 := Tryz.underlying261
  a175 := Tryz.isAgg261
  z175 := Tryz.sizeOf261
  v175 := Tryz.zeroValue261
  t210 := Tryz.underlying264
  a210 := Tryz.isAgg264
  z210 := Tryz.sizeOf264
  v210 := Tryz.zeroValue264
  t212 := Tryz.underlying271
  a212 := Tryz.isAgg271
  z212 := Tryz.sizeOf271
  v212 := Tryz.zeroValue271
  t213 := Tryz.underlying272
  a213 := Tryz.isAgg272
  z213 := Tryz.sizeOf272
  t232 := Tryz.underlying280
  a232 := Tryz.isAgg280
  z232 := Tryz.sizeOf280
  v232 := Tryz.zeroValue280
  t233 := Tryz.underlying281
  a233 := Tryz.isAgg281
  z233 := Tryz.sizeOf281
  v233 := Tryz.zeroValue281
  g15 := by kernel_rfl
  g16 := by kernel_rfl
  g17 := by kernel_rfl
  g18 := by kernel_rfl
  g19 := by kernel_rfl }
end Go.Proofs.YtjpmomklkkifjaaGreatDoor.T
namespace Go.Proofs.YtjpmomklkkifjaaGreatDoor.T
open Go.RowKit Go.Lib
structure CH where
  key : ByteArray
  val : ByteArray
  gone : Bool
def encC (c : CH) : List Value := [.string c.key, .string c.val, .bool c.gone]
def flatC (L : List CH) : List Value := L.flatMap encC
theorem flatC_length (L : List CH) : (flatC L).length = L.length * 3 := by
  induction L with
  | nil => rfl
  | cons x L ih => simp [flatC, encC] at ih ⊢; omega
theorem flatC_snoc (L : List CH) (x : CH) : flatC (L ++ [x]) = flatC L ++ encC x := by simp [flatC]
theorem flatC_get : ∀ (L : List CH) (j : Nat) (u : CH), L[j]? = some u → ∀ i x, (encC u)[i]? = some x → (flatC L)[j * 3 + i]? = some x
  | y :: L, 0, u, h, i, x, hx => by
    have e : y = u := by simpa using h
    subst e
    have hi : i < (encC y).length := (List.getElem?_eq_some_iff.1 hx).1
    show (encC y ++ flatC L)[0 * 3 + i]? = some x
    rw [Nat.zero_mul, Nat.zero_add, List.getElem?_append_left hi]
    exact hx
  | y :: L, j + 1, u, h, i, x, hx => by
    have := flatC_get L j u (by simpa using h) i x hx
    show (encC y ++ flatC L)[(j + 1) * 3 + i]? = some x
    rw [List.getElem?_append_right (by simp [encC]; omega)]
    simp only [encC, List.length_cons, List.length_nil]
    rw [show (j + 1) * 3 + i - (0 + 1 + 1 + 1) = j * 3 + i by omega]
    exact this
def rowCh (v : Value) (L : List CH) : Res := .row v 69 3 L.length (flatC L)
theorem infoChange : (Tryz.prog.info? 69).map (fun i => (i.zero, i.size, i.bytes)) = some (some (.agg #[.string ⟨#[]⟩, .string ⟨#[]⟩, .bool false]), 3, 40) := by kernel_rfl
theorem ch_cell {w : World} {base g n cap : Nat} {L : List CH} (h : w.ownsRow base 69 3 (.slice (some ⟨g, 0, none⟩) n cap) n (flatC L)) {j : Nat} {u : CH} (hk : L[j]? = some u) :
    w.cell? ⟨g, j * 3, none⟩ = some (.string u.key) ∧ w.cell? ⟨g, j * 3 + 1, none⟩ = some (.string u.val) ∧ w.cell? ⟨g, j * 3 + 2, none⟩ = some (.bool u.gone) := by
  have hl : L.length * 3 = n * 3 := by rw [← h.1, flatC_length]
  obtain ⟨hj, _⟩ := List.getElem?_eq_some_iff.1 hk
  have h1 := flatC_get L j u hk
  exact ⟨by rw [h.cellAt _ (by omega)]; exact h1 0 _ rfl, by rw [h.cellAt _ (by omega)]; exact h1 1 _ rfl, by rw [h.cellAt _ (by omega)]; exact h1 2 _ rfl⟩
theorem row_cut {w : World} {base : Nat} {v : Value} {e : TypeId} {k n : Nat} {xs : List Value} (h : w.ownsRow base e k v n xs) : ∃ p c, v = .slice p n c := by
  rcases h.2 with ⟨h1, h2⟩ | ⟨g, cap, cur, h1, _⟩
  · exact ⟨none, 0, by rw [h1, h2]⟩
  · exact ⟨_, cap, h1⟩
set_option maxHeartbeats 4000000 in
theorem sameCh_calls {w : World} {b1 b2 n : Nat} {va vb : Value} {L : List CH} (ha : w.ownsRow b1 69 3 va n (flatC L)) (hb : w.ownsRow b2 69 3 vb n (flatC L)) (hn : L.length = n) (hm : n ≤ 200000) :
    Calls Tryz.prog 39 #[va, vb] w fun e w' => e = .returned (.bool true) ∧ Below w.heap.size w w' := by
  obtain ⟨pa, ca, rfl⟩ := row_cut ha
  obtain ⟨pb, cb, rfl⟩ := row_cut hb
  have HN := hide hn
  have HR : Hid (w.ownsRow b1 69 3 (.slice pa n ca) n (flatC L) ∧ w.ownsRow b2 69 3 (.slice pb n cb) n (flatC L) ∧ Below w.heap.size w w) := ⟨ha, hb, Below.refl _ _⟩
  clear ha hb hn
  go_enter Tryz.func39, Tryz.ntmps39
  go_wp2_with fail
  go_loopg [5] (n + 1) (fun k vi wr => ∃ j : Nat, n - j < k ∧ j ≤ n ∧ vi = .int .i64 j ∧ Hid (wr.ownsRow b1 69 3 (.slice pa n ca) n (flatC L) ∧ wr.ownsRow b2 69 3 (.slice pb n cb) n (flatC L) ∧ Below w.heap.size w wr))
  case atStart => exact ⟨0, by omega, by omega, rfl, HR⟩
  case round =>
    obtain ⟨j, hk, hj, rfl, HI⟩ := hrel
    clear HR
    by_cases hjn : j < n
    · have hjz : (j : Int) < (n : Int) := by omega
      have hjl : j < L.length := by rw [unhide HN]; exact hjn
      obtain ⟨x, hx⟩ : ∃ x, L[j]? = some x := ⟨L[j]'hjl, by simp [hjl]⟩
      obtain ⟨g1, cap1, e1, _⟩ := row_shape (unhide HI).1 (by omega)
      injection e1 with e1 _ e2
      subst e1 e2
      obtain ⟨g2, cap2, e3, _⟩ := row_shape (unhide HI).2.1 (by omega)
      injection e3 with e3 _ e4
      subst e3 e4
      obtain ⟨x0, x1, x2⟩ := ch_cell (unhide HI).1 hx
      obtain ⟨y0, y1, y2⟩ := ch_cell (unhide HI).2.1 hx
      clear hx hjl
      go_wp2_with fail
      go_region
      all_goals
        go_wp2_with fail
        go_roundg (n - j)
        case measure => omega
        case rel => exact ⟨j + 1, by omega, by omega, by simp, (unhide HI).1, (unhide HI).2.1, (unhide HI).2.2.drew⟩
    · have hjz : ¬ (j : Int) < (n : Int) := by omega
      go_wp2_with fail
      go_ret
      exact ⟨rfl, (unhide HI).2.2⟩
end Go.Proofs.YtjpmomklkkifjaaGreatDoor.T
namespace Go.Proofs.YtjpmomklkkifjaaGreatDoor.T
open Go.RowKit Go.Shelf Go.Sort
open Go.Maps (Keyed)
instance : Inhabited CH := ⟨⟨⟨#[]⟩, ⟨#[]⟩, false⟩⟩
theorem byKey_calls (x y : CH) (W : World) : Calls Tryz.prog 72 #[.agg (encC x).toArray, .agg (encC y).toArray] W fun e w' => e = .returned (.int .i64 (cmpB x.key y.key)) ∧ ∃ q os', w' = grow (W.drewN q) os' := by
  have hc := fun wx => compare_calls x.key y.key wx
  generalize cmpB x.key y.key = r at hc ⊢
  have HC := hide hc
  clear hc
  simp only [encC]
  go_enter Tryz.func72, Tryz.ntmps72
  go_wp2_with fail
  refine (unhide HC _).mono ?_
  rintro e wx ⟨rfl, hwx⟩
  have hwx := hwx.symm
  subst hwx
  go_wp2_with fail
  go_ret
  exact ⟨rfl, 0, _, by rw [alloc_eq_grow, alloc_eq_grow, grow_grow]; rfl⟩
theorem cmpK_lt (x y : CH) : ltOf (fun a b : CH => cmpB a.key b.key) x y = decide (kLt x.key y.key) := rfl
theorem swoC : SWO (ltOf fun a b : CH => cmpB a.key b.key) where
  irrefl x := by rw [cmpK_lt]; simpa using kLt_irrefl x.key
  trans x y z h1 h2 := by rw [cmpK_lt] at *; simp at *; exact kLt_trans h1 h2
  ntrans x y z h1 h2 := by
    rw [cmpK_lt] at *
    simp at *
    intro h
    by_cases he : y.key = z.key
    · rw [he] at h1; exact h1 h
    · by_cases hx : x.key = y.key
      · rw [hx] at h; exact h2 h
      · have n1 : cmpB x.key y.key ≠ 0 := fun e => hx ((cmpB_zero _ _).1 e)
        have n2 : cmpB y.key z.key ≠ 0 := fun e => he ((cmpB_zero _ _).1 e)
        have p1 : kLt y.key x.key := by
          have := cmpB_neg x.key y.key
          unfold kLt at h1 ⊢
          omega
        have p2 : kLt z.key y.key := by
          have := cmpB_neg y.key z.key
          unfold kLt at h2 ⊢
          omega
        exact kLt_asymm h (kLt_trans p2 p1)
theorem flatK_flatC (L : List CH) : flatK encC 3 L.toArray = (flatC L).toArray := by
  apply Array.ext_getElem?
  intro t
  by_cases ht : t < L.length * 3
  · have hk : t / 3 < L.length := by omega
    have hr : t % 3 < 3 := Nat.mod_lt _ (by omega)
    have h0 : t < (flatK encC 3 L.toArray).size := by simpa using ht
    have h1 := get_flatK encC 3 L.toArray t (by simpa using ht)
    rw [getElem!_pos (flatK encC 3 L.toArray) t h0] at h1
    rw [Array.getElem?_eq_getElem h0, h1]
    have h2 : L.toArray[t / 3]! = L[t / 3] := by
      simp only [List.getElem!_toArray]
      rw [getElem!_pos L _ hk]
    rw [h2]
    have h3 : (encC L[t / 3]).length = 3 := rfl
    have h5 : t % 3 < (encC L[t / 3]).length := by rw [h3]; exact hr
    have h4 := flatC_get L (t / 3) L[t / 3] (List.getElem?_eq_getElem hk) (t % 3) ((encC L[t / 3])[t % 3]!) (by rw [getElem!_pos (encC L[t / 3]) (t % 3) h5]; exact List.getElem?_eq_getElem h5)
    rw [show t / 3 * 3 + t % 3 = t by omega] at h4
    rw [List.getElem?_toArray]
    exact h4.symm
  · rw [Array.getElem?_eq_none (by simp; omega), Array.getElem?_eq_none (by simp [flatC_length]; omega)]
set_option maxHeartbeats 1000000 in
theorem sortRows_calls {w : World} {base g n cap : Nat} {L : List CH} (h : w.ownsRow base 69 3 (.slice (some ⟨g, 0, none⟩) n cap) n (flatC L)) (hl : L.length = n) (hn : n ≤ 1000) :
    Calls Tryz.prog 71 #[.slice (some ⟨g, 0, none⟩) n cap, .func (.func 72) #[] #[]] w fun e w' => e = .returned (.tuple #[]) ∧ ∃ L', L'.Perm L ∧ L'.Pairwise (fun a b => ¬ kLt b.key a.key) ∧ w'.ownsRow base 69 3 (.slice (some ⟨g, 0, none⟩) n cap) n (flatC L') ∧ w.grownBy w' (some g) := by
  have eg : ∀ args w, (callFunc 72 args).run Tryz.prog w = .ok (.enter 72 args) w := enters_of Tryz.func72 (by kernel_rfl) rfl
  have hH : HoldsK encC 3 w g 0 L.toArray := by
    unfold HoldsK
    rw [flatK_flatC]
    exact holds_row h
  have hlt : g < w.heap.size := by
    rcases h.2 with ⟨hh, _⟩ | ⟨g', cap', cur, hv, hb, hg, _⟩
    · cases hh
    · injection hv with hv1 _ _
      injection hv1 with hv1
      injection hv1 with hv1
      subst hv1
      exact (Array.getElem?_eq_some_iff.1 hg).1
  have hc := AnyQ.slices_SortFunc sortLaysC 3 Tryz.isAgg69 Tryz.sizeOf69 encC (fun _ => rfl) (fun x v hv => by simp [encC] at hv; rcases hv with rfl | rfl | rfl <;> rfl) (fun a b : CH => cmpB a.key b.key) swoC 72 #[] g 0 cap L.toArray w eg (fun _ _ _ _ x y => byKey_calls x y _) hH hlt (by simp; omega)
  have e1 : L.toArray.size = n := by simp [hl]
  rw [e1] at hc
  refine Calls.mono (show Calls Tryz.prog 71 _ _ _ from hc) ?_
  rintro e w' ⟨he, d', m, os, ⟨hs, _, hp⟩, hsort, rfl⟩
  have hs' : d'.size = n := by rw [hs, e1]
  have hd : d'.toList.length = n := by simpa using hs'
  have hex : (d'.extract 0 n).toList = d'.toList := by rw [← hs']; simp
  have hex2 : (L.toArray.extract 0 n).toList = L := by rw [← hl]; simp
  rw [hex, hex2] at hp
  have hk : flatK encC 3 d' = (flatC d'.toList).toArray := by
    have := flatK_flatC d'.toList
    simpa using this
  have hr := row_put h (ys := flatC d'.toList) (by rw [flatC_length, flatC_length, hd, hl]) m os
  have hw : sortWorldK encC 3 w g 0 m d' os = grow (putRow id (Go.Sort.ahead w m) g 0 (flatC d'.toList).toArray) os := by
    unfold sortWorldK putRowK
    rw [hk]
  rw [hw]
  refine ⟨he, d'.toList, hp, ?_, hr⟩
  rw [List.pairwise_iff_getElem]
  intro i j hi hj hij
  have h1 := hsort i j (by omega) hij (by omega)
  rw [cmpK_lt] at h1
  have hi' : i < d'.size := by simpa using hi
  have hj' : j < d'.size := by simpa using hj
  rw [getElem!_pos d' i hi', getElem!_pos d' j hj'] at h1
  have h2 : ¬ kLt d'[j].key d'[i].key := of_decide_eq_false h1
  rw [Array.getElem_toList, Array.getElem_toList]
  exact h2
theorem sorted_once : ∀ {A B : List CH}, A.Perm B → A.Pairwise (fun a b => ¬ kLt b.key a.key) → B.Pairwise (fun a b => ¬ kLt b.key a.key) → (A.map CH.key).Nodup → A = B := by
  intro A B hp hA hB hn
  have hkk : ∀ x y : CH, x.key ≠ y.key → ¬ kLt y.key x.key → kLt x.key y.key := fun x y hne h => by
    have n1 : cmpB x.key y.key ≠ 0 := fun e => hne ((cmpB_zero _ _).1 e)
    have := cmpB_neg x.key y.key
    unfold kLt at h ⊢
    omega
  have strict : ∀ {L : List CH}, L.Pairwise (fun a b => ¬ kLt b.key a.key) → (L.map CH.key).Nodup → L.Pairwise (fun a b => kLt a.key b.key) := fun h1 h2 => by
    have h3 := List.pairwise_map.1 h2
    exact (h1.and h3).imp fun ⟨a, b⟩ => hkk _ _ b a
  exact hp.eq_of_pairwise (fun a b _ _ h1 h2 => absurd h2 (kLt_asymm h1)) (strict hA hn) (strict hB ((hp.map CH.key).nodup_iff.1 hn))
end Go.Proofs.YtjpmomklkkifjaaGreatDoor.T
namespace Go.Proofs.YtjpmomklkkifjaaGreatDoor.T
open Go.RowKit Go.Lib
section
variable {base : Nat} {w0 w : World} {K0 : Nat → Nat}
def ItemsEnd (base : Nat) (w0 : World) (K0 : Nat → Nat) (its : List Item) (rs : List Res) (e : Ending) (w' : World) : Prop :=
  ∃ v, e = .returned v ∧ Hold base w0 K0 w' (rowI v its :: rs)
end
def CopyEnd (base : Nat) (w0 : World) (K0 : Nat → Nat) (h : Nat) (k : Kid) (l2 : List Res) (e : Ending) (w' : World) : Prop :=
  ∃ k' : Kid, e = .returned (.pointer (some ⟨k'.b, 0, none⟩)) ∧ k'.c = k.c ∧ k'.L = k.L ∧ Hold base w0 K0 w' (.sub h k' :: .sub h k :: l2)
def CopySpec (h : Nat) : Prop := ∀ (base : Nat) (w0 : World) (K0 : Nat → Nat) (w : World) (k : Kid) (l2 : List Res), Hold base w0 K0 w (.sub h k :: l2) → k.c ≤ 3 →
  Calls Tryz.prog 109 #[.pointer (some ⟨k.b, 0, none⟩)] w fun e w' => CopyEnd base w0 K0 h k l2 e w'
def TreeCopyEnd (base : Nat) (w0 : World) (K0 : Nat → Nat) (tb : Nat) (L : List Item) (l2 : List Res) (e : Ending) (w' : World) : Prop :=
  ∃ tb' h' k', e = .returned (.pointer (some ⟨tb', 0, none⟩)) ∧ k'.L = L ∧ k'.c ≤ 3 ∧ (h' = 0 ∨ 1 ≤ k'.c) ∧ TreeIn base w0 K0 w' tb L (.cell tb' 130 [ptrV k'.b] :: .sub h' k' :: l2)
end Go.Proofs.YtjpmomklkkifjaaGreatDoor.T
namespace Go.Proofs.YtjpmomklkkifjaaGreatDoor.T
open Go.RowKit
open Go.Maps (Keyed)
structure Twin (F F' : Forest) (v v' : NV) : Prop where
  id : v'.id = v.id
  kind : v'.kind = v.kind
  up : v'.up = v.up
  links : v'.links = v.links
  text : v'.text = v.text
  ents : entsK F' v' = entsK F v
  tree : v'.kind = 1 → ∃ tb, v'.tb = some tb ∧ tb ∈ F'.map (·.1)
inductive Twins (F F' : Forest) : List NV → List NV → Prop
  | nil : Twins F F' [] []
  | snoc {A B : List NV} {v v' : NV} : Twins F F' A B → Twin F F' v v' → Twins F F' (A ++ [v]) (B ++ [v'])
theorem lookF_new {F : Forest} {t tb : Nat} {L : List Item} (ht : t ∈ F.map (·.1)) (hn : tb ∉ F.map (·.1)) : lookF ((tb, L) :: F) t = lookF F t := by
  have he : (tb == t) = false := by
    have : tb ≠ t := fun e => hn (e ▸ ht)
    simpa using this
  simp [lookF, List.find?_cons, he]
theorem entsK_new {F : Forest} {v : NV} {tb : Nat} {L : List Item} (h : v.kind = 1 → ∃ t, v.tb = some t ∧ t ∈ F.map (·.1)) (hn : tb ∉ F.map (·.1)) : entsK ((tb, L) :: F) v = entsK F v := by
  unfold entsK
  split
  · rename_i hk
    obtain ⟨t, e, ht⟩ := h hk
    unfold entsOf
    rw [e]
    exact lookF_new ht hn
  · rfl
theorem Twin.more {F F' : Forest} {v v' : NV} {tb : Nat} {L : List Item} (h : Twin F F' v v') (hn : tb ∉ F'.map (·.1)) : Twin F ((tb, L) :: F') v v' :=
  ⟨h.id, h.kind, h.up, h.links, h.text, by rw [entsK_new h.tree hn]; exact h.ents, fun hk => by obtain ⟨t, e, ht⟩ := h.tree hk; exact ⟨t, e, by simp; exact .inr (by simpa using ht)⟩⟩
theorem Twins.more {F F' : Forest} {A B : List NV} {tb : Nat} {L : List Item} (h : Twins F F' A B) (hn : tb ∉ F'.map (·.1)) : Twins F ((tb, L) :: F') A B := by
  induction h with
  | nil => exact .nil
  | snoc _ ht ih => exact .snoc ih (ht.more hn)
theorem Twins.ids {F F' : Forest} {A B : List NV} (h : Twins F F' A B) : B.map NV.id = A.map NV.id := by
  induction h with
  | nil => rfl
  | snoc _ ht ih => rw [List.map_append, List.map_append, ih, List.map_cons, List.map_cons, ht.id]
theorem Twins.length {F F' : Forest} {A B : List NV} (h : Twins F F' A B) : B.length = A.length := by
  have := congrArg List.length h.ids
  simpa using this
theorem putN_snoc {N : List NV} {v : NV} (h : v.id ∉ N.map NV.id) : putN N v = N ++ [v] := by
  unfold putN
  have : (findN N v.id).isSome = false := by
    cases hf : findN N v.id with
    | none => rfl
    | some u => exact absurd (List.mem_map.2 ⟨u, (findN_some hf).1, (findN_some hf).2⟩) h
  rw [this]
  rfl
abbrev gR (gb gm : Nat) (N' : List NV) (next : Int) (rs' l : List Res) : List Res := .cell gb 77 [.map (some gm), .int .i64 next] :: .obj gm (IsMapN N') :: (rs' ++ l)
variable {w0 w w' : World} {fb mb : Nat} {N : List NV} {F : Forest} {next : Int} {l2 : List Res}
theorem FSIn.swap {gb gm : Nat} {N' : List NV} {F' : Forest} {next' : Int} {rs' : List Res} (hF' : ForR F' rs') (h : FSIn w0 w fb mb N F next (gR gb gm N' next' rs' l2)) :
    ∃ rs, ForR F rs ∧ FSIn w0 w gb gm N' F' next' (gR fb mb N next rs l2) := by
  obtain ⟨rs, hr, H⟩ := h
  refine ⟨rs, hr, rs', hF', H.conv (fun x => ?_) fun r hr => H.sat r ?_⟩
  · simp only [total_append, total_cons]; omega
  · simp only [List.mem_append, List.mem_cons] at hr ⊢
    rcases hr with h | h | h | h | h | h | h <;> simp [h]
theorem ranges_same {H : Type} {P : Program} {k : TypeId} {R : Value → Option (DataW H × List MemPlace)} {b r n : Nat} {D : DataW H} {left : Lit → Bool} {cnt : Nat}
    (h : w.ranges P k R b r n D left cnt) (hb : w'.heap[b]? = w.heap[b]?) (hr : w'.heap[r]? = w.heap[r]?) : w'.ranges P k R b r n D left cnt := by
  obtain ⟨es, clock, since, seen, c0, h1, h2, h3, h4, h5, rest⟩ := h
  exact ⟨es, clock, since, seen, c0, hb.trans h1, h2, h3, h4, hr.trans h5, rest⟩
end Go.Proofs.YtjpmomklkkifjaaGreatDoor.T
namespace Go.Proofs.YtjpmomklkkifjaaGreatDoor.T
open Go.RowKit
open Go.Maps (Keyed)
variable {w0 w w' : World} {fb mb : Nat} {N : List NV} {F : Forest} {next : Int} {l2 : List Res}
theorem FSIn.mapNew (h : FSIn w0 w fb mb N F next l2) : FSIn w0 (w.alloc (.map #[] 0)) fb mb N F next (.obj w.heap.size (IsMapN []) :: l2) := by
  obtain ⟨rs, hr, H⟩ := h
  have H1 := Hold.mapNew H H.size
  refine ⟨rs, hr, Hold.conv H1 (fun x => ?_) fun r hr => H1.sat r ?_⟩
  · simp only [total_cons, total_append]; omega
  · simp only [List.mem_cons, List.mem_append] at hr ⊢
    rcases hr with h | h | h | h | h <;> simp [h]
def Drawn (F F' : Forest) : Prop := ∀ x ∈ F', ∃ t, t ∈ F.map (·.1) ∧ x.2 = lookF F t
def CopyFsEnd (w0 : World) (fb mb : Nat) (N : List NV) (F : Forest) (next : Int) (l2 : List Res) (e : Ending) (w' : World) : Prop :=
  ∃ gb gm N' F' acc rs', e = .returned (.pointer (some ⟨gb, 0, none⟩)) ∧ acc.Perm N ∧ Twins F F' acc N' ∧ Drawn F F' ∧ ForR F' rs' ∧ FSIn w0 w' fb mb N F next (gR gb gm N' next rs' l2)
end Go.Proofs.YtjpmomklkkifjaaGreatDoor.T
