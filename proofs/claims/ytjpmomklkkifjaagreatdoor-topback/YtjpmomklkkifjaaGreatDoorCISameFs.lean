/-
  The contract of image.Rows: the rows of all, rising by their keys. The contract of same: folders and files, and a copy of them, have the same rows.
-/
import Derived.Test.YtjpmomklkkifjaaGreatDoorCIRowF
namespace Go.Proofs.YtjpmomklkkifjaaGreatDoor.T
open Go.RowKit
set_option maxRecDepth 100000
set_option linter.unusedVariables false
set_option linter.unusedSimpArgs false

theorem rows_len {F : Forest} {next : Int} {N L : List NV} (h : L.Perm N) (hm : (rowsOf F next N).length ≤ 1000) {R T : List CH} (he : rowsOf F next L = R ++ T) : R.length ≤ 1000 ∧ R.length + T.length ≤ 1000 := by
  have h1 := (rowsOf_perm (F := F) (next := next) h).length_eq
  have h2 := congrArg List.length he
  rw [List.length_append] at h2
  omega
theorem drop_flat {F : Forest} {L : List NV} {j : Nat} {u : NV} (hu : L[j]? = some u) : (L.drop j).flatMap (ofNode F) = nodeCh u :: ((entsK F u).map (entCh u.id) ++ (L.drop (j + 1)).flatMap (ofNode F)) := by
  obtain ⟨hj, e⟩ := List.getElem?_eq_some_iff.1 hu
  rw [List.drop_eq_getElem_cons hj, e, List.flatMap_cons]
  rfl
theorem drop_map {α β : Type} {L : List α} {j : Nat} {u : α} (hu : L[j]? = some u) (f : α → β) : (L.drop j).map f = f u :: (L.drop (j + 1)).map f := by
  obtain ⟨hj, e⟩ := List.getElem?_eq_some_iff.1 hu
  rw [List.drop_eq_getElem_cons hj, e, List.map_cons]

variable {w0 w : World} {fb mb : Nat} {N : List NV} {F : Forest} {next : Int} {l2 : List Res}
set_option maxHeartbeats 16000000 in
theorem rows_calls (hR : Ready w0) (h : FSIn w0 w fb mb N F next l2) (hO : RowsOk N F next) :
    Calls Tryz.prog 31 #[.pointer (some ⟨fb, 0, none⟩)] w fun e w' => ∃ v R, e = .returned v ∧ R.Perm (rowsOf F next N) ∧ R.Pairwise (fun a b => ¬ kLt b.key a.key) ∧ FSIn w0 w' fb mb N F next (rowCh v R :: l2) := by
  have hnd := nodes_calls h hO.fits hO.nodup hO.root
  obtain ⟨nx, hnx⟩ : ∃ nx : Nat, next = (nx : Int) := ⟨next.toNat, by have := hO.top; omega⟩
  have htl : ∀ wx, Calls Tryz.prog 68 #[.int .i64 next] wx fun e w' => e = .returned (.string (nextCh next).val) ∧ Below wx.heap.size wx w' := fun wx => by
    have h1 := told_calls next.toNat (by have := hO.top; omega) wx
    rw [Int.toNat_of_nonneg hO.top.1] at h1
    exact h1
  have HNd := hide hnd
  have HTl := hide htl
  have HO := hide hO
  have HR := hide hR
  clear hnd htl hO hR h hnx
  go_enter Tryz.func31, Tryz.ntmps31
  go_wp2_with fail
  refine (unhide HNd).mono ?_
  rintro e w1 ⟨v1, L, rfl, hperm, hsort, h1⟩
  have hlen : L.length ≤ 16 := by rw [hperm.length_eq]; exact (unhide HO).fits.few
  have H1 := hide h1
  have HP := hide hperm
  clear h1 HNd hperm hsort
  go_wp2_with fail
  refine (unhide HTl _).mono ?_
  rintro e w2 ⟨rfl, hb2⟩
  have h2 := (unhide H1).step hb2
  obtain ⟨B, hB⟩ : ∃ B, w2.heap.size = B := ⟨_, rfl⟩
  have h3 := h2.made 69 (encC (nextCh next))
  rw [hB] at h3
  obtain ⟨w3, hw3⟩ : ∃ w3, w2.alloc (.cells (encC (nextCh next)).toArray 69) = w3 := ⟨_, rfl⟩
  rw [hw3] at h3
  have hw3' : w2.alloc (.cells #[.string ⟨#[120]⟩, .string (nextCh next).val, .bool false] 69) = w3 := hw3
  have h4 := h3.cellRow
  obtain ⟨nv, hnv⟩ : ∃ nv, (nextCh next).val = nv := ⟨_, rfl⟩
  rw [hnv] at hw3'
  have H4 : Hid (∃ R, rowsOf F next L = R ++ (L.drop 0).flatMap (ofNode F) ∧ FSIn w0 w3 fb mb N F next (rowCh (.slice (some ⟨B, 0, none⟩) 1 1) R :: rowNd v1 L :: l2)) := ⟨_, rfl, h4⟩
  have hrN := h4.rowAt (v := v1) (.tail _ (.head _))
  obtain ⟨n, hn⟩ : ∃ n, L.length = n := ⟨_, rfl⟩
  obtain ⟨pN, cN, rfl⟩ := row_cut hrN
  rw [hn] at hlen H1 H4 ⊢
  have Hn := hide hn
  clear h2 h3 h4 hb2 H1 HTl hw3 hrN hn
  go_wp2_with fail
  go_loopg [5, 21] (n + 1) (fun k v5 v21 wr => ∃ j : Nat, n - j < k ∧ j ≤ n ∧ v21 = .int .i64 j ∧ Hid (∃ R, rowsOf F next L = R ++ (L.drop j).flatMap (ofNode F) ∧ FSIn w0 wr fb mb N F next (rowCh v5 R :: rowNd (.slice pN n cN) L :: l2)))
  case atStart => exact ⟨0, by omega, by omega, rfl, H4⟩
  case round =>
    obtain ⟨j, hk, hj, rfl, HI⟩ := hrel
    clear H4
    by_cases hjn : j < n
    · have hjz : (j : Int) < (n : Int) := by omega
      have hjl : j < L.length := by rw [unhide Hn]; exact hjn
      obtain ⟨u, hu⟩ : ∃ u, L[j]? = some u := ⟨L[j], by simp [hjl]⟩
      obtain ⟨R, hRe, hI⟩ := unhide HI
      rw [drop_flat hu] at hRe
      have hrowN := hI.rowAt (v := .slice pN n cN) (.tail _ (.head _))
      rw [unhide Hn] at hrowN
      obtain ⟨g, cap, e1, _⟩ := row_shape hrowN (by omega)
      injection e1 with e1 _ e2
      subst e1 e2
      obtain ⟨c0, c1, c2, c3, c4⟩ := node_cell hrowN hu
      have huN : u ∈ N := (unhide HP).mem_iff.1 (List.mem_of_getElem? hu)
      have hids := (unhide HO).ids u huN
      have hnr := fun wx => nodeRow_in u hids ((unhide HO).ups u huN) ((unhide HO).links u huN) ((unhide HO).text u huN) wx
      have hent := fun wx l (hx : FSIn w0 wx fb mb N F next l) => entries_calls hx (unhide HO).fits u.id (wfI_of (by omega) (by omega))
      rw [atN_of (unhide HO).nodup huN] at hent
      have her : ∀ (x : Item), x ∈ entsK F u → ∀ wx l, FSIn w0 wx fb mb N F next l → Calls Tryz.prog 70 #[.int .i64 u.id, .agg #[.string x.name, .int .i64 x.node]] wx fun e w' => e = .returned (.agg #[.string (entCh u.id x).key, .string (entCh u.id x).val, .bool false]) ∧ FSIn w0 w' fb mb N F next l := fun x hx wx l h => by
        have h1 := (unhide HO).ents u huN x hx
        exact (entryRow_in u.id x hids h1.2.2 h1.2.1 wx (h.ready (unhide HR))).mono fun e w' ⟨he, hb⟩ => ⟨he, h.step hb⟩
      obtain ⟨hR1, _⟩ := rows_len (unhide HP) (unhide HO).many hRe
      have hbox := hI.made 33 [.int .i64 u.id, .int .i64 u.kind, .int .i64 u.up, .int .i64 u.links, .string u.text]
      obtain ⟨C, hC⟩ : ∃ C, wr.heap.size = C := ⟨_, rfl⟩
      rw [hC] at hbox
      obtain ⟨cn, hcn⟩ : ∃ cn, nodeCh u = cn := ⟨_, rfl⟩
      have hgn : cn.gone = false := by rw [← hcn]; rfl
      rw [hcn] at hRe hnr
      obtain ⟨w5, hw5⟩ : ∃ w5, wr.alloc (.cells [.int .i64 u.id, .int .i64 u.kind, .int .i64 u.up, .int .i64 u.links, .string u.text].toArray 33) = w5 := ⟨_, rfl⟩
      rw [hw5] at hbox
      have hw5' : wr.alloc (.cells #[.int .i64 u.id, .int .i64 u.kind, .int .i64 u.up, .int .i64 u.links, .string u.text] 33) = w5 := hw5
      have x0 : w5.cell? ⟨C, 0, none⟩ = some (.int .i64 u.id) := hbox.cellAt (.head _) (j := 0) rfl
      have x1 : w5.cell? ⟨C, 1, none⟩ = some (.int .i64 u.kind) := hbox.cellAt (.head _) (j := 1) rfl
      have x2 : w5.cell? ⟨C, 2, none⟩ = some (.int .i64 u.up) := hbox.cellAt (.head _) (j := 2) rfl
      have x3 : w5.cell? ⟨C, 3, none⟩ = some (.int .i64 u.links) := hbox.cellAt (.head _) (j := 3) rfl
      have x4 : w5.cell? ⟨C, 4, none⟩ = some (.string u.text) := hbox.cellAt (.head _) (j := 4) rfl
      have HBox := hide hbox
      have HRe := hide hRe
      have HNr := hide hnr
      have HEn := hide hent
      have HEr := hide her
      have Hu := hide hu
      clear hI HI hrowN huN hids hnr hent her hRe hbox hcn hw5 hu hjl
      generalize u.id = uid at *
      go_wp2_with fail
      refine (unhide HNr _).mono ?_
      rintro e w6 ⟨rfl, hb6⟩
      have h6 := (unhide HBox).step hb6
      obtain ⟨ck, cv, cg⟩ := cn
      simp only at hgn
      subst hgn
      have h7 := h6.alloc (.cells #[.string ck, .string cv, .bool false] 69)
      obtain ⟨v8, w8, hap, h8⟩ := FSIn.appC [_] h7 (c := ⟨ck, cv, false⟩) (heap_alloc_new w6 _) hR1 54
      have y0 : w8.cell? ⟨C, 0, none⟩ = some (.int .i64 uid) := h8.cellAt (.head _) (j := 0) rfl
      have HAp := hide hap
      have H8 := hide h8
      have he8 := unhide HEn w8 _ h8
      have HE8 := hide he8
      clear h6 h7 hap h8 he8 hb6 HNr HBox HEn x0 x1 x2 x3 x4 c0 c1 c2 c3 c4 hw5' hC hR1
      go_wp2_with (at_builtin; refine wpList_appendI rfl _ _ 54 54 rfl _ _ rfl rfl (unhide HAp) ?_)
      refine (unhide HE8).mono ?_
      rintro e w9 ⟨vE, rfl, h9⟩
      obtain ⟨E, hE⟩ : ∃ E, entsK F u = E := ⟨_, rfl⟩
      rw [hE] at h9 HRe HEr
      have hrE := h9.rowAt (v := vE) (e := 38) (k := 2) (.head _)
      have hEl : E.length ≤ 1000 := by
        have h1 := (rows_len (unhide HP) (unhide HO).many (R := R ++ [⟨ck, cv, false⟩]) (T := E.map (entCh uid) ++ (L.drop (j + 1)).flatMap (ofNode F)) (by rw [unhide HRe]; simp)).2
        simp only [List.length_append, List.length_map] at h1
        omega
      have H9 : Hid (∃ R1, rowsOf F next L = R1 ++ ((E.drop 0).map (entCh uid) ++ (L.drop (j + 1)).flatMap (ofNode F)) ∧ FSIn w0 w9 fb mb N F next (rowE vE E :: .cell C 33 [.int .i64 uid, .int .i64 u.kind, .int .i64 u.up, .int .i64 u.links, .string u.text] :: rowCh v8 R1 :: rowNd (.slice (some ⟨g, 0, none⟩) n cN) L :: l2)) := ⟨R ++ [(⟨ck, cv, false⟩ : CH)], by rw [unhide HRe]; simp, h9⟩
      obtain ⟨m, hm⟩ : ∃ m, E.length = m := ⟨_, rfl⟩
      obtain ⟨pE, cE, rfl⟩ := row_cut hrE
      rw [hm] at H9 hEl ⊢
      have Hm := hide hm
      clear h9 hrE hE hm HE8 HRe H8 HAp y0
      go_wp2_with fail
      go_loopg [5, 35] (m + 1) (fun k2 v5 v35 wr2 => ∃ i : Nat, m - i < k2 ∧ i ≤ m ∧ v35 = .int .i64 i ∧ Hid (∃ R1, rowsOf F next L = R1 ++ ((E.drop i).map (entCh uid) ++ (L.drop (j + 1)).flatMap (ofNode F)) ∧ FSIn w0 wr2 fb mb N F next (rowE (.slice pE m cE) E :: .cell C 33 [.int .i64 uid, .int .i64 u.kind, .int .i64 u.up, .int .i64 u.links, .string u.text] :: rowCh v5 R1 :: rowNd (.slice (some ⟨g, 0, none⟩) n cN) L :: l2)))
      case atStart => exact ⟨0, by omega, by omega, rfl, H9⟩
      case round =>
        obtain ⟨i, hk2, hi, rfl, HJ⟩ := hrel
        clear H9
        by_cases him : i < m
        · have hiz : (i : Int) < (m : Int) := by omega
          have hil : i < E.length := by rw [unhide Hm]; exact him
          obtain ⟨x, hx⟩ : ∃ x, E[i]? = some x := ⟨E[i], by simp [hil]⟩
          obtain ⟨R1, hR1e, hJ⟩ := unhide HJ
          rw [drop_map hx] at hR1e
          obtain ⟨hR2, _⟩ := rows_len (unhide HP) (unhide HO).many hR1e
          have hrowE := hJ.rowAt (v := .slice pE m cE) (e := 38) (k := 2) (.head _)
          rw [unhide Hm] at hrowE
          obtain ⟨g2, cap2, e3, _⟩ := row_shape hrowE (by omega)
          injection e3 with e3 _ e4
          subst e3 e4
          obtain ⟨d0, d1⟩ := entry_cell hrowE hx
          have y0 : wr.cell? ⟨C, 0, none⟩ = some (.int .i64 uid) := hJ.cellAt (.tail _ (.head _)) (j := 0) rfl
          have h10 := hJ.alloc (.cells #[.string x.name, .int .i64 x.node] 38)
          obtain ⟨D, hD⟩ : ∃ D, wr.heap.size = D := ⟨_, rfl⟩
          obtain ⟨w10, hw10⟩ : ∃ w10, wr.alloc (.cells #[.string x.name, .int .i64 x.node] 38) = w10 := ⟨_, rfl⟩
          have h10b := hJ.made 38 [.string x.name, .int .i64 x.node]
          rw [hD] at h10b
          have h10c := h10b
          have hw10b : wr.alloc (.cells [.string x.name, .int .i64 x.node].toArray 38) = w10 := hw10
          rw [hw10b] at h10c
          rw [hw10] at h10
          have z0 : w10.cell? ⟨D, 0, none⟩ = some (.string x.name) := h10c.cellAt (.head _) (j := 0) rfl
          have z1 : w10.cell? ⟨D, 1, none⟩ = some (.int .i64 x.node) := h10c.cellAt (.head _) (j := 1) rfl
          have y1 : w10.cell? ⟨C, 0, none⟩ = some (.int .i64 uid) := h10c.cellAt (.tail _ (.tail _ (.head _))) (j := 0) rfl
          have her := unhide HEr x (List.mem_of_getElem? hx) w10 _ h10
          obtain ⟨ce, hce⟩ : ∃ ce, entCh uid x = ce := ⟨_, rfl⟩
          have hge : ce.gone = false := by rw [← hce]; rfl
          rw [hce] at her hR1e
          obtain ⟨ek, ev, eg⟩ := ce
          simp only at hge her
          subst hge
          have HE10 := hide her
          have HR1e := hide hR1e
          clear hJ HJ hrowE her hx hil hR1e hce h10 h10b h10c hw10b
          go_wp2_with fail
          refine (unhide HE10).mono ?_
          rintro e w11 ⟨rfl, h11⟩
          have h12 := h11.alloc (.cells #[.string ek, .string ev, .bool false] 69)
          obtain ⟨v13, w13, hap, h13⟩ := FSIn.appC [_, _] h12 (c := ⟨ek, ev, false⟩) (heap_alloc_new w11 _) hR2 54
          have HAp := hide hap
          have H13 := hide h13
          clear h11 h12 hap h13 HE10 y0 y1 z0 z1 d0 d1 hw10 hD
          go_wp2_with (at_builtin; refine wpList_appendI rfl _ _ 54 54 rfl _ _ rfl rfl (unhide HAp) ?_)
          go_roundg (m - i)
          case measure => omega
          case rel => exact ⟨i + 1, by omega, by omega, by simp, R1 ++ [(⟨ek, ev, false⟩ : CH)], by rw [unhide HR1e]; simp, unhide H13⟩
        · have hiz : ¬ (i : Int) < (m : Int) := by omega
          obtain ⟨R1, hR1e, hJ⟩ := unhide HJ
          rw [List.drop_eq_nil_of_le (by rw [unhide Hm]; omega), List.map_nil, List.nil_append] at hR1e
          have H15 := hide (FSIn.forget [] (FSIn.forget [] hJ))
          have HR15 := hide hR1e
          clear hJ HJ hR1e
          go_wp2_with fail
          go_roundg (n - j)
          case measure => omega
          case rel => exact ⟨j + 1, by omega, by omega, by simp, R1, unhide HR15, unhide H15⟩
    · have hjz : ¬ (j : Int) < (n : Int) := by omega
      obtain ⟨R, hRe, hI⟩ := unhide HI
      rw [List.drop_eq_nil_of_le (by rw [unhide Hn]; omega), List.flatMap_nil, List.append_nil] at hRe
      have hrow := hI.rowAt (e := 69) (k := 3) (.head _)
      have hpR : R.Perm (rowsOf F next N) := by rw [← hRe]; exact rowsOf_perm (unhide HP)
      have hl1 : R.length ≤ 1000 := by rw [hpR.length_eq]; exact (unhide HO).many
      have hl0 : 0 < R.length := by rw [← hRe]; simp [rowsOf]
      obtain ⟨gR0, cR, rfl, _⟩ := row_shape hrow hl0
      have hso := sortRows_calls hrow rfl hl1
      have HSo := hide hso
      have HI2 := hide hI
      have HpR := hide hpR
      obtain ⟨r, hr⟩ : ∃ r, R.length = r := ⟨_, rfl⟩
      rw [hr] at HSo
      have Hr := hide hr
      rw [hr]
      clear hso hI HI hpR hl1 hl0 hrow hRe hr
      go_wp2_with fail
      refine (unhide HSo).mono ?_
      rintro e w20 ⟨rfl, R', hp', hsorted, hrow', hgrow⟩
      have hRl : R'.length = r := by rw [hp'.length_eq, unhide Hr]
      have h20 : FSIn w0 w20 fb mb N F next (rowCh (.slice (some ⟨gR0, 0, none⟩) r cR) R' :: rowNd (.slice pN n cN) L :: l2) := by
        unfold rowCh
        rw [hRl]
        exact FSIn.grow [] (unhide HI2) hgrow hrow' (.inl rfl)
      have H20 := hide (FSIn.forget [_] h20)
      have Hp2 := hide (hp'.trans (unhide HpR))
      have Hs := hide hsorted
      clear h20 hRl hp' hrow' hgrow hsorted HSo HI2 HpR Hr
      go_wp2_with fail
      go_ret
      exact ⟨_, R', rfl, unhide Hp2, unhide Hs, unhide H20⟩
end Go.Proofs.YtjpmomklkkifjaaGreatDoor.T
namespace Go.Proofs.YtjpmomklkkifjaaGreatDoor.T
open Go.RowKit
set_option maxRecDepth 100000
set_option linter.unusedVariables false
set_option linter.unusedSimpArgs false

variable {w0 w : World} {fb mb gb gm : Nat} {N acc N' : List NV} {F F' : Forest} {next : Int} {rs' l2 : List Res}
theorem gR_front {r : Res} : (gR gb gm N' next rs' (r :: l2)).Perm (r :: gR gb gm N' next rs' l2) := by
  have h : (.cell gb 77 [.map (some gm), .int .i64 next] :: .obj gm (IsMapN N') :: (rs' ++ r :: l2) : List Res) = (.cell gb 77 [.map (some gm), .int .i64 next] :: .obj gm (IsMapN N') :: rs') ++ r :: l2 := by simp
  show (.cell gb 77 [.map (some gm), .int .i64 next] :: .obj gm (IsMapN N') :: (rs' ++ r :: l2) : List Res).Perm _
  rw [h]
  exact List.perm_middle
set_option maxHeartbeats 4000000 in
theorem same_calls (hR : Ready w0) (h : FSIn w0 w fb mb N F next (gR gb gm N' next rs' l2)) (hF' : ForR F' rs') (hO : RowsOk N F next) (hp : acc.Perm N) (ht : Twins F F' acc N') (hd : Drawn F F') :
    Calls Tryz.prog 28 #[.pointer (some ⟨fb, 0, none⟩), .pointer (some ⟨gb, 0, none⟩)] w fun e w' => e = .returned (.bool true) ∧ Below w0.heap.size w0 w' := by
  have hr1 := rows_calls hR h hO
  have hO' := hO.copy hp ht hd
  have HR1 := hide hr1
  have HR2 : Hid (∀ wx v1 R1, FSIn w0 wx fb mb N F next (rowCh v1 R1 :: gR gb gm N' next rs' l2) → R1.Perm (rowsOf F next N) → R1.Pairwise (fun a b => ¬ kLt b.key a.key) → Calls Tryz.prog 31 #[.pointer (some ⟨gb, 0, none⟩)] wx fun e w' => ∃ v2 R, e = .returned v2 ∧ R.length ≤ 1000 ∧ w'.ownsRow w0.heap.size 69 3 v1 R.length (flatC R) ∧ w'.ownsRow w0.heap.size 69 3 v2 R.length (flatC R) ∧ Below w0.heap.size w0 w') := fun wx v1 R1 h1 p1 s1 => by
    obtain ⟨rs, hrs, h2⟩ := FSIn.swap hF' (h1.perm gR_front)
    refine (rows_calls hR h2 hO').mono ?_
    rintro e w' ⟨v2, R2, rfl, p2, s2, h3⟩
    have p3 : R2.Perm R1 := p2.trans ((by rw [twins_rows ht]; exact rowsOf_perm hp : (rowsOf F' next N').Perm (rowsOf F next N)).trans p1.symm)
    have e : R2 = R1 := sorted_once p3 s2 s1 ((p2.map CH.key).nodup_iff.2 hO'.keys)
    subst e
    have hl : R2.length ≤ 1000 := by rw [p1.length_eq]; exact hO.many
    exact ⟨v2, R2, rfl, hl, h3.rowAt (v := v1) (e := 69) (k := 3) (by simp [rowCh]), h3.rowAt (v := v2) (e := 69) (k := 3) (.head _), h3.below⟩
  clear hr1 hO' hR h hF' hO hp ht hd
  go_enter Tryz.func28, Tryz.ntmps28
  go_wp2_with fail
  refine (unhide HR1).mono ?_
  rintro e w1 ⟨v1, R1, rfl, p1, s1, h1⟩
  have hr2 := unhide HR2 w1 v1 R1 h1 p1 s1
  have HR3 := hide hr2
  obtain ⟨p, c, rfl⟩ := row_cut (h1.rowAt (v := v1) (e := 69) (k := 3) (.head _))
  clear h1 p1 s1 hr2 HR1 HR2
  go_wp2_with fail
  refine (unhide HR3).mono ?_
  rintro e w2 ⟨v2, R, rfl, hl, o1, o2, hb⟩
  have hs := sameCh_calls o1 o2 rfl (by omega)
  have HS := hide hs
  have Hb := hide hb
  obtain ⟨p2, c2, rfl⟩ := row_cut o2
  clear hs hb o1 o2 HR3
  go_wp2_with fail
  refine (unhide HS).mono ?_
  rintro e w3 ⟨rfl, hb3⟩
  have Hb3 : Hid (Below w0.heap.size w0 w3) := (unhide Hb).trans (hb3.mono (unhide Hb).size)
  clear hb3 HS Hb
  go_wp2_with fail
  go_ret
  exact ⟨rfl, unhide Hb3⟩
end Go.Proofs.YtjpmomklkkifjaaGreatDoor.T
