import Derived.Test.YtphcnmlbieokoaaGreatDoorC12
import Derived.Test.YtphcnmlbieokoaaGreatDoorC17
set_option maxRecDepth 100000
set_option maxHeartbeats 16000000
set_option linter.unusedVariables false
set_option linter.unusedSimpArgs false
namespace Go.Proofs.YtphcnmlbieokoaaGreatDoor.T
open Go.RowKit List
section
variable {w0 w:World} {fb mb gb gm:Nat} {N acc N':List NV} {F F':aC} {ar:Int} {rs' l2:List aI}
theorem Sl {r:aI}:(gR gb gm N' ar rs' (r::l2)).Perm (r::gR gb gm N' ar rs' l2):=by
 have h:(.cell gb 126 [.map (some gm),.int .i64 ar]::.obj gm (bU N')::(rs'++r::l2):List aI)=(.cell gb 126 [.map (some gm),.int .i64 ar]::.obj gm (bU N')::rs')++r::l2:=by simp
 show(.cell gb 126 [.map (some gm),.int .i64 ar]::.obj gm (bU N')::(rs'++r::l2):List aI).Perm _;rw[h];exact perm_middle
end
section
variable {N N':List NV} {F F':aC} {ar:Int}
theorem BQ.rows {v v':NV} (h:BQ F F' v v'):cY F' v'=cY F v:=by
 unfold cY dN;rw[h.gA,h.id,h.aA,h.up,h.aB,h.aL]
theorem I8 (hn:(N.map NV.id).Nodup) (F:aC):N.flatMap (cY F)=(N.map NV.id).flatMap fun i=>cY F (bW N i):=by
 rw[flatMap_map]
 have:∀(M:List NV),(∀v∈M,v∈N)->M.flatMap (cY F)=M.flatMap fun v=>cY F (bW N v.id):=by
  intro M
  induction M with
  |nil=>intro _;rfl
  |cons v M ih=>intro h;rw[flatMap_cons,flatMap_cons,ih fun u hu=>h u (mem_cons_of_mem _ hu),gB hn (h v (by simp))]
 exact this N fun v hv=>hv
theorem eX.ids (h:eX N F N' F'):(N'.map NV.id).Perm (N.map NV.id):=by
 have hm:∀i,i∈N'.map NV.id↔i∈N.map NV.id:=fun i=>by
  have h1:=h.look i
  have e:∀(M:List NV),i∈M.map NV.id↔(bq M i).isSome=true:=fun M=>by
   constructor
   ·intro hi;obtain⟨v,hv,rfl⟩:=mem_map.1 hi
    cases hf:bq M v.id with
    |some u=>rfl
    |none=>exact absurd rfl (lK hf v hv)
   ·intro hs
    cases hf:bq M i with
    |none=>rw[hf]at hs;cases hs
    |some u=>obtain⟨hu,e⟩:=dm hf;exact mem_map.2 ⟨u,hu,e⟩
  rw[e,e,h1.isSome]
 exact(perm_ext_iff_of_nodup h.nd' h.nd).2 hm
theorem eX.rows (h:eX N F N' F') (ar:Int):(rowsOf F' ar N').Perm (rowsOf F ar N):=by
 unfold rowsOf;refine List.Perm.cons _ ?_;rw[I8 h.nd' F',I8 h.nd F];have:(fun i=>cY F' (T.bW N' i))=fun i=>cY F (T.bW N i):=funext fun i=>(h.bW i).rows
 rw[this];exact h.ids.flatMap_right _
end
end Go.Proofs.YtphcnmlbieokoaaGreatDoor.T
namespace Go.Proofs.YtphcnmlbieokoaaGreatDoor.S
open Go.RowKit List
def aI.down:aI->T.aI
 |.cell b t vs=>.cell b t vs
 |.row v e k n xs=>.row v e k n xs
 |.obj b o=>.obj b (· = o)
 |.fs r=>r
theorem sh (l:List T.aI):(l.map aI.fs).map aI.down=l:=by
 rw[map_map];exact map_id l
theorem OV (r:aI) (x:Nat):r.eI x=min 1 (r.down.eI x):=by
 cases r with
 |cell b t vs=>show one b x=min 1 (T.one b x);unfold one T.one;split<;>rfl
 |row v e k n xs=>show eR v x=min 1 (T.eR v x);unfold eR T.eR;split<;>rfl
 |obj b o=>show one b x=min 1 (T.one b x);unfold one T.one;split<;>rfl
 |fs r=>rfl
theorem Ah {au:Nat} {w:World} {r:aI}:r.Sat au w↔r.down.Sat au w/\∀x,r.down.eI x<=1:=by
 cases r with
 |cell b t vs=>exact⟨fun h=>⟨h,T.one_le b⟩,fun h=>h.1⟩
 |row v e k n xs=>exact⟨fun h=>⟨h,T.qI v⟩,fun h=>h.1⟩
 |obj b o=>refine⟨fun h=>⟨⟨h.1,o,h.2,rfl⟩,T.one_le b⟩,fun h=>?_⟩;obtain⟨⟨h1,q,h2,h3⟩,_⟩:=h;exact⟨h1,by rw[h2,h3]⟩
 |fs r=>exact Iff.rfl
theorem tX:∀{l:List aI},(∀r∈l,∀x,r.down.eI x<=1)->∀x,T.total (l.map aI.down) x=total l x
 |[],_,_=>rfl
 |r::l,h,x=>by rw[map_cons,T.ax,ax,tX (fun q hq=>h q (mem_cons_of_mem _ hq)) x,OV];have:=h r (mem_cons_self) x;omega
theorem lH {w0 w:World} {l:List aI}:aw w0 w l↔T.H0 w0 w (l.map aI.down):=by
 constructor
 ·intro h;have hf:∀r∈l,∀x,r.down.eI x<=1:=fun r hr=>(Ah.1 (h.sat r hr)).2
  have ht:=tX hf;refine⟨fun r hr=>?_,fun x=>?_,fun x hx=>?_,⟨h.below.os,h.below.tape,h.below.output,h.below.size,fun k hk _=>h.below.block k hk⟩⟩
  ·obtain⟨q,hq,rfl⟩:=mem_map.1 hr;exact(Ah.1 (h.sat q hq)).1
  ·rw[ht];exact h.uniq x
  ·rw[ht]
   have h0:∀r∈l,r.eI x=0:=fun r hr=>by
    rcases Nat.eq_zero_or_pos (r.eI x)with h1|h1
    ·exact h1
    ·have:=h.M1 hr h1;omega
   have:total l x=0:=by
    unfold total;have:(l.map fun r=>r.eI x)=l.map fun _=>0:=map_congr_left h0
    rw[this];clear this h0 h hf ht
    induction l with
    |nil=>rfl
    |cons a l ih=>simpa using ih
   omega
 ·intro h
  have hf:∀r∈l,∀x,r.down.eI x<=1:=fun r hr x=>by have h1:=h.uniq x;have h2:=T.gH (mem_map_of_mem (f:=aI.down) hr) x;omega
  refine⟨fun r hr=>Ah.2 ⟨h.sat _ (mem_map_of_mem hr),hf r hr⟩,fun x=>?_,T.H0.below h⟩;rw[<-tX hf];exact h.uniq x
open Go.Lib Go.Proofs.Tryz
section
theorem oe {w0 w:World} {l:List T.aI}:aw w0 w (l.map aI.fs)↔T.H0 w0 w l:=by
 rw[lH,sh]
theorem aw.UF {w0 w:World} {A B:List aI} (h:aw w0 w A) (e:A.map aI.down=B.map aI.down):aw w0 w B:=lH.2 (e▸lH.1 h)
theorem q8.back {w0 w:World} {db sb:Nat} {d:DK} {n f1 av:Nat} {L:List bn} {l2:List aI} (h:q8 w0 w db sb d n f1 av L l2):∃sp,aw w0 w (l2++sp)/\∀w' l3,aw w0 w' (l3++sp)->q8 w0 w' db sb d n f1 av L l3:=by
 obtain⟨aH,L0,D,v,lb,h1,h2⟩:=h.sto;obtain⟨dp,k1,k2⟩:=h2.back
 have V8:∀l:List aI,(l++([fe sb db aH v lb,aO v L,eN lb db 90 (n-90) (f1+1) av]++dp)).Perm (gJ sb db aH v L lb (n-90) (f1+1) av l++dp):=fun l=>by rw[<-append_assoc];exact(perm_append_comm (l₁:=l)).append_right dp
 exact⟨_,k1.perm (V8 l2),fun w' l3 H=>⟨⟨aH,L0,D,v,lb,h1,k2 w' _ (H.perm (V8 l3).symm)⟩,h.len⟩⟩
theorem q8.UF {w0 w:World} {db sb:Nat} {d:DK} {n f1 av:Nat} {L:List bn} {A B:List aI} (h:q8 w0 w db sb d n f1 av L A) (e:A.map aI.down=B.map aI.down):q8 w0 w db sb d n f1 av L B:=by
 obtain⟨sp,h1,h2⟩:=h.back;exact h2 w B (h1.UF (by rw[map_append,map_append,e]))
def jg (w0 w:World) (db:Nat) (d:DK) (l:List T.aI):Prop:=aE w0 w db d (l.map aI.fs)
def fN (w0 w:World) (db sb:Nat) (d:DK) (f1 av:Nat) (L:List bn) (l:List T.aI):Prop:=q8 w0 w db sb d 110 f1 av L (l.map aI.fs)
variable {w0 w w':World} {db sb:Nat} {d:DK} {f1 av:Nat} {L:List bn} {l:List T.aI}
theorem fN.back (h:fN w0 w db sb d f1 av L l):∃tp:List T.aI,T.H0 w0 w (l++tp)/\∀w' l',T.H0 w0 w' (l'++tp)->fN w0 w' db sb d f1 av L l':=by
 obtain⟨sp,h1,h2⟩:=q8.back h;refine⟨sp.map aI.down,?_,fun w' l' H=>h2 w' _ (lH.2 ?_)⟩
 ·have:=lH.1 h1
  rwa [map_append,sh]at this
 ·rw[map_append,sh];exact H
theorem jg.back (h:jg w0 w db d l):∃tp:List T.aI,T.H0 w0 w (l++tp)/\∀w' l',T.H0 w0 w' (l'++tp)->jg w0 w' db d l':=by
 obtain⟨sp,h1,h2⟩:=aE.back h;refine⟨sp.map aI.down,?_,fun w' l' H=>h2 w' _ (lH.2 ?_)⟩
 ·have:=lH.1 h1
  rwa [map_append,sh]at this
 ·rw[map_append,sh];exact H
theorem fN.hold (h:fN w0 w db sb d f1 av L l):T.H0 w0 w l:=oe.1 (q8.hold h)
theorem fN.rows (h:fN w0 w db sb d f1 av L l):
 Calls prog 24 #[.pointer (some ⟨sb,0,none⟩)] w fun e w'=>∃v,e=.returned v/\fN w0 w' db sb d f1 av L (T.cL v L::l):=by
 refine(Ux h).mono ?_;rintro e w' ⟨v,he,hr⟩;exact⟨v,he,q8.UF (q8.join h hr) rfl⟩
theorem FL {w0 w:World} {l:List T.aI} {vc:Value} {R:List bn} (hm:T.cL vc R∈l) (h:aw w0 w (l.map aI.fs)):F7 w vc R/\Shaped vc:=by
 obtain⟨A,B,rfl⟩:=append_of_mem hm
 have h1:aw w0 w (A.map aI.fs++aO vc R::B.map aI.fs):=h.UF (by
  rw[map_append,map_append,map_append,map_cons,map_cons,map_cons];rfl)
 have gY:aO vc R∈A.map aI.fs++aO vc R::B.map aI.fs:=mem_append_right _ ae;exact⟨ke h1 gY,mY h1 gY⟩
theorem fN.SP (h:fN w0 w db sb d f1 av L l) (hf:f1<=700000) {vc:Value} {R:List bn} (hm:T.cL vc R∈l) (hl:R.length<=1000000):
 Calls prog 61 #[.pointer (some ⟨sb,0,none⟩),vc] w fun e w'=>
  (∃k,cM 20 L R=some k/\e=.returned (.iface 88 (.int .i64 k))/\fN w0 w' db sb d f1 av L l)∨
  (cM 20 L R=none/\e=.returned .nilIface/\∃d' kc,fN w0 w' db sb d' kc (tc 20 av R) (cT L R) l/\kc<=f1+100/\(d.left<0->d'.left=d.left))∨
  (cM 20 L R=none/\e=.returned (.iface 88 (.int .i64 10))/\¬d.left<0/\∃d',jg w0 w' db d' l/\lT d' 110 (f1+100) fun L'=>L'=L∨L'=cT L R):=
 Pj h hf vc R (fun w' hw'=>(FL hm hw').1) (FL hm (q8.hold h)).2 hl
theorem fN.check (h:fN w0 w db sb d f1 av L l) (hf:f1<=700000):
 Calls prog 52 #[.pointer (some ⟨sb,0,none⟩)] w fun e w'=>(e=.returned .nilIface/\∃d' kc,fN w0 w' db sb d' kc 0 L l/\kc<=f1+100/\(d.left<0->d'.left=d.left))∨
  (e=.returned (.iface 88 (.int .i64 10))/\¬d.left<0/\∃d',jg w0 w' db d' l/\lT d' 110 (f1+100) fun L'=>L'=L):=SU h hf
theorem fN.QG (h:fN w0 w db sb d f1 av L l) (hf:f1<=900000):
 Calls prog 23 #[.pointer (some ⟨db,0,none⟩)] w fun e w'=>∃PM,e=.returned (.tuple #[.pointer (some ⟨PM,0,none⟩),.nilIface])/\fN w0 w' db PM d f1 av L l:=by
 refine(NJ h hf).mono ?_;rintro e w' ⟨PM,he,aH,v,lb,hI⟩;exact⟨PM,he,q8.sub hI ((List.Sublist.refl _).cons _ |>.cons _ |>.cons _)⟩
theorem jg.open (h:jg w0 w db d l) {aH f1:Nat} {L0:List bn} {D:List (List bn)} (hs:ou d aH f1 L0 D av L) (hn:d.aW.length=110) (hf:f1<=900000):
 Calls prog 23 #[.pointer (some ⟨db,0,none⟩)] w fun e w'=>∃sb,e=.returned (.tuple #[.pointer (some ⟨sb,0,none⟩),.nilIface])/\fN w0 w' db sb d f1 av L l:=Me h hs hn hf
theorem Vu (h:T.H0 w0 w l):Calls prog 36 #[.int .i64 110] w fun e w'=>∃db,e=.returned (.tuple #[.pointer (some ⟨db,0,none⟩),.nilIface])/\jg w0 w' db (js 110) l:=
 wU w0 w _ (oe.2 h) 110 (by decide) (by decide)
theorem jg.format (h:jg w0 w db (js 110) l):Calls prog 74 #[.pointer (some ⟨db,0,none⟩)] w fun e w'=>e=.returned .nilIface/\∃d',jg w0 w' db d' l/\ou d' 0 0 [] [] 0 []/\d'.aW.length=110/\d'.left = -1:=by
 refine(OU (by decide) h).mono ?_;rintro e w' (⟨h1,_⟩|⟨_,he,d',k1,k2,k3,k4⟩)
 ·omega
 ·exact⟨he,d',k1,k2,k3,k4⟩
end
end Go.Proofs.YtphcnmlbieokoaaGreatDoor.S
