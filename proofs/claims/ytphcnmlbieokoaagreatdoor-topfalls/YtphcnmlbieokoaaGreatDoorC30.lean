import Derived.Test.YtphcnmlbieokoaaGreatDoorC27
set_option maxRecDepth 100000
set_option maxHeartbeats 16000000
set_option linter.unusedVariables false
set_option linter.unusedSimpArgs false
namespace Go.Proofs.YtphcnmlbieokoaaGreatDoor.S
open Go.RowKit List Go.Proofs.Tryz
section
variable (w0 w:World) (db:Nat) (d:DK) (l2:List aI)
def DZ (w:World) (K:List (List UInt8)) (g0 c0 g1 c1:Nat) (v2:Value):Prop:=
 aw w0 w (SF db (.slice (some ⟨g0,0,none⟩) d.aW.length c0) (.slice (some ⟨g1,0,none⟩) d.aW.length c1) v2 d.down d.left::l7 (.slice (some ⟨g0,0,none⟩) d.aW.length c0) K::l7 (.slice (some ⟨g1,0,none⟩) d.aW.length c1) d.aW::QC v2 d.wr::l2)
theorem SZ (k j:Nat) (hk:k<18446744073709551616):(bits .and .u64 ((k:Int) / 2^j) 1==1)=k.testBit j:=by
 have e1:((k:Int) / 2^j)=((k / 2^j:Nat):Int):=by rw[Int.natCast_ediv,Int.natCast_pow];rfl
 have hle:k / 2^j<=k:=Nat.div_le_self _ _;have e2:=u64_and_nat (k / 2^j) 1 (by omega) (by omega);rw[e1];rw[show((1:Nat):Int)=1 from rfl]at e2;rw[e2,Nat.and_one_is_mod,Nat.testBit_eq_decide_div_mod_eq];have h2:k / 2^j%2<2:=Nat.mod_lt _ (by omega)
 by_cases h:k / 2^j%2=1
 ·rw[h];rfl
 ·rw[decide_eq_false h];have:k / 2^j%2=0:=by omega
  rw[this];rfl
theorem KD (k i:Nat) {l:List (Nat×List UInt8)} {x:Nat×List UInt8} (hx:l[i]? = some x) (K:List (List UInt8)):dC k 0 (l.take (i+1)) K=if k.testBit (i%64)then(dC k 0 (l.take i) K).set x.1 x.2 else dC k 0 (l.take i) K:=by
 obtain⟨hi,rfl⟩:=List.getElem?_eq_some_iff.1 hx;rw[take_add_one,hx,Option.toList_some,vv,Nat.zero_add,length_take,Nat.min_eq_left (by omega)];rfl
theorem Co (h:aE w0 w db d l2) (hm:d.wr.length<=100000) (k:Nat) (hk:k<18446744073709551616):
 Calls prog 16 #[.pointer (some ⟨db,0,none⟩),.int .u64 (k:Int)] w fun e w'=>e=.returned (.tuple #[])/\aE w0 w' db (d.again k) l2:=by
 have og:=h.ok;obtain⟨g0,c0,g1,c1,v2,lv,hc01,kE,hc11,H⟩:=h.mem;have hM:DZ w0 db d l2 w d.kept g0 c0 g1 c1 v2:=H;have q2:w.cell? ⟨db,2,none⟩=some v2:=H.cellAt ae rfl;obtain⟨p2,cp2,wE,Mv,Ge⟩:=cI (H.rowAt ah);have Ch:=aq og;have Hc:Hid (d.aW.length<=c0/\c0<=9223372036854775807/\d.aW.length<=c1/\c1<=9223372036854775807):=⟨lv,hc01,kE,hc11⟩;have HM:=aq hM;subst wE;clear H hM h og lv hc01 kE hc11 Mv Ge;obtain⟨Z,hZ⟩:∃Z:List Value,(Value.int .i64 0::List.replicate 140 (Value.int .u8 0))=Z:=⟨_,rfl⟩
 have hz:=LY;rw[hZ]at hz;have fE:¬Z=[]:=by rw[<-hZ];simp
 have fD:Z.length=141:=by rw[<-hZ];simp
 clear hZ;go_enter func16,ntmps16;go_wp2_with fail
 go_loopg [11] (d.wr.length+1) (fun g vi wr=>∃(i:Nat),d.wr.length-i<g/\i<=d.wr.length/\vi=.int .i64 i/\Hid (DZ w0 db d l2 wr (dC k 0 (d.wr.take i) d.kept) g0 c0 g1 c1 (.slice p2 d.wr.length cp2)))
 case atStart=>exact⟨0,by omega,by omega,rfl,HM⟩
 case round=>
  obtain⟨i,hg,hi,rfl,HMi⟩:=hrel
  by_cases gY:i<d.wr.length
  ·have mI:(i:Int)<(d.wr.length:Int):=by omega
   have hM:=an HMi;unfold DZ at hM;obtain⟨⟨at_,s⟩,hx⟩:∃x,d.wr[i]? = some x:=⟨_,getElem?_eq_getElem gY⟩;have hwl:∀x∈d.wr,x.2.length=140:=fun x hx=>((an Ch).wr x hx).1
   have UM:=(an Ch).wr _ (mem_of_getElem? hx);simp only at UM;have J0:=KD k i hx d.kept;simp only at J0;have zz:=SZ k (i%64) hk;have dW:=hM.rowAt ah;obtain⟨g2,cap2,JW,_,_⟩:=aZ dW (by omega);injection JW with JW _ kD;subst JW kD;obtain⟨V,hV⟩:=aa (ez s);obtain⟨X,hX⟩:=aa (TM (at_,s));have Yg:V.length=140:=by rw[<-hV,ey,UM.1]
   have Yh:∀v∈V,v.oneCell'=true:=by rw[<-hV];exact u7 _
   have OI:X=.int .i64 (at_:Int)::V:=by rw[<-hX,<-hV];rfl
   have Vg:X.length=141:=by rw[OI];simp[Yg]
   have TV:wr.rangeAt g2 (i*141) X:=fun j v hv=>hM.jb (xs:=tO d.wr) (k:=141) (e:=76) (n:=d.wr.length) (aU:=cp2) ah (OZ hwl hx (by rw[hX];exact hv))
   have hX1:∀v∈X,v.oneCell'=true:=by
    rw[OI];intro v hv;rcases mem_cons.1 hv with rfl|hv
    ·rfl
    ·exact Yh v hv
   have gz:(storeCells ⟨wr.heap.size,0,none⟩ X 0).run prog (wr.alloc (.cells Z.toArray 76))=.ok () (wr.alloc (.cells X.toArray 76)):=by rw[run_storeCells_at prog wr.heap.size 0 76 X 0 Z.toArray _ (heap_alloc_new wr _) (by simp[Vg,fD]) hX1,World.setRow_alloc_new];congr 3;rw[Nat.add_zero,take_zero,nil_append,Nat.zero_add,drop_eq_nil_of_le (by simp[Vg,fD]),append_nil]
   have H3:=hM.aY 76 X
   cases hb:k.testBit (i%64)with
   |false=>
    rw[hb]at zz J0;simp only[Bool.false_eq_true,if_false]at J0;have HF:Hid (DZ w0 db d l2 (wr.alloc (.cells X.toArray 76)) (dC k 0 (d.wr.take (i+1)) d.kept) g0 c0 g1 c1 (.slice (some ⟨g2,0,none⟩) d.wr.length cp2)):=by rw[J0];exact H3.aD []
    clear hM dW hX hx UM hV OI H3 J0 hb HMi
    go_wp2_with (refine wpList_load_mid rfl 76 (.tmp 14) rfl g2 (i*141) rfl X _ TV underlying76 rfl (by rw[Vg];exact Ef) ?_)
    go_roundg (d.wr.length-i)
    case measure=>omega
    case rel=>exact⟨i+1,by omega,by omega,by simp,HF⟩
   |true=>
    rw[hb]at zz J0;simp only[if_true]at J0;have WO:pQ (dC k 0 (d.wr.take i) d.kept):=uu k _ 0 _ (fun x hx=>hwl x (mem_of_mem_take hx)) (an Ch).kept;have ML:(dC k 0 (d.wr.take i) d.kept).length=d.aW.length:=by rw[kr,(an Ch).same]
    have aak:=UM.2;have XH:=UM.1;have HXV:=aq OI;have Hkn:=aq J0;have HKl:=aq ML;have HV:=aq hV;clear hM dW hX hx UM hb HMi OI J0 ML hV
    go_wp2_with (refine wpList_load_mid rfl 76 (.tmp 14) rfl g2 (i*141) rfl X _ TV underlying76 rfl (by rw[Vg];exact Ef) ?_)
    obtain⟨B,hB⟩:=aa wr.heap.size;obtain⟨w3,hw3⟩:=aa (wr.alloc (.cells X.toArray 76));rw[hB,hw3]at H3 ⊢;have OI:=an HXV;have J0:=an Hkn;have ML:=an HKl;have hV:=an HV;clear gz TV hw3 hB HXV Hkn HKl HV;have H3f:=H3.drew.front [_,_];rw[show l7 (.slice (some ⟨g0,0,none⟩) d.aW.length c0) (dC k 0 (d.wr.take i) d.kept)=.row (.slice (some ⟨g0,0,none⟩) d.aW.length c0) 74 140 d.aW.length (iK (dC k 0 (d.wr.take i) d.kept))from by unfold l7;rw[ML]]at H3f;obtain⟨w4,Dk,H4,hg4⟩:=H3f.lay [] (at_*140) V (by rw[jE WO,Yg,ML];omega) Yh
    have hrB:∀wx l,aw w0 wx l->aI.cell B 76 X∈l->wx.rangeAt B 1 V/\wx.cell? ⟨B,0,none⟩=some (.int .i64 (at_:Int)):=fun wx l hx hm=>⟨fun j v hv=>hx.cellAt hm (by rw[OI,Nat.add_comm];exact hv),hx.cellAt hm (by rw[OI];rfl)⟩
    have XM:∀wx l L,aw w0 wx l->l7 (.slice (some ⟨g0,0,none⟩) d.aW.length c0) L∈l->L.length=d.aW.length->pQ L->wx.there g0 (at_*140) 140:=fun wx l L hx hm hL hS j hj=>by
     have eO:at_*140+j<(iK L).length:=by rw[jE hS];omega
     have y9:aI.row (.slice (some ⟨g0,0,none⟩) d.aW.length c0) 74 140 d.aW.length (iK L)∈l:=by rw[<-hL]at hm ⊢;exact hm
     exact⟨by rw[hx.jb y9 (getElem?_eq_getElem eO)];rfl,hx.wL y9 _⟩
    have EM:=XM _ _ _ H3.drew ag ML WO
    have qy:w4=w3.drew.setCells g0 (at_*140) V:=by have h1:=run_storeCells_cells (P:=prog) g0 (at_*140) V 0 w3.drew (fun j hj=>by rw[Nat.add_zero];exact(EM j (by omega)).1) (fun j hj=>by rw[Nat.add_zero];exact(EM j (by omega)).2) Yh;have h2:=Dk prog;rw[h1]at h2;injection h2 with _ h2;exact h2.symm
    rw[<-hV,vL WO (by rw[ML];exact aak) XH]at H4;have E0:(dC k 0 (d.wr.take i) d.kept).length=((dC k 0 (d.wr.take i) d.kept).set at_ s).length:=by simp
    have H5:aw w0 w4 (l7 (.slice (some ⟨g0,0,none⟩) d.aW.length c0) (dC k 0 (d.wr.take (i+1)) d.kept)::aI.cell B 76 X::SF db (.slice (some ⟨g0,0,none⟩) d.aW.length c0) (.slice (some ⟨g1,0,none⟩) d.aW.length c1) (.slice (some ⟨g2,0,none⟩) d.wr.length cp2) d.down d.left::l7 (.slice (some ⟨g1,0,none⟩) d.aW.length c1) d.aW::QC (.slice (some ⟨g2,0,none⟩) d.wr.length cp2) d.wr::l2):=by rw[J0,show ∀v,l7 v ((dC k 0 (d.wr.take i) d.kept).set at_ s)=.row v 74 140 d.aW.length (iK ((dC k 0 (d.wr.take i) d.kept).set at_ s))from fun v=>by unfold l7;rw[<-E0,ML]];exact H4
    have HF:Hid (DZ w0 db d l2 w4 (dC k 0 (d.wr.take (i+1)) d.kept) g0 c0 g1 c1 (.slice (some ⟨g2,0,none⟩) d.wr.length cp2)):=(H5.aD [_]).back [_];have Rq:=XM w4 _ _ H5 ae (by rw[J0,<-E0,ML]) (by rw[J0];exact WO.set at_ XH);obtain⟨Rx,hB3⟩:=hrB _ _ H3.drew ae;obtain⟨Ru,hB4⟩:=hrB _ _ H5 af;have q3:w3.drew.cell? ⟨db,0,none⟩=some (.slice (some ⟨g0,0,none⟩) d.aW.length c0):=H3.drew.cellAt af rfl;have q4:w4.cell? ⟨db,0,none⟩=some (.slice (some ⟨g0,0,none⟩) d.aW.length c0):=H5.cellAt ag rfl
    have D3:Hid (w3.drew.cell? ⟨db,0,none⟩=some (.slice (some ⟨g0,0,none⟩) d.aW.length c0)/\w3.drew.cell? ⟨B,0,none⟩=some (.int .i64 (at_:Int))/\w3.drew.rangeAt B 1 V/\w3.drew.there g0 (at_*140) 140):=⟨q3,hB3,Rx,EM⟩;have YY:Hid (w4.cell? ⟨db,0,none⟩=some (.slice (some ⟨g0,0,none⟩) d.aW.length c0)/\w4.cell? ⟨B,0,none⟩=some (.int .i64 (at_:Int))/\w4.rangeAt B 1 V/\w4.there g0 (at_*140) 140):=⟨q4,hB4,Ru,Rq⟩;rw[qy]at YY;have Hw4:=aq qy;have TX:(at_:Int)<(d.aW.length:Int):=by omega
    have Xn:=underlying74;have i102:(prog.info? 74).map (·.size)=some V.length:=by rw[Yg];exact Eg
    clear H3 H3f OI Dk H4 hg4 hV qy hrB XM EM Rq Rx Ru hB3 hB4 q3 q4 H5 WO ML J0 E0 aak XH hwl
    go_region_held (fun w'=>w'.cell? ⟨db,0,none⟩=some (.slice (some ⟨g0,0,none⟩) d.aW.length c0)/\w'.cell? ⟨B,0,none⟩=some (.int .i64 (at_:Int))/\w'.rangeAt B 1 V/\w'.there g0 (at_*140) 140) (first|exact an D3|exact an YY) (fail)
    rw[<-an Hw4];simp only[getElem_toArray,getElem_cons_zero,getElem_cons_succ];clear Hw4 D3 YY i102 Xn;go_wp2_with fail
    go_roundg (d.wr.length-i)
    case measure=>omega
    case rel=>exact⟨i+1,by omega,by omega,by simp,HF⟩
  ·have mI:¬(i:Int)<(d.wr.length:Int):=by omega
   have TY:i=d.wr.length:=by omega
   subst TY;have hM:=an HMi;unfold DZ at hM;rw[take_length]at hM;have K1:=(an Ch).again k;have WO:pQ (dC k 0 d.wr d.kept):=K1.aW;have ML:(dC k 0 d.wr d.kept).length=d.aW.length:=by rw[kr,(an Ch).same]
   obtain⟨w3,T5,H3⟩:=hM.drew.MT [_,_] (g:=g1) (g':=g0) (aU:=c1) (cap':=c0) rfl ML (an Ch).aW WO (by simp) 3;have q0:wr.cell? ⟨db,0,none⟩=some (.slice (some ⟨g0,0,none⟩) d.aW.length c0):=hM.cellAt ae rfl;have q1:wr.cell? ⟨db,1,none⟩=some (.slice (some ⟨g1,0,none⟩) d.aW.length c1):=hM.cellAt ae rfl;have q2:w3.cell? ⟨db,2,none⟩=some (.slice p2 d.wr.length cp2):=H3.cellAt ae rfl;have f2:w3.frozen? ⟨db,2,none⟩=false:=H3.frozenAt ae 2;have q3:w3.cell? ⟨db,3,none⟩=some (.bool d.down):=H3.cellAt ae rfl
   have f3:w3.frozen? ⟨db,3,none⟩=false:=H3.frozenAt ae 3;have q4:w3.cell? ⟨db,4,none⟩=some (.int .i64 d.left):=H3.cellAt ae rfl;have f4:w3.frozen? ⟨db,4,none⟩=false:=H3.frozenAt ae 4;have h4:=((H3.store [] 2 (.slice none 0 0) _ rfl).store [] 3 (.bool false) _ rfl).store [] 4 (.int .i64 (-1)) _ rfl;have h5:=((h4.aD [_,_,_]).fJ 76 141).back [_,_,_]
   have HF:Hid (aE w0 (((w3.setCell ⟨db,2,none⟩ (.slice none 0 0)).setCell ⟨db,3,none⟩ (.bool false)).setCell ⟨db,4,none⟩ (.int .i64 (-1))) db (d.again k) l2):=by obtain⟨a1,a2,a3,a4⟩:=an Hc;refine⟨K1,g0,c0,g1,c1,.slice none 0 0,?_⟩;have hl:(d.again k).aW.length=d.aW.length:=ML;rw[hl];exact⟨a1,a2,a3,a4,h5⟩
   clear hM K1 WO ML H3 h4 h5 HMi;go_wp2_with fail
   go_region_law (refine step_copy_runI rfl _ _ 69 69 rfl (.slice (some ⟨g1,0,none⟩) d.aW.length c1) (.slice (some ⟨g0,0,none⟩) d.aW.length c0) (by simp[Act.eval,Act.put]) (by simp[Act.eval,Act.put]) T5 ?_)
   all_goals (go_wp2_with fail;go_end0;exact⟨rfl,an HF⟩)
end
open Go.Lib
section
variable {w0 w w':World} {db mt:Nat} {d:DK} {k f1:Nat} {N N1:List T.NV} {F F1:T.aC} {ar n1:Int} {l:List T.aI}
theorem lT.mono {d:DK} {n f1 f2:Nat} {P Q:List bn->Prop} (h:lT d n f1 P) (hf:f1<=f2) (hq:∀L,P L->Q L):lT d n f2 Q:=
 ⟨h.1,fun k=>by
  obtain⟨h1,aH,kc,L0,D,av,L,h2,h3,h4⟩:=h.2 k;exact⟨h1,aH,kc,L0,D,av,L,h2,hq L h3,by omega⟩⟩
theorem YC {w0 w:World} {db sb:Nat} {d:DK} {n f1 av:Nat} {L:List bn} {l2:List aI} (h:q8 w0 w db sb d n f1 av L l2) (m:Int) (hm:-9223372036854775808<=m/\m<=9223372036854775807):
 Calls prog 15 #[.pointer (some ⟨db,0,none⟩),.int .i64 m] w fun e w'=>e=.returned (.tuple #[])/\q8 w0 w' db sb (d.ot m) n f1 av L l2:=by
 obtain⟨aH,L0,D,v,lb,h1,h2⟩:=h.sto;refine(Po w0 w db d _ h2 m hm).mono ?_;rintro e w' ⟨he,hD⟩;exact⟨he,⟨aH,L0,D,v,lb,h1.ot m,hD⟩,h.len⟩
theorem jZ.arm (h:jZ w0 w db mt d k f1 N F ar l) (m:Int) (hm:-9223372036854775808<=m/\m<=9223372036854775807):
 Calls prog 15 #[.pointer (some ⟨db,0,none⟩),.int .i64 m] w fun e w'=>e=.returned (.tuple #[])/\jZ w0 w' db mt (d.ot m) k f1 N F ar l:=by
 obtain⟨sb,fb,mb,rs,av,L,hF,hM,hS⟩:=h;exact(YC hS m hm).mono fun e w' ⟨he,h⟩=>⟨he,sb,fb,mb,rs,av,L,hF,hM,h⟩
theorem jZ.Fv (h:jZ w0 w db mt d k f1 N F ar l):jg w0 w db d l/\∃L,zk L k N F ar/\lT d 110 f1 fun L'=>L'=L:=by
 obtain⟨sb,fb,mb,rs,av,L,hF,hM,hS⟩:=h;refine⟨?_,L,hM,q8.Fv hS⟩;obtain⟨aH,L0,D,v,lb,h1,h2⟩:=hS.sto;have h3:jg w0 w db d (mR mt sb fb mb N ar rs l):=aE.eM [_,_,_] h2;exact h3.eM (fun x=>by simp only[T.ax,T.ay];omega) (fun r hr=>by grind)
theorem Qx (h:T.Good k N F ar):T.eX N F N F:=
 ⟨fun i=>by
  cases T.bq N i with
  |none=>exact .none
  |some v=>exact .some ⟨rfl,rfl,rfl,rfl,rfl,rfl⟩,rfl,h.whole.linked.nodup,h.whole.linked.nodup⟩
def ab2 (k:Nat) (N:List T.NV) (F:T.aC) (ar:Int) (o:Option Int) (N1:List T.NV) (F1:T.aC) (n1:Int) (ok:Bool) (L:List bn):Prop:=
 (ok=false/\zk L k N F ar)∨(o=none/\∃N2 F2,T.eX N1 F1 N2 F2/\zk L (k+1) N2 F2 n1)
def Down (w0 w':World) (db:Nat) (k f1:Nat) (N:List T.NV) (F:T.aC) (ar:Int) (a:T.gC) (l:List T.aI) (e:Ending):Prop:=
 ∃o N' F' N1 F1 n1 d' ok v,T.eX N F N' F'/\T.Good k N' F' ar/\T.oA N' F' ar a o N1 F1 n1/\e=.returned v/\((ok=true/\v=.nilIface)∨(ok=false/\∃t u,v=.iface t u))/\jg w0 w' db d' l/\lT d' 110 (f1+100) (ab2 k N F ar o N1 F1 n1 ok)
theorem B3.down {a:T.gC} {e:Ending} (h:B3 w0 w' db mt d k f1 N F ar a l e):Down w0 w' db k f1 N F ar a l e:=by
 obtain⟨o,N',F',N1,F1,n1,s1,g1,g2,g3⟩:=h
 rcases g3 with⟨t,v,he,hI,hj⟩|⟨ho,he,N2,F2,d',kc,s2,hI,x1,x2⟩|⟨ho,⟨t,v,he⟩,hn,d',L,R,m1,m2,hD,hf⟩
 ·obtain⟨hD,L,hM,hf⟩:=hI.Fv;exact⟨o,N',F',N1,F1,n1,d,false,_,s1,g1,g2,he,.inr ⟨rfl,t,v,rfl⟩,hD,hf.mono (by omega) fun L' h=>.inl ⟨rfl,by rw[h];exact hM⟩⟩
 ·obtain⟨hD,L,hM,hf⟩:=hI.Fv;exact⟨o,N',F',N1,F1,n1,d',true,_,s1,g1,g2,he,.inl ⟨rfl,rfl⟩,hD,hf.mono (by omega) fun L' h=>.inr ⟨ho,N2,F2,s2,by rw[h];exact hM⟩⟩
 ·refine⟨o,N',F',N1,F1,n1,d',false,_,s1,g1,g2,he,.inr ⟨rfl,t,v,rfl⟩,hD,hf.mono (by omega) fun L' h=>?_⟩
  rcases h with rfl|rfl
  ·exact .inl ⟨rfl,m1⟩
  ·exact .inr ⟨ho,N1,F1,Qx m2.oR,m2⟩
theorem jg.Mc {P:List bn->Prop} (h:jg w0 w db d l) (hf:lT d 110 f1 P) (keep:Nat) (hk:keep<18446744073709551616):
 Calls prog 16 #[.pointer (some ⟨db,0,none⟩),.int .u64 (keep:Int)] w fun e w'=>e=.returned (.tuple #[])/\∃d' aH kc L0 D av L,jg w0 w' db d' l/\d'.left = -1/\d'.aW.length=110/\ou d' aH kc L0 D av L/\P L/\kc<=f1:=by
 refine(Co w0 w db d _ h (by have:=hf.1;omega) keep hk).mono ?_;rintro e w' ⟨he,hD⟩;obtain⟨h1,aH,kc,L0,D,av,L,h2,h3,h4⟩:=hf.2 keep;exact⟨he,_,aH,kc,L0,D,av,L,hD,rfl,h1,h2,h3,h4⟩
def YH (w0 w':World) (db k f1:Nat) (N:List T.NV) (F:T.aC) (ar:Int) (o:Option Int) (N1:List T.NV) (F1:T.aC) (n1:Int) (ok:Bool) (l:List T.aI) (e:Ending):Prop:=
 ∃Ga d' kc N3 F3 n3,e=.returned (.tuple #[.pointer (some ⟨Ga,0,none⟩),.nilIface])/\jZ w0 w' db Ga d' (k+1) kc N3 F3 n3 l/\kc<=f1+100/\d'.left = -1/\
  ((ok=false/\n3=ar/\T.eX N F N3 F3)∨(o=none/\n3=n1/\T.eX N1 F1 N3 F3))
theorem Dy {o:Option Int} {ok:Bool} {aH f2 av:Nat} {L0 L:List bn} {D:List (List bn)} (hR:bF w0) (hk:k<=60) (hf:f1<=700000) (h:jg w0 w db d l) (hl:d.left = -1) (hn:d.aW.length=110) (hs:ou d aH f2 L0 D av L) (hL:ab2 k N F ar o N1 F1 n1 ok L) (ME:f2<=f1+100):
 Calls prog 10 #[.pointer (some ⟨db,0,none⟩)] w fun e w'=>YH w0 w' db k f1 N F ar o N1 F1 n1 ok l e:=by
 have ho:=h.open hs hn (by omega)
 rcases hL with⟨og,hM⟩|⟨nR,N2,F2,s2,hM⟩
 ·refine(qo hR hM (cj hM.oR (by omega)) ho).mono ?_;rintro e w' ⟨Ga,N',F',he,s3,hI⟩;exact⟨Ga,d,f2,N',F',ar,he,hI.mono (by omega),ME,hl,.inl ⟨og,rfl,s3⟩⟩
 ·refine(qo hR hM (cj hM.oR (by omega)) ho).mono ?_;rintro e w' ⟨Ga,N',F',he,s3,hI⟩;exact⟨Ga,d,f2,N',F',n1,he,hI,ME,hl,.inr ⟨nR,rfl,s2.trans s3⟩⟩
end
section
structure FD where
 fb:Nat
 mb:Nat
 N:List T.NV
 F:T.aC
 ar:Int
noncomputable def FD.rows (A:FD):List T.CH:=T.rowsOf A.F A.ar A.N
def FD.ok (A:FD):Prop:=T.jx A.N A.F A.ar
def mr (w0 w:World) (A B C:FD) (l:List T.aI):Prop:=
 ∃ra rb rc,T.fG A.F ra/\T.fG B.F rb/\T.fG C.F rc/\T.H0 w0 w (T.gR A.fb A.mb A.N A.ar ra (T.gR B.fb B.mb B.N B.ar rb (T.gR C.fb C.mb C.N C.ar rc l)))
def xG (w0 w':World) (A B C:FD) (l:List T.aI) (q:Prop) (e:Ending):Prop:=∃b:Bool,e=.returned (.bool b)/\(q->b=true)/\mr w0 w' A B C l
variable {w0 w:World} {A B C:FD} {l:List T.aI}
theorem mr.ca (hR:bF w0) (hA:A.ok) (hC:C.ok) (h:mr w0 w A B C l):
 Calls prog 11 #[.pointer (some ⟨C.fb,0,none⟩),.pointer (some ⟨A.fb,0,none⟩)] w fun e w'=>xG w0 w' A B C l (A.rows.Perm C.rows) e:=by
 obtain⟨ra,rb,rc,fa,fb,fc,h1⟩:=h;have k:T.H0 w0 w (T.gR C.fb C.mb C.N C.ar rc (T.gR A.fb A.mb A.N A.ar ra (T.gR B.fb B.mb B.N B.ar rb l))):=eD h1 (fun x=>by simp only[T.ax,T.ay];omega) (fun r hr=>by grind);refine(rz hR k fc fa hC hA).mono ?_;rintro e w' ⟨b,rc2,ra2,he,hq,fc2,fa2,h2⟩;exact⟨b,he,hq,ra2,rb,rc2,fa2,fb,fc2,eD h2 (fun x=>by simp only[T.ax,T.ay];omega) (fun r hr=>by grind)⟩
theorem mr.cb (hR:bF w0) (hB:B.ok) (hC:C.ok) (h:mr w0 w A B C l):
 Calls prog 11 #[.pointer (some ⟨C.fb,0,none⟩),.pointer (some ⟨B.fb,0,none⟩)] w fun e w'=>xG w0 w' A B C l (B.rows.Perm C.rows) e:=by
 obtain⟨ra,rb,rc,fa,fb,fc,h1⟩:=h;have k:T.H0 w0 w (T.gR C.fb C.mb C.N C.ar rc (T.gR B.fb B.mb B.N B.ar rb (T.gR A.fb A.mb A.N A.ar ra l))):=eD h1 (fun x=>by simp only[T.ax,T.ay];omega) (fun r hr=>by grind);refine(rz hR k fc fb hC hB).mono ?_;rintro e w' ⟨b,rc2,rb2,he,hq,fc2,fb2,h2⟩;exact⟨b,he,hq,ra,rb2,rc2,fa,fb2,fc2,eD h2 (fun x=>by simp only[T.ax,T.ay];omega) (fun r hr=>by grind)⟩
theorem jz.cells {W:World} {v:Value} {na:Nat} {fa:Nat->gC} (hA:jz W v na fa) {i:Nat} (hi:i<na):
 ∃b off c cp cn cc,v=.slice (some ⟨b,off,none⟩) na c/\(fa i).k<18446744073709551616/\∀wx,Below W.heap.size W wx->
  wx.cell? ⟨b,off+i*6,none⟩=some (.string (fa i).aA)/\wx.cell? ⟨b,off+i*6+1,none⟩=some (.string (fa i).s)/\wx.cell? ⟨b,off+i*6+2,none⟩=some (.string (fa i).t)/\
  wx.cell? ⟨b,off+i*6+3,none⟩=some (.int .i64 (fa i).n)/\wx.cell? ⟨b,off+i*6+4,none⟩=some (.int .u64 ((fa i).k:Int))/\wx.cell? ⟨b,off+i*6+5,none⟩=some (.slice cp cn cc):=by
 rcases hA with⟨_,h0⟩|⟨b,off,c,hv,Oy,qD,ct⟩
 ·omega
 obtain⟨p0,p1,p2,p3,p4,p5,pch,_,pk⟩:=ct i hi;obtain⟨cp,cc,mw⟩:=pch.slice;rw[mw]at p5;refine⟨b,off,c,cp,(fa i).cn,cc,hv,pk,fun wx below=>?_⟩;have pW:∀p:Addr,p.block=b->wx.cell? p=W.cell? p:=fun p hp=>World.cell?_of_block (w:=W) (below.block p.block (by rw[hp];exact qD))
 exact⟨(pW _ rfl).trans p0,(pW _ rfl).trans p1,(pW _ rfl).trans p2,(pW _ rfl).trans p3,(pW _ rfl).trans p4,(pW _ rfl).trans p5⟩
end
end Go.Proofs.YtphcnmlbieokoaaGreatDoor.S
