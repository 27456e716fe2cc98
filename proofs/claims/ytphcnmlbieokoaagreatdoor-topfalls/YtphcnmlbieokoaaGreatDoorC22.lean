import Derived.Test.YtphcnmlbieokoaaGreatDoorC20
import Derived.Test.YtphcnmlbieokoaaGreatDoorC21
set_option maxRecDepth 100000
set_option maxHeartbeats 16000000
set_option linter.unusedVariables false
set_option linter.unusedSimpArgs false
namespace Go.Proofs.YtphcnmlbieokoaaGreatDoor.S
open Go.RowKit Go.Lib List Go.Proofs.Tryz
section
theorem eD {w0 w:World} {l l':List T.aI} (h:T.H0 w0 w l) (ht:∀x,T.total l' x<=T.total l x) (hm:∀r∈l',r∈l):T.H0 w0 w l':=
 T.aw.conv h ht fun r hr=>h.sat r (hm r hr)
structure zk (L:List bn) (k:Nat) (N:List T.NV) (F:T.aC) (ar:Int):Prop where
 perm:L.Perm (T.rowsOf F ar N)
 up:L.Pairwise fun a b=>¬T.dR b.az a.az
 oR:T.Good k N F ar
abbrev mR (mt sb fb mb:Nat) (N:List T.NV) (ar:Int) (rs l:List T.aI):List T.aI:=.cell mt 62 [.pointer (some ⟨sb,0,none⟩),.pointer (some ⟨fb,0,none⟩)]::.cell fb 126 [.map (some mb),.int .i64 ar]::.obj mb (T.bU N)::(rs++l)
def jZ (w0 w:World) (db mt:Nat) (d:DK) (k f1:Nat) (N:List T.NV) (F:T.aC) (ar:Int) (l:List T.aI):Prop:=
 ∃sb fb mb rs av L,T.fG F rs/\zk L k N F ar/\fN w0 w db sb d f1 av L (mR mt sb fb mb N ar rs l)
variable {w0 w w':World} {db mt:Nat} {d:DK} {k f1:Nat} {N:List T.NV} {F:T.aC} {ar:Int} {l:List T.aI}
def Fs2 (w0 w:World) (gb:Nat) (k:Nat) (N:List T.NV) (F:T.aC) (ar:Int) (N':List T.NV) (F':T.aC) (P:List T.aI->Prop):Prop:=
 ∃gm rs',T.fG F' rs'/\T.eX N F N' F'/\T.Good k N' F' ar/\P (.cell gb 126 [.map (some gm),.int .i64 ar]::.obj gm (T.bU N')::rs')
theorem QU {sb fb mb:Nat} {rs:List T.aI} (h1:T.H0 w0 w (mR mt sb fb mb N ar rs l)) (hF:T.fG F rs) (hG:T.Good k N F ar):
 Calls prog 12 #[.pointer (some ⟨mt,0,none⟩)] w fun e w'=>∃gb N' F' oY,e=.returned (.pointer (some ⟨gb,0,none⟩))/\T.fG F oY/\Fs2 w0 w' gb k N F ar N' F' fun gs=>T.H0 w0 w' (mR mt sb fb mb N ar oY (gs++l)):=by
 have h3:T.aJ w0 w fb mb N F ar (.cell mt 62 [.pointer (some ⟨sb,0,none⟩),.pointer (some ⟨fb,0,none⟩)]::l):=⟨rs,hF,eD h1 (fun x=>by simp only[T.ax,T.ay];omega) (fun r hr=>by grind)⟩;have q1:w.cell? ⟨mt,1,none⟩=some (.pointer (some ⟨fb,0,none⟩)):=T.aw.cellAt h1 ae (j:=1) rfl;have hc:=T.vP h3 hG.fits hG.whole.linked.nodup;have HC:=aq hc;have HG:=aq hG;clear hc h1 h3 hF hG;go_enter func12,ntmps12;go_wp2_with fail;refine(an HC).mono ?_;rintro e w1 ⟨gb,gm,N',F',acc,rs',rfl,hp,ht,hd,OK,oY,hF2,h4⟩
 have h5:T.H0 w0 w1 (mR mt sb fb mb N ar oY ((.cell gb 126 [.map (some gm),.int .i64 ar]::.obj gm (T.bU N')::rs')++l)):=eD h4 (fun x=>by simp only[T.ax,T.ay];omega) (fun r hr=>by grind)
 have hn:(F'.map (·.1)).Nodup:=OK.nodup fun x=>by have:=T.aw.uniq h4 x;simp only[T.ax,T.ay]at this;omega
 have HE:=aq (show T.fG F oY/\Fs2 w0 w1 gb k N F ar N' F' fun gs=>T.H0 w0 w1 (mR mt sb fb mb N ar oY (gs++l))from
  ⟨hF2,gm,rs',OK,T.qe (an HG).whole.linked.nodup hp ht,(an HG).copy hp ht hd hn,h5⟩)
 clear h4 h5 hn hp ht hd OK hF2 HC HG q1;go_wp2_with fail;go_ret;exact⟨gb,N',F',oY,rfl,an HE⟩
theorem fC (h:jZ w0 w db mt d k f1 N F ar l):
 Calls prog 12 #[.pointer (some ⟨mt,0,none⟩)] w fun e w'=>∃gb N' F',e=.returned (.pointer (some ⟨gb,0,none⟩))/\Fs2 w0 w' gb k N F ar N' F' fun gs=>jZ w0 w' db mt d k f1 N F ar (gs++l):=by
 obtain⟨sb,fb,mb,rs,av,L,hF,hM,hS⟩:=h;obtain⟨tp,h1,h2⟩:=hS.back;have h3:T.H0 w0 w (mR mt sb fb mb N ar rs (l++tp)):=eD h1 (fun x=>by simp only[T.ax,T.ay];omega) (fun r hr=>by grind);refine(QU h3 hF hM.oR).mono ?_;rintro e w' ⟨gb,N',F',oY,he,hF2,gm,rs',k1,k2,k3,k4⟩;exact⟨gb,N',F',he,gm,rs',k1,k2,k3,sb,fb,mb,oY,av,L,hF2,hM,h2 _ _ (eD k4 (fun x=>by simp only[T.ax,T.ay];omega) (fun r hr=>by grind))⟩
theorem Kf (h:jZ w0 w db mt d k f1 N F ar l) (hf:f1<=700000) (hl:d.left<0):
 Calls prog 21 #[.pointer (some ⟨mt,0,none⟩)] w fun e w'=>e=.returned .nilIface/\∃d' kc,jZ w0 w' db mt d' k kc N F ar l/\kc<=f1+100/\d'.left=d.left:=by
 obtain⟨sb,fb,mb,rs,av,L,hF,hM,hS⟩:=h;have q0:w.cell? ⟨mt,0,none⟩=some (.pointer (some ⟨sb,0,none⟩)):=T.aw.cellAt hS.hold ae (j:=0) rfl;have hc:=hS.check hf;have HC:=aq hc;have HM:=aq hM;have HF:=aq hF;have Hl:=aq hl;clear hc hS hF hM hl;go_enter func21,ntmps21;go_wp2_with fail;refine(an HC).mono ?_;rintro e w1 (⟨rfl,d',kc,h1,h2,h3⟩|⟨_,h1,_⟩)
 ·have HE:=aq (show ∃d' kc,jZ w0 w1 db mt d' k kc N F ar l/\kc<=f1+100/\d'.left=d.left from⟨d',kc,⟨sb,fb,mb,rs,0,L,an HF,an HM,h1⟩,h2,h3 (an Hl)⟩);clear h1 h2 h3 HC HM HF Hl q0;go_wp2_with fail;go_ret;exact⟨rfl,an HE⟩
 ·have:=an Hl;omega
theorem qo {av:Nat} {L:List bn} (hR:bF w0) (hM:zk L k N F ar) (hO:T.jx N F ar) (hc:Calls prog 23 #[.pointer (some ⟨db,0,none⟩)] w fun e w'=>∃PM,e=.returned (.tuple #[.pointer (some ⟨PM,0,none⟩),.nilIface])/\fN w0 w' db PM d f1 av L l):
 Calls prog 10 #[.pointer (some ⟨db,0,none⟩)] w fun e w'=>∃Ga N' F',e=.returned (.tuple #[.pointer (some ⟨Ga,0,none⟩),.nilIface])/\T.eX N F N' F'/\jZ w0 w' db Ga d k f1 N' F' ar l:=by
 have HC:=aq hc;have HM:=aq hM;have HO:=aq hO;have HR:=aq hR;clear hc hM hO hR;go_enter func10,ntmps10;go_wp2_with fail;refine(an HC).mono ?_;rintro e w1 ⟨Uw,rfl,h1⟩;have hr:=h1.rows;have J5:=aq hr;clear h1 hr HC;go_wp2_with fail;refine(an J5).mono ?_;rintro e w2 ⟨v,rfl,h2⟩;obtain⟨tp,k1,k2⟩:=h2.back;have hp:=T.l8 (an HR) (an HM).oR.whole (an HO) k1 (va:=v) (R:=L) ae (an HM).perm (an HM).up;have HP:=aq hp;have K2:=aq k2;clear h2 k1 k2 hp J5;go_wp2_with fail;refine(an HP).mono ?_;rintro e w3 ⟨gb,gm,N',F',acc,rfl,hp,ht,hd,rs3,hF3,h3⟩
 have hn:(F'.map (·.1)).Nodup:=hF3.nodup fun x=>by have:=T.aw.uniq h3 x;simp only[T.ax,T.ay]at this;omega
 have eU:L.Perm (T.rowsOf F' ar N'):=(an HM).perm.trans (by rw[T.qa ht];exact(T.kj hp).symm);have aaH:zk L k N' F' ar:=⟨eU,(an HM).up,(an HM).oR.copy hp ht hd hn⟩;have IJ:=T.qe (an HM).oR.whole.linked.nodup hp ht;obtain⟨B,hB⟩:=aa w3.heap.size;have h4:=T.aw.aY h3 (T.H0.below h3).size 62 [.pointer (some ⟨Uw,0,none⟩),.pointer (some ⟨gb,0,none⟩)];rw[hB]at h4;have h5:=an K2 _ (mR B Uw gb gm N' ar rs3 l) (eD h4 (fun x=>by simp only[T.ax,T.ay];omega) (fun r hr=>by grind))
 have HE:=aq (show T.eX N F N' F'/\jZ w0 (w3.alloc (.cells [Value.pointer (some ⟨Uw,0,none⟩),.pointer (some ⟨gb,0,none⟩)].toArray 62)) db B d k f1 N' F' ar l from⟨IJ,Uw,gb,gm,rs3,av,L,hF3,aaH,h5⟩);clear h3 h4 h5 hn hp ht hd eU aaH IJ hF3 HP K2 HM HO HR;go_wp2_with fail;go_ret2;exact⟨B,N',F',rfl,an HE⟩
theorem rM (hR:bF w0) (h:jZ w0 w db mt d k f1 N F ar l) (hO:T.jx N F ar) (hf:f1<=900000):
 Calls prog 10 #[.pointer (some ⟨db,0,none⟩)] w fun e w'=>∃Ga N' F' sb fb mb rs,e=.returned (.tuple #[.pointer (some ⟨Ga,0,none⟩),.nilIface])/\T.fG F rs/\T.eX N F N' F'/\jZ w0 w' db Ga d k f1 N' F' ar (mR mt sb fb mb N ar rs l):=by
 obtain⟨sb,fb,mb,rs,av,L,hF,hM,hS⟩:=h;exact(qo hR hM hO (hS.QG hf)).mono fun e w' ⟨Ga,N',F',he,h1,h2⟩=>⟨Ga,N',F',sb,fb,mb,rs,he,hF,h1,h2⟩
theorem jZ.re {l2:List T.aI} (h:jZ w0 w db mt d k f1 N F ar l) (ht:∀x,T.total l2 x<=T.total l x) (hm:∀r∈l2,r∈l):jZ w0 w db mt d k f1 N F ar l2:=by
 obtain⟨sb,fb,mb,rs,av,L,hF,hM,hS⟩:=h;obtain⟨tp,h1,h2⟩:=hS.back
 exact⟨sb,fb,mb,rs,av,L,hF,hM,h2 w _ (eD h1 (fun x=>by have:=ht x;simp only[T.ax,T.ay];omega) (fun r hr=>by
  simp only[mem_append,mem_cons]at hr ⊢
  rcases hr with(h|h|h|h|h)|h
  ·simp[h]
  ·simp[h]
  ·simp[h]
  ·simp[h]
  ·simp[hm r h]
  ·simp[h]))⟩
theorem jZ.aY (h:jZ w0 w db mt d k f1 N F ar l) (t:TypeId) (vs:List Value):jZ w0 (w.alloc (.cells vs.toArray t)) db mt d k f1 N F ar (.cell w.heap.size t vs::l):=by
 obtain⟨sb,fb,mb,rs,av,L,hF,hM,hS⟩:=h;obtain⟨tp,h1,h2⟩:=hS.back;have h3:=T.aw.aY h1 (T.H0.below h1).size t vs;exact⟨sb,fb,mb,rs,av,L,hF,hM,h2 _ _ (eD h3 (fun x=>by simp only[T.ax,T.ay];omega) (fun r hr=>by grind))⟩
theorem jZ.hold (h:jZ w0 w db mt d k f1 N F ar l):T.H0 w0 w l:=by
 obtain⟨sb,fb,mb,rs,av,L,hF,hM,hS⟩:=h;exact eD hS.hold (fun x=>by simp only[T.ax,T.ay];omega) (fun r hr=>by grind)
end
end Go.Proofs.YtphcnmlbieokoaaGreatDoor.S
namespace Go.Proofs.YtphcnmlbieokoaaGreatDoor.T
open Go.RowKit List Go.Proofs.Tryz
section
variable {w0 w:World} {fb mb:Nat} {N:List NV} {F:aC} {ar:Int} {r:aI} {l2:List aI} {k:Nat} {a:gC}
def DY (N:List NV) (F:aC) (ar:Int) (a:gC) (w0:World) (fb mb:Nat) (l2:List aI) (k:Nat) (e:Ending) (w':World):Prop:=∃ov,e=.returned ov/\(∃t v,ov=.iface t v∨ov=.nilIface)/\jy (oA N F ar a) w0 fb mb l2 k (.returned ov) w'
theorem aaG {R:Option Int->List NV->aC->Int->Prop} {e:Ending} {w2:World} (h:jy R w0 fb mb (r::l2) k e w2) (hR:∀o N' F' n',R o N' F' n'->oA N F ar a o N' F' n'):DY N F ar a w0 fb mb l2 k e w2:=by
 obtain⟨o,N',F',n',rfl,h2,g,hr⟩:=h;refine⟨bH o,rfl,?_,o,N',F',n',rfl,h2.aD [],g,hR _ _ _ _ hr⟩
 cases o with
 |none=>exact⟨0,.nilIface,.inr rfl⟩
 |some k=>exact⟨_,_,.inl rfl⟩
theorem aaA (hR:bF w0) (h:aJ w0 w fb mb N F ar (r::l2)) (hG:Good k N F ar) (hk:k<800) (a:gC) (hs:a.s.size<=4000000000) (ht:a.t.size<=4000000000):
 ((a.aA.toList==[109,107,100,105,114])=true->Calls prog 30 #[.pointer (some ⟨fb,0,none⟩),.string a.s] w fun e w'=>DY N F ar a w0 fb mb l2 (k+1) e w')/\
 ((a.aA.toList==[109,107,100,105,114])=false->(a.aA.toList==[99,114,101,97,116,101])=true->Calls prog 31 #[.pointer (some ⟨fb,0,none⟩),.string a.s,.string a.t] w fun e w'=>DY N F ar a w0 fb mb l2 (k+1) e w')/\
 ((a.aA.toList==[109,107,100,105,114])=false->(a.aA.toList==[99,114,101,97,116,101])=false->(a.aA.toList==[119,114,105,116,101])=true->Calls prog 32 #[.pointer (some ⟨fb,0,none⟩),.string a.s,.string a.t] w fun e w'=>DY N F ar a w0 fb mb l2 (k+1) e w')/\
 ((a.aA.toList==[109,107,100,105,114])=false->(a.aA.toList==[99,114,101,97,116,101])=false->(a.aA.toList==[119,114,105,116,101])=false->(a.aA.toList==[108,105,110,107])=true->Calls prog 33 #[.pointer (some ⟨fb,0,none⟩),.string a.s,.string a.t] w fun e w'=>DY N F ar a w0 fb mb l2 (k+1) e w')/\
 ((a.aA.toList==[109,107,100,105,114])=false->(a.aA.toList==[99,114,101,97,116,101])=false->(a.aA.toList==[119,114,105,116,101])=false->(a.aA.toList==[108,105,110,107])=false->(a.aA.toList==[114,109])=true->Calls prog 34 #[.pointer (some ⟨fb,0,none⟩),.string a.s,.bool false] w fun e w'=>DY N F ar a w0 fb mb l2 (k+1) e w')/\
 ((a.aA.toList==[109,107,100,105,114])=false->(a.aA.toList==[99,114,101,97,116,101])=false->(a.aA.toList==[119,114,105,116,101])=false->(a.aA.toList==[108,105,110,107])=false->(a.aA.toList==[114,109])=false->(a.aA.toList==[114,109,100,105,114])=true->Calls prog 34 #[.pointer (some ⟨fb,0,none⟩),.string a.s,.bool true] w fun e w'=>DY N F ar a w0 fb mb l2 (k+1) e w')/\
 ((a.aA.toList==[109,107,100,105,114])=false->(a.aA.toList==[99,114,101,97,116,101])=false->(a.aA.toList==[119,114,105,116,101])=false->(a.aA.toList==[108,105,110,107])=false->(a.aA.toList==[114,109])=false->(a.aA.toList==[114,109,100,105,114])=false->(a.aA.toList==[109,118])=true->Calls prog 35 #[.pointer (some ⟨fb,0,none⟩),.string a.s,.string a.t] w fun e w'=>DY N F ar a w0 fb mb l2 (k+1) e w')/\
 ((a.aA.toList==[109,107,100,105,114])=false->(a.aA.toList==[99,114,101,97,116,101])=false->(a.aA.toList==[119,114,105,116,101])=false->(a.aA.toList==[108,105,110,107])=false->(a.aA.toList==[114,109])=false->(a.aA.toList==[114,109,100,105,114])=false->(a.aA.toList==[109,118])=false->∀w',aJ w0 w' fb mb N F ar (r::l2)->jy (oA N F ar a) w0 fb mb l2 (k+1) (.returned .nilIface) w'):=by
 refine⟨?_,?_,?_,?_,?_,?_,?_,?_⟩
 ·intro Gs;exact(Ih hR h hG hk a.s hs).mono fun e w' h=>aaG h fun o N' F' n' hr=>by unfold oA;rw[if_pos Gs];exact hr
 ·intro Gs Gt;exact(DQ hR h hG hk a.s a.t hs ht).mono fun e w' h=>aaG h fun o N' F' n' hr=>by unfold oA;rw[if_neg (by rw[Gs];decide),if_pos Gt];exact hr
 ·intro Gs Gt mg;exact(Gp hR h hG hk a.s a.t hs ht).mono fun e w' h=>aaG h fun o N' F' n' hr=>by unfold oA;rw[if_neg (by rw[Gs];decide),if_neg (by rw[Gt];decide),if_pos mg];exact hr
 ·intro Gs Gt mg uF;exact(Mi hR h hG hk a.s a.t hs ht).mono fun e w' h=>aaG h fun o N' F' n' hr=>by unfold oA;rw[if_neg (by rw[Gs];decide),if_neg (by rw[Gt];decide),if_neg (by rw[mg];decide),if_pos uF];exact hr
 ·intro Gs Gt mg uF Gi;exact(sK hR h hG hk a.s hs false).mono fun e w' h=>aaG h fun o N' F' n' hr=>by unfold oA;rw[if_neg (by rw[Gs];decide),if_neg (by rw[Gt];decide),if_neg (by rw[mg];decide),if_neg (by rw[uF];decide),if_pos Gi];exact hr
 ·intro Gs Gt mg uF Gi A8;exact(sK hR h hG hk a.s hs true).mono fun e w' h=>aaG h fun o N' F' n' hr=>by unfold oA;rw[if_neg (by rw[Gs];decide),if_neg (by rw[Gt];decide),if_neg (by rw[mg];decide),if_neg (by rw[uF];decide),if_neg (by rw[Gi];decide),if_pos A8];exact hr
 ·intro Gs Gt mg uF Gi A8 zP;exact(C2 hR h hG hk a.s a.t hs ht).mono fun e w' h=>aaG h fun o N' F' n' hr=>by unfold oA;rw[if_neg (by rw[Gs];decide),if_neg (by rw[Gt];decide),if_neg (by rw[mg];decide),if_neg (by rw[uF];decide),if_neg (by rw[Gi];decide),if_neg (by rw[A8];decide),if_pos zP];exact hr
 ·intro Gs Gt mg uF Gi A8 zP w' h;exact⟨none,N,F,ar,rfl,h.aD [],hG.mono (by omega),by unfold oA;rw[if_neg (by rw[Gs];decide),if_neg (by rw[Gt];decide),if_neg (by rw[mg];decide),if_neg (by rw[uF];decide),if_neg (by rw[Gi];decide),if_neg (by rw[A8];decide),if_neg (by rw[zP];decide)];exact⟨rfl,rfl,rfl,rfl⟩⟩
end
theorem O9 {w0 w:World} {fb mb:Nat} {N:List NV} {F:aC} {ar:Int} {l2:List aI} {k:Nat} (hR:bF w0) (h:aJ w0 w fb mb N F ar l2) (hG:Good k N F ar) (hk:k<800) (a:gC) (uk:Int) (cp:Option Addr) (cn cc:Nat) (hs:a.s.size<=4000000000) (ht:a.t.size<=4000000000):
 Calls prog 29 #[.pointer (some ⟨fb,0,none⟩),.agg #[.string a.aA,.string a.s,.string a.t,.int .i64 a.n,.int .u64 uk,.slice cp cn cc]] w fun e w'=>jy (oA N F ar a) w0 fb mb l2 (k+1) e w':=by
 obtain⟨B,hB⟩:=aa w.heap.size;have h1:=h.aY 40 [.string a.aA,.string a.s,.string a.t,.int .i64 a.n,.int .u64 uk,.slice cp cn cc];rw[hB]at h1;obtain⟨f1,f2,f3,f4,f5,f6,f7,f8⟩:=aaA hR h1 hG hk a hs ht;clear h hG hR
 cases Gs:a.aA.toList==[109,107,100,105,114]with
 |true=>have HC:=aq (f1 Gs);clear f1 f2 f3 f4 f5 f6 f7 f8 h1;go_enter func29,ntmps29;go_wp2_with fail;refine(an HC).mono ?_;rintro e w2 ⟨ov,rfl,uB,h2⟩;have H2:=aq h2;clear h2 HC;go_wp2_with fail;go_ret;exact an H2
 |false=>
 cases Gt:a.aA.toList==[99,114,101,97,116,101]with
 |true=>have HC:=aq (f2 Gs Gt);clear f1 f2 f3 f4 f5 f6 f7 f8 h1;go_enter func29,ntmps29;go_wp2_with fail;refine(an HC).mono ?_;rintro e w2 ⟨ov,rfl,uB,h2⟩;have H2:=aq h2;clear h2 HC;go_wp2_with fail;go_ret;exact an H2
 |false=>
 cases mg:a.aA.toList==[119,114,105,116,101]with
 |true=>have HC:=aq (f3 Gs Gt mg);clear f1 f2 f3 f4 f5 f6 f7 f8 h1;go_enter func29,ntmps29;go_wp2_with fail;refine(an HC).mono ?_;rintro e w2 ⟨ov,rfl,uB,h2⟩;have H2:=aq h2;clear h2 HC;go_wp2_with fail;go_ret;exact an H2
 |false=>
 cases uF:a.aA.toList==[108,105,110,107]with
 |true=>have HC:=aq (f4 Gs Gt mg uF);clear f1 f2 f3 f4 f5 f6 f7 f8 h1;go_enter func29,ntmps29;go_wp2_with fail;refine(an HC).mono ?_;rintro e w2 ⟨ov,rfl,uB,h2⟩;have H2:=aq h2;clear h2 HC;go_wp2_with fail;go_ret;exact an H2
 |false=>
 cases Gi:a.aA.toList==[114,109]with
 |true=>
  have HC:=aq (f5 Gs Gt mg uF Gi);clear f1 f2 f3 f4 f5 f6 f7 f8 h1
  have A8:(a.aA.toList==[114,109,100,105,114])=false:=by rw[show a.aA.toList=[114,109]by simpa using Gi];rfl
  go_enter func29,ntmps29;go_wp2_with fail;refine(an HC).mono ?_;rintro e w2 ⟨ov,rfl,uB,h2⟩;have H2:=aq h2;clear h2 HC;go_wp2_with fail;go_ret;exact an H2
 |false=>
 cases A8:a.aA.toList==[114,109,100,105,114]with
 |true=>have HC:=aq (f6 Gs Gt mg uF Gi A8);clear f1 f2 f3 f4 f5 f6 f7 f8 h1;go_enter func29,ntmps29;go_wp2_with fail;refine(an HC).mono ?_;rintro e w2 ⟨ov,rfl,uB,h2⟩;have H2:=aq h2;clear h2 HC;go_wp2_with fail;go_ret;exact an H2
 |false=>
 cases zP:a.aA.toList==[109,118]with
 |true=>have HC:=aq (f7 Gs Gt mg uF Gi A8 zP);clear f1 f2 f3 f4 f5 f6 f7 f8 h1;go_enter func29,ntmps29;go_wp2_with fail;refine(an HC).mono ?_;rintro e w2 ⟨ov,rfl,uB,h2⟩;have H2:=aq h2;clear h2 HC;go_wp2_with fail;go_ret;exact an H2
 |false=>
 have H1:=aq (f8 Gs Gt mg uF Gi A8 zP _ h1);clear f1 f2 f3 f4 f5 f6 f7 f8 h1;go_enter func29,ntmps29;go_wp2_with fail;go_ret;exact an H1
end Go.Proofs.YtphcnmlbieokoaaGreatDoor.T
namespace Go.Proofs.YtphcnmlbieokoaaGreatDoor.S
open Go.RowKit Go.Lib List Go.Proofs.Tryz
section
theorem ON {k:Nat} {N:List T.NV} {F:T.aC} {ar:Int} (h:T.Good k N F ar) (hk:k<=61):(T.rowsOf F ar N).length<=1000:=by
 have hw:=h.whole
 have lj:∀v∈N,(T.bo F v).length<=k:=fun v hv=>by
  unfold T.bo
  split
  ·rename_i ji
   obtain⟨tb,jh,ht⟩:=hw.tree v hv ji;unfold T.bp;rw[jh];exact h.ix.look tb
  ·simp
 have h1:=T.Bk F k N lj;have h2:=h.fits.ix
 show(N.flatMap (T.cY F)).length+1<=1000;have h3:N.length*(k+1)<=16*62:=Nat.mul_le_mul h2 (by omega);omega
theorem cj {k:Nat} {N:List T.NV} {F:T.aC} {ar:Int} (h:T.Good k N F ar) (hk:k<=61):T.jx N F ar:=h.QB (by omega) (ON h hk)
theorem Vj {w0 w w':World} {l rs:List T.aI} (h:T.H0 w0 w l) (hr:T.H0 w w' rs):T.H0 w0 w' (rs++l):=by
 have:=aw.join (oe.2 h) (oe.2 hr);rw[<-map_append]at this;exact oe.1 this
def Pr (a:T.gC) (uk:Int) (cp:Option Addr) (cn cc:Nat):List Value:=[.string a.aA,.string a.s,.string a.t,.int .i64 a.n,.int .u64 uk,.slice cp cn cc]
variable {w0 w w':World} {db mt:Nat} {d:DK} {k f1:Nat} {N N':List T.NV} {F F':T.aC} {ar:Int} {l l2:List T.aI}
theorem Pd {fb mb ab:Nat} (hR:bF w0) (h:T.aJ w0 w fb mb N F ar l2) (hG:T.Good k N F ar) (hk:k<800) (a:T.gC) (uk:Int) (cp:Option Addr) (cn cc:Nat) (hm:T.aI.cell ab 40 (Pr a uk cp cn cc)∈l2) (hs:a.s.size<=4000000000) (ht:a.t.size<=4000000000):
 Calls prog 28 #[.pointer (some ⟨fb,0,none⟩),.pointer (some ⟨ab,0,none⟩)] w fun e w'=>T.jy (T.oA N F ar a) w0 fb mb l2 (k+1) e w':=by
 have hc:=T.O9 hR h hG hk a uk cp cn cc hs ht;obtain⟨rs,_,H⟩:=h;have y9:T.aI.cell ab 40 (Pr a uk cp cn cc)∈.cell fb 126 [.map (some mb),.int .i64 ar]::.obj mb (T.bU N)::(rs++l2):=by grind
 have c0:w.cell? ⟨ab,0,none⟩=some (.string a.aA):=T.aw.cellAt H y9 (j:=0) rfl;have c1:w.cell? ⟨ab,1,none⟩=some (.string a.s):=T.aw.cellAt H y9 (j:=1) rfl;have c2:w.cell? ⟨ab,2,none⟩=some (.string a.t):=T.aw.cellAt H y9 (j:=2) rfl;have c3:w.cell? ⟨ab,3,none⟩=some (.int .i64 a.n):=T.aw.cellAt H y9 (j:=3) rfl;have c4:w.cell? ⟨ab,4,none⟩=some (.int .u64 uk):=T.aw.cellAt H y9 (j:=4) rfl;have c5:w.cell? ⟨ab,5,none⟩=some (.slice cp cn cc):=T.aw.cellAt H y9 (j:=5) rfl;have HC:=aq hc;clear hc H hm y9 hG hR;go_enter func28,ntmps28
 go_wp2_with fail
 refine(an HC).mono ?_;intro e w2 hE;have HE:=aq hE;obtain⟨o,N1,F1,n1,rfl,_⟩:=hE;obtain⟨ov,eK⟩:=aa (Go.Proofs.YtphcnmlbieokoaaGreatDoor.bH o)
 have uB:∃t v,ov=Value.iface t v∨ov=Value.nilIface:=by
  rw[<-eK];cases o with
  |none=>exact⟨0,.nilIface,.inr rfl⟩
  |some k=>exact⟨_,_,.inl rfl⟩
 rw[eK]at HE ⊢;clear eK HC c0 c1 c2 c3 c4 c5;go_wp2_with fail;go_ret;exact an HE
def B3 (w0 w':World) (db mt:Nat) (d:DK) (k f1:Nat) (N:List T.NV) (F:T.aC) (ar:Int) (a:T.gC) (l:List T.aI) (e:Ending):Prop:=
 ∃o N' F' N1 F1 n1,T.eX N F N' F'/\T.Good k N' F' ar/\T.oA N' F' ar a o N1 F1 n1/\
  ((∃t v,e=.returned (.iface t v)/\jZ w0 w' db mt d k f1 N F ar l/\(o≠none∨∃L R j,zk L k N F ar/\zk R (k+1) N1 F1 n1/\cM 20 L (dA L R)=some j))∨
   (o=none/\e=.returned .nilIface/\∃N2 F2 d' kc,T.eX N1 F1 N2 F2/\jZ w0 w' db mt d' (k+1) kc N2 F2 n1 l/\kc<=f1+100/\(d.left<0->d'.left=d.left))∨
   (o=none/\(∃t v,e=.returned (.iface t v))/\¬d.left<0/\∃d' L R,zk L k N F ar/\zk R (k+1) N1 F1 n1/\jg w0 w' db d' l/\lT d' 110 (f1+100) fun L'=>L'=L∨L'=R))
theorem ki {L:List bn} {k:Nat} {N:List T.NV} {F:T.aC} {ar:Int} (h:zk L k N F ar) (hk:k<=61):bf L/\(∀y∈L,y.gone=false)/\L.length<=1000:=by
 have hO:=cj h.oR hk;have aaR:(L.map T.CH.az).Nodup:=(h.perm.map T.CH.az).nodup_iff.2 hO.keys;refine⟨?_,fun y hy=>?_,by rw[h.perm.length_eq];exact hO.aF⟩
 ·have h1:L.Pairwise fun a b=>a.az≠b.az:=pairwise_map.1 aaR
  refine(h.up.and h1).imp fun {a b} ⟨h2,h3⟩=>?_
  rcases mH a.az b.az with h4|h4|h4
  ·exact h4
  ·exact absurd h4 h3
  ·exact absurd h4 h2
 ·have h1:=h.perm.mem_iff.1 hy
  rcases mem_cons.1 h1 with rfl|h1
  ·rfl
  ·obtain⟨v,_,h2⟩:=List.mem_flatMap.1 h1
   rcases T.oc h2 with rfl|⟨x,_,rfl⟩<;>rfl
theorem MU (n:Nat):∀A B:List bn,A.length+B.length=n->(dA A B).length<=n:=by
 induction n using Nat.strongRecOn with
 |_ n ih=>
 intro A B hn
 match A,B with
 |[],B=>rw[show dA [] B=B by unfold dA;rfl];simp at hn;omega
 |x::a,[]=>rw[dA];have:=ih a.length (by simp at hn;omega) a [] (by simp);simp at hn ⊢;omega
 |x::a,y::b=>
  have h1:=ih (a.length+(b.length+1)) (by simp at hn;omega) a (y::b) (by simp);have h2:=ih (a.length+1+b.length) (by simp at hn;omega) (x::a) b (by simp);have h3:=ih (a.length+b.length) (by simp at hn;omega) a b (by simp);rw[dA];simp at hn
  split
  ·simp;omega
  split
  ·simp;omega
  split
  ·omega
  ·simp;omega
theorem fN.eM {l l2:List T.aI} {sb av:Nat} {L:List bn} (h:fN w0 w db sb d f1 av L l) (ht:∀x,T.total l2 x<=T.total l x) (hm:∀r∈l2,r∈l):fN w0 w db sb d f1 av L l2:=by
 obtain⟨tp,h1,h2⟩:=h.back
 exact h2 w l2 (eD h1 (fun x=>by have:=ht x;simp only[T.ay];omega) (fun r hr=>by
  rcases mem_append.1 hr with hr|hr
  ·exact mem_append_left _ (hm r hr)
  ·exact mem_append_right _ hr))
theorem jg.eM {l l2:List T.aI} (h:jg w0 w db d l) (ht:∀x,T.total l2 x<=T.total l x) (hm:∀r∈l2,r∈l):jg w0 w db d l2:=by
 obtain⟨tp,h1,h2⟩:=h.back
 exact h2 w l2 (eD h1 (fun x=>by have:=ht x;simp only[T.ay];omega) (fun r hr=>by
  rcases mem_append.1 hr with hr|hr
  ·exact mem_append_left _ (hm r hr)
  ·exact mem_append_right _ hr))
theorem fN.ZF {sb fb mb hb hm av:Nat} {L:List bn} {rs oY:List T.aI} {N2:List T.NV} {n2:Int} (h:fN w0 w db sb d f1 av L (mR mt sb fb mb N ar rs ((.cell hb 126 [.map (some hm),.int .i64 n2]::.obj hm (T.bU N2)::oY)++l))):
 fN w0 (w.setCell ⟨mt,1,none⟩ (.pointer (some ⟨hb,0,none⟩))) db sb d f1 av L (mR mt sb hb hm N2 n2 oY l):=by
 obtain⟨tp,h1,h2⟩:=h.back
 have h3:T.H0 w0 (w.setCell ⟨mt,1,none⟩ (.pointer (some ⟨hb,0,none⟩))) ([]++.cell mt 62 [.pointer (some ⟨sb,0,none⟩),.pointer (some ⟨hb,0,none⟩)]::(.cell fb 126 [.map (some mb),.int .i64 ar]::.obj mb (T.bU N)::(rs++((.cell hb 126 [.map (some hm),.int .i64 n2]::.obj hm (T.bU N2)::oY)++l))++tp)):=
  T.aw.store [] h1 1 (.pointer (some ⟨hb,0,none⟩)) [.pointer (some ⟨sb,0,none⟩),.pointer (some ⟨hb,0,none⟩)] rfl
 exact h2 _ _ (eD h3 (fun x=>by simp only[nil_append,T.ax,T.ay];omega) (fun r hr=>by grind))
theorem NW (hR:bF w0) (h:jZ w0 w db mt d k f1 N F ar l) (hk:k<=60) (hf:f1<=700000) {ab:Nat} (a:T.gC) (uk:Int) (cp:Option Addr) (cn cc:Nat) (hm:T.aI.cell ab 40 (Pr a uk cp cn cc)∈l) (hs:a.s.size<=4000000000) (ht:a.t.size<=4000000000):
 Calls prog 27 #[.pointer (some ⟨mt,0,none⟩),.func (.func 28) #[] #[.pointer (some ⟨ab,0,none⟩)]] w fun e w'=>B3 w0 w' db mt d k f1 N F ar a l e:=by
 have hc:=fC h;have HC:=aq hc;have HR:=aq hR;have Hm:=aq hm;have mW:=aq (show a.s.size<=4000000000/\a.t.size<=4000000000 from⟨hs,ht⟩);clear hc h hR hm hs ht;go_enter func27,ntmps27;go_wp2_with fail;refine(an HC).mono ?_;rintro e w1 ⟨gb,N',F',rfl,gm,rs',OK,IJ,hG',sb,fb,mb,rs,av,L,hF,hM,hS⟩;obtain⟨tp,b1,b2⟩:=hS.back;have c1:T.aJ w0 w1 gb gm N' F' ar (.cell mt 62 [.pointer (some ⟨sb,0,none⟩),.pointer (some ⟨fb,0,none⟩)]::.cell fb 126 [.map (some mb),.int .i64 ar]::.obj mb (T.bU N)::(rs++(l++tp))):=⟨rs',OK,eD b1 (fun x=>by simp only[T.ax,T.ay];omega) (fun r hr=>by grind)⟩
 have UW:=an Hm;have hd:=Pd (an HR) c1 hG' (by omega) a uk cp cn cc (mem_cons_of_mem _ (mem_cons_of_mem _ (mem_cons_of_mem _ (mem_append_right _ (mem_append_left _ UW))))) (an mW).1 (an mW).2;have HD:=aq hd;have HF:=aq hF;have HM:=aq hM;have HB:=aq b2;have HS:=aq IJ;have HG:=aq hG';clear hd c1 b1 b2 hS hF hM OK IJ hG' UW HC;go_wp2_with fail;refine(an HD).mono ?_;rintro e w2 ⟨o,N1,F1,n1,rfl,h2,hG1,hDo⟩
 cases o with
 |some k9=>
  have HE:Hid (jZ w0 w2 db mt d k f1 N F ar l):=by obtain⟨rsx,_,h2'⟩:=h2;exact⟨sb,fb,mb,rs,av,L,an HF,an HM,an HB w2 _ (eD h2' (fun x=>by simp only[T.ax,T.ay];omega) (fun r hr=>by grind))⟩
  have zn:=aq hDo;clear h2 hDo hG1 HB HD HF HM;have e9:Go.Proofs.YtphcnmlbieokoaaGreatDoor.bH (some k9)=.iface 88 (.int .i64 k9):=rfl;rw[e9];clear e9;go_wp2_with fail;go_ret;exact⟨some k9,N',F',N1,F1,n1,an HS,an HG,an zn,.inl ⟨_,_,rfl,an HE,.inl (by simp)⟩⟩
 |none=>
 have OG:=T.vP h2 hG1.fits hG1.whole.linked.nodup;have HC2:=aq OG;have zn:=aq hDo;have Qd:=aq hG1;clear h2 hDo hG1 HD OG;have e9:Go.Proofs.YtphcnmlbieokoaaGreatDoor.bH none=.nilIface:=rfl;rw[e9];clear e9;go_wp2_with fail;refine(an HC2).mono ?_;rintro e w3 ⟨hb,hm9,N2,F2,acc,rs3,rfl,hp,ht2,vG,hF2,rsx,hFx,h3⟩
 have hn:(F2.map (·.1)).Nodup:=hF2.nodup fun x=>by have:=T.aw.uniq h3 x;simp only[T.ax,T.ay]at this;omega
 have kF:=(an Qd).copy hp ht2 vG hn;have yl:=T.qe (an Qd).whole.linked.nodup hp ht2;have htw:=T.qa (ar:=n1) ht2;have Zg:=T.kj (F:=F1) (ar:=n1) hp;have s3:=an HB w3 (mR mt sb fb mb N ar rs ((.cell hb 126 [.map (some hm9),.int .i64 n1]::.obj hm9 (T.bU N2)::rs3)++l)) (eD h3 (fun x=>by simp only[T.ax,T.ay];omega) (fun r hr=>by grind));have q0:w3.cell? ⟨mt,0,none⟩=some (.pointer (some ⟨sb,0,none⟩)):=T.aw.cellAt s3.hold ae (j:=0) rfl;have Gc:=s3.rows;have J5:=aq Gc;have Uk:=aq kF
 have xL:=aq yl;have J7:=aq hF2;have HPR:Hid (T.rowsOf F2 n1 N2=T.rowsOf F1 n1 acc/\(T.rowsOf F1 n1 acc).Perm (T.rowsOf F1 n1 N1)):=⟨htw,Zg⟩;clear h3 hn kF yl s3 Gc hp ht2 vG hF2 hFx HB HC2 htw Zg;go_wp2_with fail;refine(an J5).mono ?_;rintro e w4 ⟨v,rfl,h4⟩;obtain⟨tp2,k1,k2⟩:=h4.back;have f4:T.aJ w0 w4 hb hm9 N2 F2 n1 (T.cL v L::.cell mt 62 [.pointer (some ⟨sb,0,none⟩),.pointer (some ⟨fb,0,none⟩)]::.cell fb 126 [.map (some mb),.int .i64 ar]::.obj mb (T.bU N)::(rs++(l++tp2))):=⟨rs3,an J7,eD k1 (fun x=>by simp only[T.ax,T.ay];omega) (fun r hr=>by grind)⟩
 have kC:=T.lC (an HR) f4 (cj (an Uk) (by omega));have J6:=aq kC;have HK:=aq k2;clear h4 k1 k2 f4 kC J5 J7;go_wp2_with fail;refine(an J6).mono ?_;rintro e w5 ⟨v2,R,rfl,Wo,TU,rs5,hF5,h5⟩;have hMR:zk R (k+1) N2 F2 n1:=⟨Wo,TU,an Uk⟩;have abm:zk R (k+1) N1 F1 n1:=⟨by rw[(an HPR).1]at Wo;exact Wo.trans (an HPR).2,TU,an Qd⟩;obtain⟨lS,lg,ln⟩:=ki (an HM) (by omega);obtain⟨rS,rg,rn⟩:=ki hMR (by omega);have ha:=T.aw.sat h5 (T.cL v L) (by grind);have cC:=T.aw.sat h5 (T.cL v2 R) (by grind)
 have mw:=T.Js ha cC rfl rfl ln rn;have lX:=BI lS rS rg;have HCh:=aq mw;have H5:=aq h5;have HF5:=aq hF5;have HMR:=aq hMR;have VX:=aq abm;have zJ:=aq lX;clear ha cC mw lX h5 hF5 hMR abm lS lg rS rg Wo TU J6;go_wp2_with fail;refine(an HCh).mono ?_;rintro e w6 ⟨v3,rfl,h6⟩;have h7:=Vj (an H5) h6;obtain⟨C,hC⟩:=aa (dA L R);rw[hC]at h7;have TG:Hid (cT L C=R):=by have:=an zJ;rw[hC]at this;exact this
 have hCl:C.length<=2000:=by rw[<-hC];have:=MU _ L R rfl;omega
 obtain⟨p3,c3,hv3⟩:=T.jV (T.aw.sat h7 (T.cL v3 C) (by grind));have s7:=an HK w6 (mR mt sb fb mb N ar rs ((.cell hb 126 [.map (some hm9),.int .i64 n1]::.obj hm9 (T.bU N2)::rs5)++(T.cL v3 C::l))) (eD h7 (fun x=>by simp only[cons_append,nil_append,T.ax,T.ay];omega) (fun r hr=>by grind));have hmC:T.cL v3 C∈mR mt sb fb mb N ar rs ((.cell hb 126 [.map (some hm9),.int .i64 n1]::.obj hm9 (T.bU N2)::rs5)++(T.cL v3 C::l)):=mem_cons_of_mem _ (mem_cons_of_mem _ (mem_cons_of_mem _ (mem_append_right _ (mem_append_right _ ae))))
 have lJ:=s7.SP hf (vc:=v3) (R:=C) hmC (by omega);subst hv3;have LU:=aq lJ;have S7:=aq s7;have Gm:=aq hC;clear h6 h7 hC hmC lJ s7 HCh HK H5
 by_cases hC0:C.length=0
 ·have hLR:L=R:=by
   have h1:C=[]:=eq_nil_of_length_eq_zero hC0;have h2:=an TG;rw[h1]at h2;exact h2
  have c1:w6.cell? ⟨mt,1,none⟩=some (.pointer (some ⟨fb,0,none⟩)):=T.aw.cellAt (an S7).hold ae (j:=1) rfl;have f1z:=T.aw.frozenAt (an S7).hold ae 1;have s8:=fN.ZF (an S7);have HE:Hid (jZ w0 (w6.setCell ⟨mt,1,none⟩ (.pointer (some ⟨hb,0,none⟩))) db mt d (k+1) f1 N2 F2 n1 l):=⟨sb,hb,hm9,rs5,av,L,an HF5,by rw[hLR];exact an HMR,s8.eM (fun x=>by simp only[T.ax,T.ay];omega) (fun r hr=>by grind)⟩;clear s8 hLR LU S7 TG HMR VX HF5 zJ;rw[hC0];go_wp2_with fail;go_ret;exact⟨none,N',F',N1,F1,n1,an HS,an HG,an zn,.inr (.inl ⟨rfl,rfl,N2,F2,d,f1,an xL,an HE,by omega,fun _=>rfl⟩)⟩
 ·obtain⟨cl,tL⟩:=aa C.length;have q6:w6.cell? ⟨mt,0,none⟩=some (.pointer (some ⟨sb,0,none⟩)):=T.aw.cellAt (an S7).hold ae (j:=0) rfl;rw[tL]at hC0 LU ⊢;have zc:(0:Int)<(cl:Int):=by omega
  clear S7 tL hCl;go_wp2_with fail;refine(an LU).mono ?_;rintro e w7 (⟨k7,DX,rfl,h8⟩|⟨_,rfl,d',kc,h8,hf',Ww⟩|⟨_,rfl,AZ,d',h8,hfall⟩)
  ·have HE:Hid (jZ w0 w7 db mt d k f1 N F ar l):=⟨sb,fb,mb,rs,av,L,an HF,an HM,h8.eM (fun x=>by simp only[T.ax,T.ay];omega) (fun r hr=>by grind)⟩;have HJ:Hid (∃L R j,zk L k N F ar/\zk R (k+1) N1 F1 n1/\cM 20 L (dA L R)=some j):=⟨L,R,k7,an HM,an VX,by rw[an Gm];exact DX⟩;clear h8 LU DX;go_wp2_with fail;go_ret;exact⟨none,N',F',N1,F1,n1,an HS,an HG,an zn,.inl ⟨_,_,rfl,an HE,.inr (an HJ)⟩⟩
  ·rw[an TG]at h8;have c1:w7.cell? ⟨mt,1,none⟩=some (.pointer (some ⟨fb,0,none⟩)):=T.aw.cellAt h8.hold ae (j:=1) rfl;have f1z:=T.aw.frozenAt h8.hold ae 1;have s8:=fN.ZF h8;have HE:Hid (jZ w0 (w7.setCell ⟨mt,1,none⟩ (.pointer (some ⟨hb,0,none⟩))) db mt d' (k+1) kc N2 F2 n1 l):=⟨sb,hb,hm9,rs5,_,R,an HF5,an HMR,s8.eM (fun x=>by simp only[T.ax,T.ay];omega) (fun r hr=>by grind)⟩;have HL:=aq (show kc<=f1+100/\(d.left<0->d'.left=d.left)from⟨hf',Ww⟩);clear s8 h8 LU hf' Ww TG HMR VX HF5 zJ
   go_wp2_with fail
   go_ret;exact⟨none,N',F',N1,F1,n1,an HS,an HG,an zn,.inr (.inl ⟨rfl,rfl,N2,F2,d',kc,an xL,an HE,(an HL).1,(an HL).2⟩)⟩
  ·rw[an TG]at hfall;have HE:Hid (∃d' L R,zk L k N F ar/\zk R (k+1) N1 F1 n1/\jg w0 w7 db d' l/\lT d' 110 (f1+100) fun L'=>L'=L∨L'=R):=⟨d',L,R,an HM,an VX,h8.eM (fun x=>by simp only[T.ax,T.ay];omega) (fun r hr=>by grind),hfall⟩;have HN:=aq AZ;clear h8 hfall AZ LU;go_wp2_with fail;go_ret;exact⟨none,N',F',N1,F1,n1,an HS,an HG,an zn,.inr (.inr ⟨rfl,⟨_,_,rfl⟩,by have:=an HN;omega,an HE⟩)⟩
end
end Go.Proofs.YtphcnmlbieokoaaGreatDoor.S
