import Derived.Test.YtphcnmlbieokoaaGreatDoorC23
set_option maxRecDepth 100000
set_option maxHeartbeats 16000000
set_option linter.unusedVariables false
set_option linter.unusedSimpArgs false
namespace Go.Proofs.YtphcnmlbieokoaaGreatDoor.S
open Go.RowKit Go.Lib List Go.Proofs.Tryz
theorem Uo (va:Value) (na:Nat) (fa:Nat->gC) (W:World) (hR:bF W) (hA:jz W va na fa):
 Calls prog 3 #[va] W fun e w'=>e=.returned (.bool true)/\Below W.heap.size W w':=by
 obtain⟨pv,cv,hv⟩:=hA.slice;subst hv;have hw:=nW hR (T.H0.start W);have hp:=fun w1 (h1:T.H0 W w1 [])=>qk hR h1 _ na fa hA
 have hL:=fun w1 (h1:T.H0 W w1 [])=>oI _ na fa w1 (hA.below (T.H0.below h1)) 60 (by decide)
 have HW:=aq hw;have HP:=aq hp;have HL:=aq hL;have HR:=aq hR;clear hw hp hL hR hA;go_enter func3,ntmps3;go_wp2_with fail;refine(an HW).mono ?_;rintro e w1 ⟨rfl,h1⟩;have Dm:=an HP w1 h1;have Tz:=aq Dm;clear Dm h1 HW HP;go_wp2_with fail;refine(an Tz).mono ?_;rintro e w2 (⟨rfl,hn,h2⟩|⟨db,mt,d,f1,N,F,ar,rfl,eO,h2,hl,pG⟩)
 ·have tm:=an HL w2 h2;have Uj:=aq tm;have Hb:=aq (T.H0.below h2);have Hn:=aq hn;clear tm h2 hn Tz HL;go_wp2_with fail;refine(an Uj).mono ?_;rintro e w3 ⟨⟨r,rfl,hr⟩,rfl⟩
  have XT:r=false:=by
   cases r with
   |false=>rfl
   |true=>exact absurd (hr.1 rfl) (an Hn)
  subst XT;clear hr Uj Hn;go_wp2_with fail;go_ret;exact⟨rfl,an Hb⟩
 have ho:=rM (an HR) h2 (cj h2.oR (by omega)) (by omega);have HO:=aq ho;have HG:=aq h2.oR;clear ho h2 hl pG eO Tz HL;go_wp2_with fail;refine(an HO).mono ?_;rintro e w3 ⟨mt3,N3,F3,sb,fb,mb,rs,rfl,hFr,Wn,h3⟩;have hf:=fC h3;have HF:=aq hf;have HFr:=aq hFr;have D3:=aq Wn;clear hf h3 hFr Wn HO;go_wp2_with fail;refine(an HF).mono ?_;rintro e w4 ⟨gb,N4,F4,rfl,gm,rs4,hF4,Dk,hG4,h4⟩;obtain⟨tp,k1,_⟩:=h4.back;have k2:T.H0 W w4 (mR mt sb fb mb N ar rs ((.cell gb 126 [.map (some gm),.int .i64 ar]::.obj gm (T.bU N4)::rs4)++tp)):=eD k1 (fun x=>by simp only[T.ax,T.ay];omega) (fun r hr=>by grind)
 have ME:=QU k2 (an HFr) (an HG);have J7:=aq ME;have H4:=aq (show T.fG F4 rs4/\T.eX N3 F3 N4 F4/\T.Good 60 N4 F4 ar from⟨hF4,Dk,hG4⟩);clear ME h4 k1 k2 hF4 Dk hG4 HF HFr;go_wp2_with fail;refine(an J7).mono ?_;rintro e w5 ⟨gb5,N5,F5,rs5,rfl,hFr5,gm5,rs5',hF5,Zf,hG5,h5⟩;have k5:T.H0 W w5 (T.gR gb gm N4 ar rs4 (T.gR gb5 gm5 N5 ar rs5' tp)):=eD h5 (fun x=>by simp only[T.ax,T.ay];omega) (fun r hr=>by grind);have pV:=rz (an HR) k5 (an H4).1 hF5 (cj (an H4).2.2 (by omega)) (cj hG5 (by omega))
 have Cb:(T.rowsOf F5 ar N5).Perm (T.rowsOf F4 ar N4):=(Zf.rows ar).trans (((an D3).trans (an H4).2.1).rows ar).symm;have PA:=aq pV;have wg:=aq Cb;clear pV Cb k5 h5 hFr5 hF5 Zf hG5 J7 H4 D3 HG;go_wp2_with fail;refine(an PA).mono ?_;rintro e w6 ⟨b,TR,TQ,rfl,hb,_,_,h6⟩;have zz:b=true:=hb (an wg);subst zz;have Hb:=aq (T.H0.below h6);clear hb h6 PA wg;go_wp2_with fail;go_ret;exact⟨rfl,an Hb⟩
end Go.Proofs.YtphcnmlbieokoaaGreatDoor.S
