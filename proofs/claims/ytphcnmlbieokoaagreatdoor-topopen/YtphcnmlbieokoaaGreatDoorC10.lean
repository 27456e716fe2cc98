import Derived.Test.YtphcnmlbieokoaaGreatDoorC9
import Derived.ArgAppend
set_option maxRecDepth 100000
set_option maxHeartbeats 16000000
set_option linter.unusedVariables false
set_option linter.unusedSimpArgs false
namespace Go.Proofs.YtphcnmlbieokoaaGreatDoor.S
open Go.RowKit Go.Lib List Go.Proofs.Tryz
def eN (lb db:Nat) (from_ aF first av:Nat):aI:=.cell lb 227 [.pointer (some ⟨db,0,none⟩),.int .i64 from_,.int .i64 aF,.int .i64 first,.int .i64 av]
theorem Ao (lb:Nat) (aF av:Nat) (w:World) (hu:av<=aF) (hm:aF<=1000000) (q2:w.cell? ⟨lb,2,none⟩=some (.int .i64 aF)) (q4:w.cell? ⟨lb,4,none⟩=some (.int .i64 av)):
 Calls prog 166 #[.pointer (some ⟨lb,0,none⟩)] w fun e w'=>e=.returned (.int .i64 ((aF-av:Nat):Int))/\∃n,w'=w.drewN n:=by
 have he:((aF-av:Nat):Int)=(aF:Int)-(av:Int):=by omega
 rw[he];go_enter func166,ntmps166;go_wp2_with fail
 go_quiet (fail)
 go_wp2_with fail
 go_ret;exact⟨rfl,nq,rfl⟩
theorem Ks (lb:Nat) (aF first:Nat) (w:World) (hf:first<=1000000) (hm:aF<=1000000) (q2:w.cell? ⟨lb,2,none⟩=some (.int .i64 aF)) (q3:w.cell? ⟨lb,3,none⟩=some (.int .i64 first)):
 Calls prog 98 #[.pointer (some ⟨lb,0,none⟩)] w fun e w'=>e=.returned (.int .i64 ((first+aF:Nat):Int))/\∃n,w'=w.drewN n:=by
 have he:((first+aF:Nat):Int)=(first:Int)+(aF:Int):=by omega
 rw[he];go_enter func98,ntmps98;go_wp2_with fail
 go_quiet (fail)
 go_wp2_with fail
 go_ret;exact⟨rfl,nq,rfl⟩
theorem qn (lb:Nat) (first i:Nat) (w:World) (hf:first<=1000000) (hi:i<=1000000) (q3:w.cell? ⟨lb,3,none⟩=some (.int .i64 first)):
 Calls prog 214 #[.pointer (some ⟨lb,0,none⟩),.int .i64 i] w fun e w'=>e=.returned (.int .u32 ((first+i:Nat):Int))/\w'=w:=by
 have he:((first+i:Nat):Int)=(first:Int)+(i:Int):=by omega
 have hw:IntKind.u32.wrap ((first:Int)+(i:Int))=(first:Int)+(i:Int):=by rw[IntKind.wrap_u32];omega
 rw[he];go_enter func214,ntmps214;go_wp2_with fail;go_ret;exact⟨rfl,rfl⟩
def nP:List UInt8->Nat
 |[]=>0
 |b::r=>b.toNat+256*nP r
theorem zu:∀l:List UInt8,nP l<256^l.length
 |[]=>by simp[nP]
 |b::r=>by have h:=zu r;have hb:=b.toNat_lt;simp only[nP,length_cons,Nat.pow_succ];omega
theorem Xs (q b:Nat) (hq:q<16777216) (hb:b<256):bits .or .u32 ((q:Int)*256%4294967296) ((b:Int)%4294967296)=((b+256*q:Nat):Int):=by
 have h1:(q:Int)*256%4294967296=((q*256:Nat):Int):=by omega
 have h2:(b:Int)%4294967296=(b:Int):=by omega
 rw[h1,h2];unfold bits;simp only[BitVec.toNat_or,BitVec.ofInt_natCast,BitVec.toNat_ofNat];have h3:IntKind.u32.bits=32:=rfl;rw[h3,Nat.mod_eq_of_lt (by omega),Nat.mod_eq_of_lt (by omega)];have h4:=Nat.shiftLeft_add_eq_or_of_lt (i:=8) (b:=b) (by omega) q;rw[Nat.shiftLeft_eq]at h4;have h5:q*256 ||| b=q*256+b:=h4.symm;rw[h5,IntKind.wrap_u32];omega
theorem drop_at (s:ByteArray) (j:Nat) (h:j<s.size):s.data.toList.drop j=s[j]::s.data.toList.drop (j+1):=by
 rw[drop_eq_getElem_cons (by rw[Array.length_toList];exact h)];rfl
theorem nh (s:ByteArray) (hs:s.size<=4) (w:World):Calls prog 159 #[.string s] w fun e w'=>e=.returned (.int .u32 (nP s.data.toList:Int))/\∃n,w'=w.drewN n:=by
 go_enter func159,ntmps159;go_wp2_with fail
 go_loopg [3,4] (s.size+1) (fun g vn vi wr=>∃(k:Nat),k<g/\k<=s.size/\vi=.int .i64 ((k:Int)-1)/\vn=.int .u32 (nP (s.data.toList.drop k):Int)/\∃n,wr=w.drewN n)
 case atStart=>exact⟨s.size,by omega,by omega,rfl,by rw[drop_of_length_le (by rw[Array.length_toList];exact Nat.le_refl _)];rfl,0,rfl⟩
 case round=>
  obtain⟨k,hg,hk,rfl,rfl,nw,rfl⟩:=hrel
  rcases Nat.eq_zero_or_pos k with h0|h0
  ·subst h0;go_wp2_with fail;go_ret;exact⟨rfl,nw,rfl⟩
  ·obtain⟨j,rfl⟩:∃j,k=j+1:=⟨k-1,by omega⟩;have hj:((j+1:Nat):Int)-1=(j:Int):=by omega
   rw[hj];have Zj:j<s.size:=by omega
   have hl:=zu (s.data.toList.drop (j+1));obtain⟨q,hq⟩:=aa (nP (s.data.toList.drop (j+1)));have hlen:(s.data.toList.drop (j+1)).length=s.size-(j+1):=by rw[length_drop,Array.length_toList];rfl
   rw[hq]at hl ⊢
   have hq3:q<16777216:=by rw[hlen]at hl;exact Nat.lt_of_lt_of_le hl (Nat.le_trans (Nat.pow_le_pow_right (by omega) (by omega:s.size-(j+1)<=3)) (by decide))
   have sU:nP (s.data.toList.drop j)=s[j].toNat+256*q:=by rw[drop_at s j Zj,nP,hq]
   have Pz:=aq sU;have Hq3:=aq hq3;have Hg:=aq hg;clear hl hlen hq sU hg h0;go_wp2_with fail
   go_roundg (j+1)
   case measure=>exact an Hg
   case rel=>
    refine⟨j,by omega,by omega,by first|rfl|simp,?_,nw,rfl⟩;have hol:=Xs q _ (an Hq3) (s[j].toNat_lt);have hm:(q:Int)*256%4294967296=(q:Int)*256:=by have:=an Hq3;omega
    rw[hm]at hol;rw[an Pz,hol]
theorem jS:∀a b:List UInt8,Op.bytesLess a b=decide (Go.Lib.compareBytes a b<0)
 |[],[]=>by simp[Op.bytesLess,Go.Lib.compareBytes]
 |[],_::_=>by simp[Op.bytesLess,Go.Lib.compareBytes]
 |_::_,[]=>by simp[Op.bytesLess,Go.Lib.compareBytes]
 |x::a,y::b=>by
  have ih:=jS a b;unfold Op.bytesLess Go.Lib.compareBytes
  by_cases h1:x<y
  ·simp[h1]
  ·by_cases h2:y<x
   ·have h3:¬(x=y):=fun e=>by subst e;exact h1 h2
    simp[h1,h2,h3]
   ·have h3:x=y:=by
     rw[UInt8.lt_iff_toNat_lt]at h1 h2;exact UInt8.toNat_inj.1 (by omega)
    subst h3;simp[h1,ih]
theorem kQ (a b:ByteArray):Op.bytesLess a.toList b.toList=decide (dR a b):=by
 rw[jS,Go.Lib.toList_data,Go.Lib.toList_data];rfl
theorem fv (a b:ByteArray):a.toList=b.toList↔a=b:=by
 rw[Lib.toList_data,Lib.toList_data]
 constructor
 ·intro h
  cases a;cases b
  congr 1
  exact Array.toList_inj.1 h
 ·rintro rfl;rfl
theorem IP {w0 wx:World} {v:Value} {L:List bn} {l2:List aI} (H:aw w0 wx (aO v L::l2)) (c:bn) (hn:L.length<=1000):
 ∃v' w',(Builtin.append_ #[38,38] 38 #[v,.slice (some ⟨wx.heap.size,0,none⟩) 1 1]).run prog (wx.alloc (.cells #[.string c.az,.string c.val,.bool c.gone] 86))=.ok v' w'/\aw w0 w' (aO v' (L++[c])::l2):=by
 have h1:=H.aY 86 (cellsOf c);obtain⟨v',w',h2,h3,_⟩:=h1.append [_] 38 38 underlying38 ZT (by decide) (by decide) (some ⟨wx.heap.size,0,none⟩) 1 1 (cellsOf c) rfl (fun _=>⟨wx.heap.size,0,rfl,fun j u hj=>by rw[Nat.zero_add];exact h1.cellAt ae hj⟩) (fun h=>by cases h) (fun u hu=>fM [c] u (by simpa[flat]using hu)) (by omega);refine⟨v',w',h2,?_⟩;have h4:=h3.aD [];unfold aO;rw[eW,length_append,show flat [c]=cellsOf c from by simp[flat]];exact h4
def nk:ByteArray:=⟨#[111]⟩
def pz:ByteArray:=⟨#[99]⟩
def pn:ByteArray:=⟨#[]⟩
def KA (s:ByteArray):Nat:=nP (s.extract 5 7).data.toList
def QQ (s:ByteArray):Nat:=nP (s.extract 1 5).data.toList
def tU (s:ByteArray) (num:Nat):Prop:=(s.extract 0 1=nk∨s.extract 0 1=pz)/\QQ s=num/\7+KA s<=140
instance (s:ByteArray) (num:Nat):Decidable (tU s num):=by unfold tU;infer_instance
def fo (s:ByteArray) (num:Nat):ByteArray×ByteArray:=if tU s num then(s.extract 0 1,s.extract 7 (7+KA s))else(pn,pn)
theorem Cq (s:ByteArray) (hs:s.size=140) (num:Nat) (w:World):
 Calls prog 213 #[.string s,.int .u32 num] w fun e w'=>e=.returned (.tuple #[.string (fo s num).1,.string (fo s num).2])/\∃n,w'=w.drewN n:=by
 have z1:(s.extract 5 7).size=2:=by rw[ByteArray.size_extract,hs];rfl
 have z2:(s.extract 1 5).size=4:=by rw[ByteArray.size_extract,hs];rfl
 have e1:=fun wx=>nh (s.extract 5 7) (by omega) wx
 have e2:=fun wx=>nh (s.extract 1 5) (by omega) wx
 have hlen:KA s<65536:=by
  have h:=zu (s.extract 5 7).data.toList;have h2:(s.extract 5 7).data.toList.length=2:=by rw[Array.length_toList];exact z1
  rw[h2]at h;exact h
 have hgd:∀(P:Prop) [Decidable P],P->True:=fun _ _ _=>trivial
 have f1:nP (s.extract 5 7).data.toList=KA s:=rfl;have f2:nP (s.extract 1 5).data.toList=QQ s:=rfl;simp only[f1]at e1;simp only[f2]at e2;obtain⟨ln,E0⟩:∃n,KA s=n:=⟨_,rfl⟩;obtain⟨nu,hnu⟩:∃n,QQ s=n:=⟨_,rfl⟩;obtain⟨kd,zy⟩:∃k,s.extract 0 1=k:=⟨_,rfl⟩
 have hP:fo s num=if (kd=nk∨kd=pz)/\nu=num/\7+ln<=140 then(kd,s.extract 7 (7+ln))else(pn,pn):=by unfold fo tU;simp only[zy,hnu,E0]
 rw[hP];rw[E0]at hlen;simp only[E0]at e1;simp only[hnu]at e2;have E1:=aq e1;have E2:=aq e2;clear e1 e2 hP hnu E0 hgd f1 f2;go_enter func213,ntmps213;go_wp2_with fail;refine(an E1 _).mono ?_;rintro e w1 ⟨rfl,n1,rfl⟩
 by_cases hko:kd=nk
 ·unfold nk at hko;subst hko;go_wp2_with fail;refine(an E2 _).mono ?_;rintro e w2 ⟨rfl,n2,rfl⟩;rw[World.drewN_drewN]
  by_cases hn:nu=num
  ·subst hn
   by_cases hl:7+ln<=140
   ·have tm:¬(140:Int)<7+(ln:Int):=by omega
    have Gf:ln<=133:=by omega
    go_wp2_with fail
    go_quiet (fail)
    go_wp2_with fail
    go_ret2;refine⟨?_,_,rfl⟩
    first|rfl|(rw[if_pos ⟨Or.inl rfl,rfl,hl⟩];rfl)|rw[if_pos ⟨Or.inl rfl,rfl,hl⟩]
   ·have tm:(140:Int)<7+(ln:Int):=by omega
    go_wp2_with fail
    go_ret2;refine⟨?_,_,rfl⟩
    first|rfl|(rw[if_neg (fun h=>hl h.2.2)];rfl)|rw[if_neg (fun h=>hl h.2.2)]
  ·have Mv:¬(nu:Int)=(num:Int):=by omega
   have Ge:¬(num:Int)=(nu:Int):=by omega
   go_wp2_with fail
   go_ret2;refine⟨?_,_,rfl⟩
   first|rfl|(rw[if_neg (fun h=>hn h.2.1)];rfl)|rw[if_neg (fun h=>hn h.2.1)]
 ·by_cases Wy:kd=pz
  ·unfold pz at Wy;subst Wy;go_wp2_with fail;refine(an E2 _).mono ?_;rintro e w2 ⟨rfl,n2,rfl⟩;rw[World.drewN_drewN]
   by_cases hn:nu=num
   ·subst hn
    by_cases hl:7+ln<=140
    ·have tm:¬(140:Int)<7+(ln:Int):=by omega
     have Gf:ln<=133:=by omega
     go_wp2_with fail
     go_quiet (fail)
     go_wp2_with fail
     go_ret2;refine⟨?_,_,rfl⟩
     first|rfl|(rw[if_pos ⟨Or.inr rfl,rfl,hl⟩];rfl)|rw[if_pos ⟨Or.inr rfl,rfl,hl⟩]
    ·have tm:(140:Int)<7+(ln:Int):=by omega
     go_wp2_with fail
     go_ret2;refine⟨?_,_,rfl⟩
     first|rfl|(rw[if_neg (fun h=>hl h.2.2)];rfl)|rw[if_neg (fun h=>hl h.2.2)]
   ·have Mv:¬(nu:Int)=(num:Int):=by omega
    have Ge:¬(num:Int)=(nu:Int):=by omega
    go_wp2_with fail
    go_ret2;refine⟨?_,_,rfl⟩
    first|rfl|(rw[if_neg (fun h=>hn h.2.1)];rfl)|rw[if_neg (fun h=>hn h.2.1)]
  ·skip
   have aaQ:=hko;have aaS:=Wy;unfold nk at aaQ;unfold pz at aaS;have t1:(⟨#[111]⟩:ByteArray).toList=[111]:=by rw[Lib.toList_data]
   have t2:(⟨#[99]⟩:ByteArray).toList=[99]:=by rw[Lib.toList_data]
   have k1:¬kd.toList=[111]:=fun h=>aaQ ((fv _ _).1 (h.trans t1.symm))
   have k2:¬kd.toList=[99]:=fun h=>aaS ((fv _ _).1 (h.trans t2.symm))
   have k3:(kd.toList==[111])=false:=beq_eq_false_iff_ne.2 k1;have k4:(kd.toList==[99])=false:=beq_eq_false_iff_ne.2 k2;clear k1 k2;go_wp2_with fail
   all_goals
    go_ret2;refine⟨?_,_,rfl⟩
    first|rfl|(rw[if_neg (fun h=>by rcases h.1 with h|h;exact hko h;exact Wy h)];rfl)
theorem yC (n:Nat) (hn:n<=1000000) (w:World):
 Calls prog 215 #[.int .i64 n] w fun e w'=>e=.returned (.string ⟨(dw n 4).toArray⟩)/\Below w.heap.size w w':=by
 have el:=gq n 4 (by omega) (by omega) w;have hw:IntKind.u32.wrap (n:Int)=(n:Int):=by rw[IntKind.wrap_u32];omega
 have EL:=aq el;clear el;go_enter func215,ntmps215;go_wp2_with fail;refine(an EL).mono ?_;rintro e w1 ⟨rfl,hb⟩;have HB:=aq hb;clear hb EL;go_wp2_with fail;go_ret;exact⟨rfl,an HB⟩
def CS (aA:ByteArray) (n:Nat) (body:ByteArray):ByteArray:=aA++⟨(dw n 4).toArray⟩++⟨(dw body.size 2).toArray⟩++body
theorem zY (aA:ByteArray) (hk:aA.size<=1000) (n:Nat) (hn:n<4294967296) (body:ByteArray) (hb:body.size<=1000000) (w:World):
 Calls prog 217 #[.string aA,.int .u32 n,.string body] w fun e w'=>e=.returned (.string (CS aA n body))/\Below w.heap.size w w':=by
 have el:=gq n 4 hn (by omega) w;have el2:=fun wx=>gq body.size 2 (by omega) (by omega) wx
 have hw:IntKind.u32.wrap (body.size:Int)=(body.size:Int):=by rw[IntKind.wrap_u32];omega
 have EL:=aq el;have EL2:=aq el2;unfold CS;obtain⟨b1,dJ⟩:∃b:ByteArray,⟨(dw n 4).toArray⟩=b:=⟨_,rfl⟩;obtain⟨b2,cC⟩:∃b:ByteArray,⟨(dw body.size 2).toArray⟩=b:=⟨_,rfl⟩;have z1:b1.size=4:=by rw[<-dJ];show(dw n 4).toArray.size=4;rw[size_toArray,bR]
 have z2:b2.size=2:=by rw[<-cC];show(dw body.size 2).toArray.size=2;rw[size_toArray,bR]
 have z3:(aA++b1).size=aA.size+4:=by rw[ByteArray.size_append,z1]
 have z4:(aA++b1++b2).size=aA.size+6:=by rw[ByteArray.size_append,z3,z2]
 rw[dJ]at EL ⊢;simp only[cC]at EL2 ⊢;clear el el2 dJ cC;go_enter func217,ntmps217;go_wp2_with fail;refine(an EL).mono ?_;rintro e w1 ⟨rfl,dJ⟩;have HB:=aq dJ;clear dJ EL;go_wp2_with fail;refine(an EL2 _).mono ?_;rintro e w2 ⟨rfl,cC⟩;have Qf:=aq ((an HB).trans (cC.mono (an HB).size));clear cC EL2 HB;go_wp2_with fail;go_ret;exact⟨rfl,an Qf⟩
def bt (l:List UInt8):ByteArray:=⟨l.toArray⟩
theorem fK (l:List UInt8):(bt l).data.toList=l:=by simp[bt]
theorem cB (l:List UInt8):(bt l).size=l.length:=by show l.toArray.size=l.length;simp
theorem vp {a b:List UInt8} (h:bt a=bt b):a=b:=by
 have:=congrArg (fun s:ByteArray=>s.data.toList) h
 simpa[fK]using this
theorem QT (s:ByteArray):bt s.data.toList=s:=Eu s
theorem dG (l:List UInt8) (a b:Nat):(bt l).extract a b=bt ((l.take b).drop a):=by
 unfold bt;rw[ByteArray.extract_mk]
 congr 1
 apply Array.ext';simp[extract_eq_take_drop,drop_take]
theorem pj:∀(k n:Nat),n<256^k->nP (dw n k)=n
 | 0,n,h=>by simp only[Nat.pow_zero]at h;simp[dw,nP];omega
 |k+1,n,h=>by
  have h2:n / 256<256^k:=by rw[Nat.pow_succ]at h;exact Nat.div_lt_of_lt_mul (by omega)
  have h3:(UInt8.ofNat (n%256)).toNat=n%256:=by simp
  rw[dw,nP,pj k _ h2,h3];omega
def tE (k:UInt8) (n:Nat) (b:List UInt8):List UInt8:=k::(dw n 4++dw b.length 2++b)
theorem zZ (k:UInt8) (n:Nat) (b:List UInt8):CS (bt [k]) n (bt b)=bt (tE k n b):=by
 unfold CS;have e1:bt [k]++⟨(dw n 4).toArray⟩=bt ([k]++dw n 4):=ByteArray.mk_append_mk [k] _;have e2:bt ([k]++dw n 4)++⟨(dw (bt b).size 2).toArray⟩=bt ([k]++dw n 4++dw (bt b).size 2):=ByteArray.mk_append_mk _ _;have e3:bt ([k]++dw n 4++dw (bt b).size 2)++bt b=bt ([k]++dw n 4++dw (bt b).size 2++b):=ByteArray.mk_append_mk _ _;rw[e1,e2,e3,cB];simp[tE]
theorem uX (k:UInt8) (n:Nat) (b:List UInt8):(tE k n b).length=7+b.length:=by
 simp[tE,bR];omega
theorem AD (k:UInt8) (n:Nat) (b:List UInt8) (hk:k=111∨k=99) (hn:n<4294967296) (hb:b.length<=133):fo (bt (eF (tE k n b))) n=(bt [k],bt b):=by
 have X3:=bR 4 n;have tm:=bR 2 b.length;obtain⟨z,hz⟩:∃z,eF (tE k n b)=k::(dw n 4++dw b.length 2++b++z):=⟨List.replicate (140-(tE k n b).length) 0,by simp[eF,tE]⟩;rw[hz]
 have x0:(bt (k::(dw n 4++dw b.length 2++b++z))).extract 0 1=bt [k]:=by rw[dG];rfl
 have x1:(bt (k::(dw n 4++dw b.length 2++b++z))).extract 1 5=bt (dw n 4):=by rw[dG];refine congrArg bt ?_;rw[take_succ_cons,drop_succ_cons,drop_zero,append_assoc,append_assoc,take_append_of_le_length (by omega)];exact take_of_length_le (by omega)
 have x2:(bt (k::(dw n 4++dw b.length 2++b++z))).extract 5 7=bt (dw b.length 2):=by rw[dG];refine congrArg bt ?_;rw[take_succ_cons,drop_succ_cons,append_assoc,append_assoc,take_append,drop_append,X3,take_of_length_le (by omega),drop_of_length_le (by omega),nil_append,X3];rw[Nat.sub_self,drop_zero,take_append_of_le_length (by omega)];exact take_of_length_le (by omega)
 have x3:∀m,m=b.length->(bt (k::(dw n 4++dw b.length 2++b++z))).extract 7 (7+m)=bt b:=fun m hm=>by
  subst hm;rw[dG]
  congr 1
  rw[show 7+b.length=(6+b.length)+1 by omega,take_succ_cons,drop_succ_cons];have h6:(dw n 4++dw b.length 2).length=6:=by rw[length_append,X3,tm]
  rw[append_assoc (dw n 4++dw b.length 2),take_append,h6,take_of_length_le (by omega),drop_append_of_le_length (by omega),drop_of_length_le (by omega),nil_append,take_append_of_le_length (by omega),take_of_length_le (by omega)]
 have y1:QQ (bt (k::(dw n 4++dw b.length 2++b++z)))=n:=by unfold QQ;rw[x1,fK,pj 4 n hn]
 have y2:KA (bt (k::(dw n 4++dw b.length 2++b++z)))=b.length:=by unfold KA;rw[x2,fK,pj 2 _ (by omega)]
 have hG:tU (bt (k::(dw n 4++dw b.length 2++b++z))) n:=by
  refine⟨?_,y1,by omega⟩;rw[x0]
  rcases hk with rfl|rfl
  ·exact .inl rfl
  ·exact .inr rfl
 unfold fo;rw[if_pos hG,x0,y2,x3 _ rfl]
theorem Er (n:Nat):fo (bt fg) n=(pn,pn):=by
 have x0:(bt fg).extract 0 1=bt [0]:=by rw[dG];rfl
 have hG:¬tU (bt fg) n:=by
  unfold tU;rw[x0];rintro⟨h|h,_⟩
  ·have:=vp (a:=[0]) (b:=[111]) h;revert this;decide
  ·have:=vp (a:=[0]) (b:=[99]) h;revert this;decide
 unfold fo;rw[if_neg hG]
theorem vl:eF []=fg:=by simp[eF,fg]
theorem ya {c:bn} (h:aR c=none):rH (bt (bZ c))=some c:=by
 obtain⟨h1,h2,h3,h4⟩:=oq h;obtain⟨az,val,gone⟩:=c;simp only at h1 h2 h3 h4;have hk:(UInt8.ofNat az.size).toNat=az.size:=by simp;omega
 have hs:(bt (bZ ⟨az,val,gone⟩)).size=2+az.size+val.size:=by rw[cB];simp only[bZ,length_cons,length_append,Array.length_toList];have e1:az.data.size=az.size:=rfl;have e2:val.data.size=val.size:=rfl;omega
 have J1:az.data.toList.length=az.size:=by rw[Array.length_toList];rfl
 have hvl:val.data.toList.length=val.size:=by rw[Array.length_toList];rfl
 obtain⟨g,hg⟩:∃g:UInt8,(if gone then 1 else 0)=g:=⟨_,rfl⟩
 have hcut:SL (bt (bZ ⟨az,val,gone⟩)) g (2+az.size)=⟨az,val,gone⟩:=by
  unfold SL;rw[hs];unfold bZ;simp only;rw[dG,dG,hg]
  congr 1
  ·rw[show 2+az.size=az.size+1+1 by omega,take_succ_cons,take_succ_cons,drop_succ_cons,drop_succ_cons,drop_zero,take_append_of_le_length (by omega),take_of_length_le (by omega),QT]
  ·rw[take_of_length_le (by simp only[length_cons,length_append];omega),show 2+az.size=az.size+1+1 by omega,drop_succ_cons,drop_succ_cons,drop_append_of_le_length (by omega),drop_of_length_le (by omega),nil_append,QT]
  ·rw[<-hg];cases gone<;>rfl
 have hb:bZ ⟨az,val,gone⟩=g::UInt8.ofNat az.size::(az.data.toList++val.data.toList):=by unfold bZ;rw[hg]
 unfold rH;rw[fK];rw[hb]at hcut hs ⊢;simp only;rw[hk,hcut,h,hs];have X6:g.toNat<=1:=by rw[<-hg];cases gone<;>decide
 rw[if_neg (by simp;omega)];rfl
structure RS where
 deeds:List (List bn)
 q7:List bn
 av:Nat
def gD (s:ByteArray) (num i:Nat) (st:RS):Option RS:=
 if (fo s num).1=nk then(rH (fo s num).2).map fun c=>⟨st.deeds,st.q7++[c],st.av⟩
 else if (fo s num).1=pz then(if (fo s num).2=bt (dw st.q7.length 4)then some ⟨st.deeds++[st.q7],[],i+1⟩else none)
 else none
def r8 (get:Nat->ByteArray) (first:Nat):Nat->Nat->RS->RS
 | 0,_,st=>st
 |k+1,i,st=>match gD (get i) (first+i) i st with
  |none=>st
  |some tZ=>r8 get first k (i+1) tZ
def mF (get:Nat->ByteArray) (first:Nat):Nat->Nat->RS->Option RS
 | 0,_,st=>some st
 |k+1,i,st=>(gD (get i) (first+i) i st).bind (mF get first k (i+1))
theorem GN {get:Nat->ByteArray} {first:Nat}:∀(m k i:Nat) (st tZ:RS),mF get first m i st=some tZ->r8 get first (m+k) i st=r8 get first k (i+m) tZ
 | 0,k,i,st,tZ,h=>by cases h;simp
 |m+1,k,i,st,tZ,h=>by
  rw[show m+1+k=(m+k)+1 by omega,r8];rw[mF]at h
  cases hs:gD (get i) (first+i) i st with
  |none=>rw[hs]at h;cases h
  |some s1=>rw[hs,Option.bind_some]at h;simp only;rw[GN m k (i+1) s1 tZ h,show i+1+m=i+(m+1)by omega]
theorem Ak {get:Nat->ByteArray} {first:Nat}:∀(m k i:Nat) (st tZ:RS),mF get first m i st=some tZ->mF get first (m+k) i st=mF get first k (i+m) tZ
 | 0,k,i,st,tZ,h=>by cases h;simp
 |m+1,k,i,st,tZ,h=>by
  rw[show m+1+k=(m+k)+1 by omega,mF];rw[mF]at h
  cases hs:gD (get i) (first+i) i st with
  |none=>rw[hs]at h;cases h
  |some s1=>rw[hs,Option.bind_some]at h;simp only[Option.bind_some];rw[Ak m k (i+1) s1 tZ h,show i+1+m=i+(m+1)by omega]
theorem Aj {get get':Nat->ByteArray} {first:Nat}:∀(m i:Nat) (st:RS),(∀j,i<=j->j<i+m->get j=get' j)->mF get first m i st=mF get' first m i st
 | 0,i,st,h=>rfl
 |m+1,i,st,h=>by
  rw[mF,mF,h i (by omega) (by omega)]
  cases gD (get' i) (first+i) i st with
  |none=>rfl
  |some s1=>exact Aj m (i+1) s1 fun j h1 h2=>h j (by omega) (by omega)
theorem o8 {s:ByteArray} {num i:Nat} {st tZ:RS} (h:gD s num i st=some tZ):(tZ.av=st.av/\tZ.deeds=st.deeds)∨tZ=⟨st.deeds++[st.q7],[],i+1⟩:=by
 unfold gD at h
 split at h
 ·cases hp:rH (fo s num).2 with
  |none=>rw[hp]at h;cases h
  |some c=>rw[hp]at h;cases h;exact .inl ⟨rfl,rfl⟩
 split at h
 ·split at h
  ·cases h;exact .inr rfl
  ·cases h
 ·cases h
theorem Bi {get:Nat->ByteArray} {first:Nat}:∀(k i:Nat) (st:RS),((r8 get first k i st).av=st.av/\(r8 get first k i st).deeds=st.deeds)∨∃m,m<=k/\(r8 get first k i st).av=i+m/\mF get first m i st=some ⟨(r8 get first k i st).deeds,[],(r8 get first k i st).av⟩
 | 0,i,st=>.inl ⟨rfl,rfl⟩
 |k+1,i,st=>by
  rw[r8]
  cases hs:gD (get i) (first+i) i st with
  |none=>exact .inl ⟨rfl,rfl⟩
  |some s1=>
   simp only
   rcases Bi k (i+1) s1 with⟨h1,h2⟩|⟨m,hm,h1,h2⟩
   ·rcases o8 hs with⟨h3,h4⟩|h3
    ·exact .inl ⟨h1.trans h3,h2.trans h4⟩
    ·refine .inr ⟨1,by omega,by rw[h1,h3],?_⟩;rw[mF,hs,Option.bind_some,mF,h1,h2,h3]
   ·exact .inr ⟨m+1,by omega,by rw[h1];omega,by rw[mF,hs,Option.bind_some,h2]⟩
def B5:RS:=⟨[],[],0⟩
def JD (get:Nat->ByteArray) (first av:Nat) (D:List (List bn)):Prop:=mF get first av 0 B5=some ⟨D,[],av⟩
theorem Ay (get:Nat->ByteArray) (first:Nat):JD get first 0 []:=rfl
theorem C5 (get:Nat->ByteArray) (first aF:Nat):(r8 get first aF 0 B5).av<=aF/\JD get first (r8 get first aF 0 B5).av (r8 get first aF 0 B5).deeds:=by
 rcases Bi (get:=get) (first:=first) aF 0 B5 with⟨h1,h2⟩|⟨m,hm,h1,h2⟩
 ·rw[h1,h2];exact⟨Nat.zero_le _,Ay _ _⟩
 ·rw[Nat.zero_add]at h1;rw[h1]at h2 ⊢;exact⟨hm,h2⟩
theorem JD.congr {get get':Nat->ByteArray} {first av:Nat} {D:List (List bn)} (h:JD get first av D) (he:∀j,j<av->get' j=get j):JD get' first av D:=by
 unfold JD at h ⊢;rw[<-h];exact Aj av 0 B5 fun j _ hj=>he j (by omega)
theorem GB (n i:Nat) (st:RS):gD (bt fg) n i st=none:=by
 unfold gD;rw[Er];rw[if_neg (fun h=>by have:=vp (a:=[]) (b:=[111]) h;cases this),if_neg (fun h=>by have:=vp (a:=[]) (b:=[99]) h;cases this)]
theorem JD.go {get:Nat->ByteArray} {first av aF:Nat} {D:List (List bn)} (h:JD get first av D) (hm:av<=aF) (hn:av<aF->get av=bt fg):r8 get first aF 0 B5=⟨D,[],av⟩:=by
 obtain⟨k,rfl⟩:∃k,aF=av+k:=⟨aF-av,by omega⟩;rw[GN av k 0 B5 _ h,Nat.zero_add]
 cases k with
 |zero=>rfl
 |succ k=>rw[r8,hn (by omega),GB]
def Uc (n:Nat) (c:bn):List UInt8:=tE 111 n (bZ c)
def Jd (n m:Nat):List UInt8:=tE 99 n (dw m 4)
def jq (n:Nat) (l:List bn):List (List UInt8):=l.mapIdx fun i c=>Uc (n+i) c
def kx (n:Nat) (l:List bn):List (List UInt8):=jq n l++[Jd (n+l.length) l.length]
theorem lV (n:Nat) (l:List bn):(jq n l).length=l.length:=by simp[jq]
theorem kX (n:Nat) (l:List bn):(kx n l).length=l.length+1:=by simp[kx,lV]
theorem GI (n:Nat) (l:List bn) (c:bn):jq n (l++[c])=jq n l++[Uc (n+l.length) c]:=by simp[jq]
theorem GJ (n:Nat) (c:bn) (l:List bn):jq n (c::l)=Uc n c::jq (n+1) l:=by
 unfold jq;rw[mapIdx_cons]
 congr 1
 congr 1
 funext i c
 rw[show n+(i+1)=n+1+i by omega]
theorem iW {c:bn} (h:aR c=none):(bZ c).length<=94:=by
 obtain⟨_,_,h3,h4⟩:=oq h;simp only[bZ,length_cons,length_append,Array.length_toList];have e1:c.az.data.size=c.az.size:=rfl;have e2:c.val.data.size=c.val.size:=rfl;omega
theorem Lv {n:Nat} {c:bn} (h:aR c=none):(Uc n c).length<=140:=by
 have:=iW h;unfold Uc;rw[uX];omega
theorem Jc (n m:Nat):(Jd n m).length<=140:=by
 unfold Jd;rw[uX,bR];omega
theorem yB {n:Nat} {l:List bn} (h:∀c∈l,aR c=none):∀s∈kx n l,s.length<=140:=by
 intro s hs
 rcases mem_append.1 hs with hs|hs
 ·obtain⟨i,hi,rfl⟩:=List.mem_mapIdx.1 hs;exact Lv (h _ (getElem_mem _))
 ·rw[mem_singleton.1 hs];exact Jc _ _
theorem GL {get:Nat->ByteArray} {first:Nat}:∀(l:List bn) (i:Nat) (D:List (List bn)) (acc:List bn) (u:Nat),(∀c∈l,aR c=none)->first+i+l.length<4294967296->(∀j s,(jq (first+i) l)[j]? = some s->get (i+j)=bt (eF s))->mF get first l.length i ⟨D,acc,u⟩=some ⟨D,acc++l,u⟩
 |[],i,D,acc,u,_,_,_=>by simp[mF]
 |c::l,i,D,acc,u,hc,hn,hg=>by
  have og:=hc c (by simp);rw[length_cons]at hn ⊢;rw[GJ]at hg;have h0:=hg 0 _ rfl;rw[Nat.add_zero]at h0;have hp:=AD 111 (first+i) (bZ c) (.inl rfl) (by omega) (by have:=iW og;omega);rw[mF,h0]
  have hs:gD (bt (eF (Uc (first+i) c))) (first+i) i ⟨D,acc,u⟩=some ⟨D,acc++[c],u⟩:=by unfold gD Uc;rw[hp,if_pos (show(bt [111],bt (bZ c)).1=nk from rfl)];simp only;rw[ya og];rfl
  rw[hs,Option.bind_some,GL l (i+1) D (acc++[c]) u (fun x hx=>hc x (by simp[hx])) (by omega) (fun j s hj=>by
   have:=hg (j+1) s (by rw[getElem?_cons_succ];rw[show first+i+1=first+(i+1)by omega];exact hj);rw[show i+1+j=i+(j+1)by omega];exact this)]
  simp
theorem JD.q7 {get:Nat->ByteArray} {first av:Nat} {D:List (List bn)} (h:JD get first av D) (l:List bn) (hc:∀c∈l,aR c=none) (hn:first+av+l.length<4294967296) (hg:∀j s,(kx (first+av) l)[j]? = some s->get (av+j)=bt (eF s)):JD get first (av+(l.length+1)) (D++[l]):=by
 unfold JD at h ⊢;rw[Ak av (l.length+1) 0 B5 _ h,Nat.zero_add]
 have h1:=GL (get:=get) (first:=first) l av D [] av hc (by omega) (fun j s hj=>hg j s (by
  unfold kx;rw[getElem?_append_left (List.getElem?_eq_some_iff.1 hj).1];exact hj))
 rw[Ak l.length 1 av _ _ h1,mF]
 have h2:=hg l.length (Jd (first+av+l.length) l.length) (by
  unfold kx;rw[getElem?_append_right (by rw[lV];exact Nat.le_refl _),lV,Nat.sub_self];rfl)
 have hp:=AD 99 (first+(av+l.length)) (dw l.length 4) (.inr rfl) (by omega) (by rw[bR];omega)
 have hs:gD (get (av+l.length)) (first+(av+l.length)) (av+l.length) ⟨D,[]++l,av⟩=some ⟨D++[l],[],av+l.length+1⟩:=by rw[h2,show first+av+l.length=first+(av+l.length)by omega];unfold gD Jd;rw[hp,if_neg (show ¬(bt [99],bt (dw l.length 4)).1=nk from fun h=>by have:=vp (a:=[99]) (b:=[111]) h;revert this;decide),if_pos (show(bt [99],bt (dw l.length 4)).1=pz from rfl)];simp only[nil_append];rw[if_pos trivial]
 rw[hs,Option.bind_some,mF,Nat.add_assoc]
def tj (l:List (List UInt8)):List Value:=l.map fun s=>.string (bt s)
theorem xP (l:List (List UInt8)):(tj l).length=l.length:=by simp[tj]
theorem uY {l:List (List UInt8)} {j:Nat} {s:List UInt8} (h:l[j]? = some s):(tj l)[j]? = some (.string (bt s)):=by simp[tj,getElem?_map,h]
def qc (v:Value) (l:List (List UInt8)):aI:=.row v 9 1 l.length (tj l)
theorem Ec {w0 wx:World} {v:Value} {L:List (List UInt8)} {l2:List aI} (H:aw w0 wx (qc v L::l2)) (c:List UInt8) (hn:L.length<=1000):
 ∃v' w',(Builtin.append_ #[168,168] 168 #[v,.slice (some ⟨wx.heap.size,0,none⟩) 1 1]).run prog (wx.alloc (.cells #[.string (bt c)] 9))=.ok v' w'/\aw w0 w' (qc v' (L++[c])::l2):=by
 have h1:=H.aY 9 [.string (bt c)];obtain⟨v',w',h2,h3,_⟩:=h1.append [_] 168 168 underlying168 Wd (by decide) (by decide) (some ⟨wx.heap.size,0,none⟩) 1 1 [.string (bt c)] rfl (fun _=>⟨wx.heap.size,0,rfl,fun j u hj=>by rw[Nat.zero_add];exact h1.cellAt ae hj⟩) (fun h=>by cases h) (fun u hu=>by rw[mem_singleton.1 hu];rfl) (by omega);refine⟨v',w',h2,?_⟩;have h4:=h3.aD [];unfold qc;rw[length_append,show tj (L++[c])=tj L++[.string (bt c)]by simp[tj]];exact h4
def dQ:List bn->Option Int
 |[]=>none
 |c::l=>match aR c with|some k=>some k|none=>dQ l
theorem yz {l:List bn} {i:Nat} {c:bn} (h:l[i]? = some c) (hp:dQ (l.take i)=none):dQ (l.take (i+1))=aR c/\((aR c).isSome->dQ l=aR c):=by
 induction l generalizing i with
 |nil=>simp at h
 |cons x l ih=>
  cases i with
  |zero=>
   simp at h;subst h;refine⟨by simp only[take_succ_cons,take_zero,dQ];cases aR x<;>rfl,fun hs=>?_⟩
   cases hx:aR x with
   |none=>rw[hx]at hs;cases hs
   |some k=>simp only[dQ,hx]
  |succ i=>
   rw[getElem?_cons_succ]at h;rw[take_succ_cons,dQ]at hp;rw[take_succ_cons,dQ,dQ]
   cases hx:aR x with
   |some k=>rw[hx]at hp;cases hp
   |none=>rw[hx]at hp;simp only at hp ⊢;exact ih h hp
theorem uK {l:List bn} (h:dQ l=none):∀c∈l,aR c=none:=by
 induction l with
 |nil=>intro c hc;cases hc
 |cons x l ih=>
  rw[dQ]at h;intro c hc
  cases hx:aR x with
  |some k=>rw[hx]at h;cases h
  |none=>
   rw[hx]at h
   rcases mem_cons.1 hc with rfl|hc
   ·exact hx
   ·exact ih h c hc
def YG (w:World) (n0:Nat) (l:List bn) (e:Ending) (w':World):Prop:=
 (∃k,dQ l=some k/\e=.returned (.tuple #[.slice none 0 0,bH (some k)])/\Below w.heap.size w w')∨(dQ l=none/\∃v,e=.returned (.tuple #[v,.nilIface])/\aw w w' [qc v (kx n0 l)])
theorem wK (lb:Nat) (first av:Nat) (vc:Value) (n:Nat) (f:Nat->bn) (w:World) (PW:lb<w.heap.size) (hf:first<=1000000) (hu:av<=1000) (hn:n<=100) (hc:iP w vc n f)
 (q3:w.cell? ⟨lb,3,none⟩=some (.int .i64 first)) (q4:w.cell? ⟨lb,4,none⟩=some (.int .i64 av)):
 Calls prog 167 #[.pointer (some ⟨lb,0,none⟩),vc] w fun e w'=>YG w (first+av) (bO n f) e w':=by
 obtain⟨pc,cc,hvc⟩:=hc.slice;subst hvc;have HC:=aq hc;have Hq:Hid (∀wx,Below w.heap.size w wx->wx.cell? ⟨lb,3,none⟩=some (.int .i64 first)/\wx.cell? ⟨lb,4,none⟩=some (.int .i64 av)):=fun wx hx=>⟨(bP hx (p:=⟨lb,3,none⟩) PW).trans q3,(bP hx (p:=⟨lb,4,none⟩) PW).trans q4⟩
 have H0:Hid (aw w w [qc (.slice none 0 0) (jq (first+av) ((bO n f).take 0))]):=(aw.init w).fJ 9 1;clear hc q3 q4;go_enter func167,ntmps167;go_wp2_with fail
 go_loopg [6,13] (n+1) (fun g v6 vi wr=>∃(i:Nat),n-i<g/\i<=n/\vi=.int .i64 i/\Hid (aw w wr [qc v6 (jq (first+av) ((bO n f).take i))])/\Hid (dQ ((bO n f).take i)=none))
 case atStart=>exact⟨0,by omega,by omega,rfl,H0,rfl⟩
 case round=>
  obtain⟨i,hg,hi,rfl,HH,HF⟩:=hrel;have hlen:(jq (first+av) ((bO n f).take i)).length=i:=by rw[lV,length_take,cX];omega
  obtain⟨p6,c6,hv6,_⟩:=cI ((an HH).rowAt ae);rw[hlen]at hv6;subst hv6
  by_cases gY:i<n
  ·have mI:(i:Int)<(n:Int):=by omega
   rcases an HC with⟨_,h0⟩|⟨b,off,c,hv,Oy,qD,ct⟩
   ·omega
   injection hv with hp _ kD;subst hp kD;obtain⟨p0,p1,p2⟩:=ct i gY;have below:=(an HH).below;have q0:=(bP below (p:=⟨b,off+i*3,none⟩) qD).trans p0;have q1:=(bP below (p:=⟨b,off+i*3+1,none⟩) qD).trans p1;have q2:=(bP below (p:=⟨b,off+i*3+2,none⟩) qD).trans p2;have oO:=uo (f:=f) gY;obtain⟨U4,hft2⟩:=yz oO (an HF);have ns:=yh (f:=f) gY
   have Rr:jq (first+av) ((bO n f).take (i+1))=jq (first+av) ((bO n f).take i)++[Uc (first+av+i) (f i)]:=by rw[ns,GI,length_take,cX,Nat.min_eq_left (by omega)]
   obtain⟨C,hC⟩:∃c,f i=c:=⟨_,rfl⟩;rw[hC]at q0 q1 q2 U4 hft2 Rr;obtain⟨L,hL⟩:=aa (jq (first+av) ((bO n f).take i));rw[hL]at HH hlen Rr;have eb:=fun wx=>yH C wx
   obtain⟨cb,pW⟩:=aa wr.heap.size;have h2:aw w (wr.alloc (.cells #[.string C.az,.string C.val,.bool C.gone] 86)) [.cell cb 86 [.string C.az,.string C.val,.bool C.gone],qc (.slice p6 i c6) L]:=by rw[<-pW];exact(an HH).aY 86 [.string C.az,.string C.val,.bool C.gone]
   obtain⟨wa,hwa⟩:=aa (wr.alloc (.cells #[.string C.az,.string C.val,.bool C.gone] 86));rw[hwa]at h2;have k0:wa.cell? ⟨cb,0,none⟩=some (.string C.az):=h2.cellAt ae rfl;have k1:wa.cell? ⟨cb,1,none⟩=some (.string C.val):=h2.cellAt ae rfl;have k2:wa.cell? ⟨cb,2,none⟩=some (.bool C.gone):=h2.cellAt ae rfl;have H2:=aq h2;have Hsn:=aq Rr;have afx:=aq U4;have afw:=aq hft2;have mB:=aq hlen;have We:IntKind.i64.wrap ((av:Int)+(i:Int))=((av+i:Nat):Int):=by rw[IntKind.wrap_i64];omega
   unfold wu at eb
   cases hk:aR C with
   |some k=>
    have I1:su C=[]:=by unfold su;rw[hk];rfl
    rw[I1,hk]at eb;have Hk:=aq hk;obtain⟨az,val,gone⟩:=C;unfold MW at eb;simp only at eb q0 q1 q2 k0 k1 k2;have EB:=aq eb;clear eb hk h2 Rr U4 hft2 hlen below p0 p1 p2 ct oO ns hL hC HH I1;go_wp2_with fail;refine(an EB _).mono ?_;rintro e w2 ⟨rfl,cC⟩;have H3:=aq ((an H2).over cC);clear cC EB;simp only[bH];go_wp2_with fail;go_ret2;refine .inl ⟨k,?_,rfl,(an H3).below⟩;rw[an afw (by rw[an Hk];rfl),an Hk]
   |none=>
    have I1:su C=bZ C:=by unfold su;rw[hk];rfl
    have uF:=iW hk;rw[I1,hk]at eb;have et:=fun wx=>zY (bt [111]) (by rw[cB];simp) (first+(av+i)) (by omega) (bt (bZ C)) (by rw[cB];omega) wx
    have e3:CS (bt [111]) (first+(av+i)) (bt (bZ C))=bt (Uc (first+av+i) C):=by rw[zZ,Nat.add_assoc];rfl
    simp only[e3]at et;have en:=fun wx hq=>qn lb first (av+i) wx hf (by omega) hq
    have Hk:=aq hk;obtain⟨S,hS⟩:=aa (Uc (first+av+i) C);rw[hS]at et;rw[hS]at Hsn;obtain⟨Bb,hBb⟩:∃B:ByteArray,bt (bZ C)=B:=⟨_,rfl⟩;have Sf:(⟨(bZ C).toArray⟩:ByteArray)=Bb:=hBb;rw[hBb]at et;rw[Sf]at eb;obtain⟨az,val,gone⟩:=C;unfold MW at eb;simp only at eb q0 q1 q2 k0 k1 k2;have EB:=aq eb;have ET:=aq et;have EN:=aq en;clear eb et en e3 hk h2 Rr U4 hft2 hlen below p0 p1 p2 ct oO ns hL hC HH I1 uF hS hBb Sf;go_wp2_with fail;refine(an EB _).mono ?_;rintro e w2 ⟨rfl,cC⟩;have h3:=(an H2).over cC
    have H3:=aq (h3.aD []);obtain⟨q3,q4⟩:=an Hq _ h3.below;have EN2:=aq (an EN w2 q3);clear cC EB EN h3 k0 k1 k2 q0 q1 q2;simp only[bH];go_wp2_with fail;refine(an EN2).mono ?_;rintro e w3 ⟨rfl,rfl⟩;clear EN2 q3 q4;go_wp2_with fail;refine(an ET _).mono ?_;rintro e w4 ⟨rfl,iU⟩;have h4:=(an H3).over iU;obtain⟨v5,w5,hr5,h5⟩:=Ec h4 S (by have:=an mB;omega);have H5:=aq h5;clear iU ET H3 h4 h5
    go_wp2_with (at_builtin;refine bN rfl _ _ 168 168 rfl (.slice p6 i c6) (.slice (some ⟨w4.heap.size,0,none⟩) 1 1) rfl rfl hr5 ?_)
    clear hr5
    go_roundg (n-i)
    case measure=>omega
    case rel=>exact⟨i+1,by omega,by omega,by simp,by rw[an Hsn];exact H5,by rw[an afx];exact Hk⟩
  ·have mI:¬(i:Int)<(n:Int):=by omega
   have TY:i=n:=by omega
   subst TY;have h9:=an HH;have hF:=an HF;rw[take_of_length_le (by rw[cX];exact Nat.le_refl _)]at h9 hF hlen;obtain⟨q3,q4⟩:=an Hq _ h9.below;have en:=qn lb first (av+i) wr hf (by omega) q3
   have ec:=fun wx=>yC i (by omega) wx
   have et:=fun wx=>zY (bt [99]) (by rw[cB];simp) (first+(av+i)) (by omega) (bt (dw i 4)) (by rw[cB,bR];omega) wx
   have e3:CS (bt [99]) (first+(av+i)) (bt (dw i 4))=bt (Jd (first+av+i) i):=by rw[zZ,Nat.add_assoc];rfl
   simp only[e3]at et;have RT:kx (first+av) (bO i f)=jq (first+av) (bO i f)++[Jd (first+av+i) i]:=by unfold kx;rw[cX]
   obtain⟨S,hS⟩:=aa (Jd (first+av+i) i);rw[hS]at et RT;obtain⟨Bb,hBb⟩:∃B:ByteArray,bt (dw i 4)=B:=⟨_,rfl⟩;have Sf:(⟨(dw i 4).toArray⟩:ByteArray)=Bb:=hBb;rw[hBb]at et;rw[Sf]at ec;have EN:=aq en;have EC:=aq ec;have ET:=aq et;have H9:=aq h9;have Hd:=aq RT;have D4:=aq hF;have mB:=aq hlen;have We:IntKind.i64.wrap ((av:Int)+(i:Int))=((av+i:Nat):Int):=by rw[IntKind.wrap_i64];omega
   clear en ec et e3 h9 RT hS hBb Sf HH HF hF hlen;go_wp2_with fail;refine(an EN).mono ?_;rintro e w3 ⟨rfl,rfl⟩;clear EN q3 q4;go_wp2_with fail;refine(an EC _).mono ?_;rintro e w4 ⟨rfl,iU⟩;have JP:=aq ((an H9).over iU);clear EC iU H9;go_wp2_with fail;refine(an ET _).mono ?_;rintro e w5 ⟨rfl,qR⟩;have h5:=(an JP).over qR;obtain⟨v6,w6,hr6,h6⟩:=Ec h5 S (by have:=an mB;omega);have H6:=aq h6;clear qR ET JP h5 h6
   go_wp2_with (at_builtin;refine bN rfl _ _ 168 168 rfl (.slice p6 i c6) (.slice (some ⟨w5.heap.size,0,none⟩) 1 1) rfl rfl hr6 ?_)
   clear hr6;go_ret2;exact .inr ⟨an D4,_,rfl,by rw[an Hd];exact an H6⟩
theorem sE (n:Int) (h:-9223372036854775808<=n/\n<=9223372036854775807):IntKind.i64.wrap n=n:=by rw[IntKind.wrap_i64];omega
def dy:List (List UInt8)->DK->Nat->Option Int×DK
 |[],d,_=>(d.fu,d.fP)
 |s::r,d,a=>match d.kH (a:Int) s with
  |some e=>(some e,d.written (a:Int) s)
  |none=>dy r (d.written (a:Int) s) (a+1)
theorem tV (d:DK) (i:Int) (s:List UInt8):(d.written i s).wr.length<=d.wr.length+1:=by
 unfold DK.written
 split
 ·omega
 split
 ·rw[jn];omega
 ·simp only[DK.laid,jn,length_append,length_singleton];omega
def LL (w0:World) (db:Nat) (d:DK) (l2:List aI) (a:Nat) (l:List (List UInt8)) (e:Ending) (w':World):Prop:=e=.returned (bH (dy l d a).1)/\aE w0 w' db (dy l d a).2 l2
theorem Oe {w0 w:World} {db lb:Nat} {d:DK} {l2:List aI} {fr aF first av:Nat} (h:aE w0 w db d l2) (hL:eN lb db fr aF first av∈l2) (KT:fr<=1000) (a:Nat) (ha:a<=1000) (l:List (List UInt8)) (hl:l.length<=1000) (hw:d.wr.length+l.length<=100000)
 (p:Option Addr) (aU:Nat) (hp:0<l.length->∃b off,p=some ⟨b,off,none⟩/\∀w',aw w0 w' l2->∀j s,l[j]? = some s->w'.cell? ⟨b,off+j,none⟩=some (.string (bt s))):
 Calls prog 218 #[.pointer (some ⟨lb,0,none⟩),.int .i64 a,.slice p l.length aU] w fun e w'=>LL w0 db d l2 (fr+a) l e w':=by
 obtain⟨n,hn⟩:=aa l.length;rw[hn]at hl hw hp ⊢;have Hn:=aq hn;have HP:=aq hp;have HL:=aq hL;have H0:Hid (aE w0 w db d l2):=h;have HE0:Hid (dy l d (fr+a)=dy (l.drop 0) d (fr+a+0)):=rfl;have Hw:=aq hw;clear hp hn hL h;unfold LL;go_enter func218,ntmps218;go_wp2_with fail
 go_loopg [12] (n+1) (fun g vi wr=>∃(i:Nat) (di:DK),n-i<g/\i<=n/\vi=.int .i64 i/\Hid (aE w0 wr db di l2)/\Hid (dy l d (fr+a)=dy (l.drop i) di (fr+a+i))/\Hid (di.wr.length<=d.wr.length+i))
 case atStart=>exact⟨0,d,by omega,by omega,rfl,H0,HE0,Nat.le_refl _⟩
 case round=>
  clear H0 HE0;obtain⟨i,di,hg,hi,rfl,HD,HE,HW⟩:=hrel;have k0:wr.cell? ⟨lb,0,none⟩=some (.pointer (some ⟨db,0,none⟩)):=(an HD).cellAt (an HL) rfl;have k1:wr.cell? ⟨lb,1,none⟩=some (.int .i64 fr):=(an HD).cellAt (an HL) rfl
  by_cases gY:i<n
  ·have mI:(i:Int)<(n:Int):=by omega
   obtain⟨b,off,xj,gZ⟩:=an HP (by omega);subst xj;have Cc:i<l.length:=by rw[an Hn];exact gY
   obtain⟨s,hs⟩:∃s,l[i]? = some s:=⟨_,getElem?_eq_getElem Cc⟩;have q0:=gZ wr (an HD).hold i s hs
   have je:l.drop i=s::l.drop (i+1):=by rw[drop_eq_getElem_cons Cc];rw[getElem?_eq_getElem Cc]at hs;rw[Option.some.inj hs]
   have ew:=fun wx (hx:aE w0 wx db di l2)=>l5 w0 wx db di l2 hx (by have:=an HW;have:=an Hw;omega) ((fr:Int)+(a:Int)+(i:Int)) (bt s)
   unfold sw at ew;have Wz:((fr:Int)+(a:Int)+(i:Int))=((fr+a+i:Nat):Int):=by omega
   have uz:(bt s).data.toList=s:=fK s;simp only[uz]at ew;have hE:=an HE;rw[je,dy]at hE;have Di:=tV di ((fr:Int)+(a:Int)+(i:Int)) s;rw[<-Wz]at hE;have rh:Hid (wr.drew.cell? ⟨lb,0,none⟩=some (.pointer (some ⟨db,0,none⟩))/\wr.drew.cell? ⟨lb,1,none⟩=some (.int .i64 fr)):=⟨k0,k1⟩;have TE:Hid (∀wx dx,aE w0 wx db dx l2->wx.cell? ⟨lb,0,none⟩=some (.pointer (some ⟨db,0,none⟩))/\wx.cell? ⟨lb,1,none⟩=some (.int .i64 fr)):=fun wx dx hx=>⟨hx.cellAt (an HL) rfl,hx.cellAt (an HL) rfl⟩
   obtain⟨S,hS⟩:=aa (bt s);rw[hS]at q0 ew
   have Cx:IntKind.i64.wrap (IntKind.i64.wrap ((fr:Int)+(a:Int))+(i:Int))=(fr:Int)+(a:Int)+(i:Int):=by rw[sE ((fr:Int)+(a:Int)) (by omega),sE _ (by omega)]
   have Ul:=aq (an HD).drew
   cases ho:di.kH ((fr:Int)+(a:Int)+(i:Int)) s with
   |some k=>
    rw[ho]at ew hE;simp only[bH]at ew hE;have ew2:∀wx,aE w0 wx db di l2->Calls prog 155 #[.pointer (some ⟨db,0,none⟩),.int .i64 (IntKind.i64.wrap (IntKind.i64.wrap ((fr:Int)+(a:Int))+(i:Int))),.string S] wx fun e w'=>e=.returned (.iface 88 (.int .i64 k))/\aE w0 w' db (di.written ((fr:Int)+(a:Int)+(i:Int)) s) l2:=fun wx hx=>by rw[Cx];exact ew wx hx
    have EW:=aq ew2;have V2:=aq hE;clear ew ew2 Cx hE ho je hs gZ uz hS Di HE HD Cc Wz;go_wp2_with fail
    go_region_held (fun w'=>w'.cell? ⟨lb,0,none⟩=some (.pointer (some ⟨db,0,none⟩))/\w'.cell? ⟨lb,1,none⟩=some (.int .i64 fr)) (first|exact an rh|exact an xK) ((go_at_call 155;refine(an EW _ ?_).mono ?_;exact an Ul;rintro e w6 ⟨rfl,mh⟩;have xK:Hid (w6.cell? ⟨lb,0,none⟩=some (.pointer (some ⟨db,0,none⟩))/\w6.cell? ⟨lb,1,none⟩=some (.int .i64 fr)):=an TE _ _ mh;have zH:=aq mh;clear mh))
    all_goals
     go_wp2_with fail
     go_ret;rw[an V2];exact⟨rfl,an zH⟩
   |none=>
    rw[ho]at ew hE;simp only[bH]at ew hE;have ew2:∀wx,aE w0 wx db di l2->Calls prog 155 #[.pointer (some ⟨db,0,none⟩),.int .i64 (IntKind.i64.wrap (IntKind.i64.wrap ((fr:Int)+(a:Int))+(i:Int))),.string S] wx fun e w'=>e=.returned .nilIface/\aE w0 w' db (di.written ((fr:Int)+(a:Int)+(i:Int)) s) l2:=fun wx hx=>by rw[Cx];exact ew wx hx
    have EW:=aq ew2;have V2:=aq hE;have HW2:=aq Di;clear ew ew2 Cx hE ho je hs gZ uz hS Di HE HD Cc Wz;go_wp2_with fail
    go_region_held (fun w'=>w'.cell? ⟨lb,0,none⟩=some (.pointer (some ⟨db,0,none⟩))/\w'.cell? ⟨lb,1,none⟩=some (.int .i64 fr)) (first|exact an rh|exact an xK) ((go_at_call 155;refine(an EW _ ?_).mono ?_;exact an Ul;rintro e w6 ⟨rfl,mh⟩;have xK:Hid (w6.cell? ⟨lb,0,none⟩=some (.pointer (some ⟨db,0,none⟩))/\w6.cell? ⟨lb,1,none⟩=some (.int .i64 fr)):=an TE _ _ mh;have zH:=aq mh;clear mh))
    all_goals
     go_wp2_with fail
     go_roundg (n-i)
     case measure=>omega
     case rel=>exact⟨i+1,_,by omega,by omega,by simp,zH,V2,by have:=an HW;have:=an HW2;show _<=_;omega⟩
  ·have mI:¬(i:Int)<(n:Int):=by omega
   have TY:i=n:=by omega
   subst TY;have hE:=an HE;rw[drop_of_length_le (by rw[an Hn];exact Nat.le_refl _),dy]at hE;have ef:=sf w0 wr db di l2 (an HD);unfold sD at ef;have EF:=aq ef;have V2:=aq hE;clear ef hE HE HD;go_wp2_with fail;refine(an EF).mono ?_;rintro e w6 ⟨rfl,mh⟩;have zH:=aq mh;clear mh;go_wp2_with fail;go_ret;rw[an V2];exact⟨rfl,an zH⟩
theorem aE.back {w0 w:World} {db:Nat} {d:DK} {l2:List aI} (h:aE w0 w db d l2):∃dp,aw w0 w (l2++dp)/\∀w' Zc,aw w0 w' (Zc++dp)->aE w0 w' db d Zc:=by
 obtain⟨g0,c0,g1,c1,v2,a1,a2,a3,a4,H⟩:=h.mem;refine⟨[_,_,_,_],H.perm (perm_append_comm (l₁:=l2)),fun w' Zc H'=>⟨h.ok,g0,c0,g1,c1,v2,a1,a2,a3,a4,H'.perm ?_⟩⟩;exact perm_append_comm (l₁:=[_,_,_,_]) (l₂:=Zc)
theorem aw.eM {w0 w:World} (R:List aI) {l2:List aI} (h:aw w0 w (R++l2)):aw w0 w l2:=by
 induction R with
 |nil=>exact h
 |cons r R ih=>exact ih (h.aD [])
theorem aE.eM {w0 w:World} {db:Nat} {d:DK} (R:List aI) {l2:List aI} (h:aE w0 w db d (R++l2)):aE w0 w db d l2:=by
 obtain⟨dp,h1,h2⟩:=h.back;exact h2 w l2 ((append_assoc R l2 dp▸h1).eM R)
theorem aE.perm {w0 w:World} {db:Nat} {d:DK} {l2 l3:List aI} (h:aE w0 w db d l2) (hp:l3.Perm l2):aE w0 w db d l3:=by
 obtain⟨dp,h1,h2⟩:=h.back;exact h2 w l3 (h1.perm (hp.append_right dp))
theorem yd {b b':Nat} {w:World} {k:T.bQ} {aQ:List T.aG} {aM:List T.bQ} {v0 v1:Value} (hb:b<=b') (h:T.lQ b' w k aQ aM v0 v1):T.lQ b w k aQ aM v0 v1:=
 ⟨h.cell,Nat.le_trans hb h.low,gp h.items hb,gp h.below hb,h.c,h.L,h.own,h.uniq⟩
theorem Ab {b b':Nat} {w:World} (hb:b<=b'):∀{h:Nat} {k:T.bQ},T.Sub b' w h k->T.Sub b w h k
 | 0,_,⟨aQ,v0,v1,hn⟩=>⟨aQ,v0,v1,yd hb hn⟩
 |h+1,_,⟨aQ,aM,v0,v1,hn,hl,hk⟩=>⟨aQ,aM,v0,v1,yd hb hn,hl,fun x hx=>⟨(hk x hx).1,(hk x hx).2.1,Ab hb (hk x hx).2.2⟩⟩
theorem Qz {b b':Nat} {w:World} (hb:b<=b') {r:T.aI} (h:r.Sat b' w):r.Sat b w:=by
 cases r with
 |cell c t vs=>exact⟨Nat.le_trans hb h.1,h.2⟩
 |row v e k n xs=>exact gp h hb
 |sub n k=>exact Ab hb h
 |subs n aM=>exact fun x hx=>Ab hb (h x hx)
 |obj c p=>exact⟨Nat.le_trans hb h.1,h.2⟩
theorem aw.join {w0 w w':World} {l2:List aI} (h:aw w0 w l2):∀{rs:List aI},aw w w' rs->aw w0 w' (rs++l2):=fun {rs} hr=>by
 have h':=h.over hr.below;refine⟨fun q hq=>?_,fun x=>?_,h'.below⟩
 ·rcases mem_append.1 hq with hq|hq
  ·have hs:=hr.sat q hq;have gP:=h.size
   cases q with
   |cell b t vs=>exact⟨Nat.le_trans gP hs.1,hs.2⟩
   |row v e k n xs=>exact gp hs gP
   |obj b o=>exact⟨Nat.le_trans gP hs.1,hs.2⟩
   |fs r=>exact⟨Qz gP hs.1,hs.2⟩
  ·exact h'.sat q hq
 ·rw[ay]
  rcases Nat.lt_or_ge x w.heap.size with hx|hx
  ·have:total rs x=0:=by
    have az:∀l:List aI,(∀r∈l,r.Sat w.heap.size w')->total l x=0:=by
     intro l
     induction l with
     |nil=>intro _;rfl
     |cons a l ih=>intro hl;rw[ax,ih fun r hr=>hl r (by simp[hr])];have:=(hl a (by simp)).range x;omega
    exact az rs hr.sat
   have:=h.uniq x;omega
  ·have h1:=h.beyond hx;have h2:=hr.uniq x;omega
theorem aE.join {w0 w w':World} {db:Nat} {d:DK} {l2 rs:List aI} (h:aE w0 w db d l2) (hr:aw w w' rs):aE w0 w' db d (rs++l2):=by
 obtain⟨dp,h1,h2⟩:=h.back;exact h2 w' _ (by rw[append_assoc];exact h1.join hr)
theorem aE.over {w0 w w':World} {db:Nat} {d:DK} {l2:List aI} (h:aE w0 w db d l2) (hb:Below w.heap.size w w'):aE w0 w' db d l2:=h.keep (Kept.iH hb)
theorem Iz:∃i z,prog.info? 9=some i/\i.zero=some z/\i.size=1/\i.bytes=16/\z.cells.size=1:=Wd
theorem GA {w0 wx:World} {g n aU:Nat} {s0:List UInt8} {r:List (List UInt8)} {l2:List aI} (hn:r.length+1=n) (H:aw w0 wx (qc (.slice (some ⟨g,0,none⟩) n aU) (s0::r)::l2)) (hl:n<=1000) (c:List UInt8) (o:Nat) (ho:(o=1/\¬aU=1)∨(o=0/\aU=1)):
 ∃b off c' w' R,(Builtin.append_ #[168,168] 168 #[.slice (some ⟨g,o,none⟩) (n-1) (aU-1),.slice (some ⟨wx.heap.size,0,none⟩) 1 1]).run prog (wx.alloc (.cells #[.string (bt c)] 9))=.ok (.slice (some ⟨b,off,none⟩) n c') w'/\aw w0 w' (R++l2)/\
  (∀F9 l3,(∀x∈R,x∈l3)->aw w0 F9 l3->(∀j s,(r++[c])[j]? = some s->F9.cell? ⟨b,off+j,none⟩=some (.string (bt s)))/\F9.cell? ⟨g,0,none⟩=some (.string (bt s0))):=by
 subst hn;obtain⟨i,z,Cd,hz,gP,hby,Dh⟩:=Iz;have h1:=H.aY 9 [.string (bt c)]
 have qC:∀j u,[Value.string (bt c)][j]? = some u->(wx.alloc (.cells #[.string (bt c)] 9)).cell? ((⟨wx.heap.size,0,none⟩:Addr).add j)=some u:=fun j u hj=>by rw[add_plain,Nat.zero_add];exact h1.cellAt ae hj
 have dW:=H.rowAt ae
 obtain⟨hg,hb,cur,hheap,uC,lJ,gZ,ID⟩:∃(_:True) (_:w0.heap.size<=g) (cur:Array Value),wx.heap[g]? = some (.cells cur 9 (0,0))/\r.length+1<=aU/\aU<=maxLen/\cur.size=aU*1/\cur.toList.take ((r.length+1)*1)=tj (s0::r):=by
  rcases dW.2 with⟨h0,_⟩|⟨g',cap',cur,hv,a1,a2,a3,a4,a5,a6⟩
  ·cases h0
  ·cases hv
   exact⟨trivial,a1,cur,a2,a3,a4,a5,a6⟩
 have aeB:g<wx.heap.size:=(Array.getElem?_eq_some_iff.1 hheap).1
 have KQ:(wx.alloc (.cells #[.string (bt c)] 9)).heap[g]? = some (.cells cur 9 (0,0)):=by rw[Below.heap_alloc _ _ _ aeB];exact hheap
 have Dl:∀(F9:World) (L:List (List UInt8)) (m:Nat) (l3:List aI),L.length=m->aw w0 F9 l3->qc (.slice (some ⟨g,0,none⟩) m aU) L∈l3->∀j s,L[j]? = some s->F9.cell? ⟨g,j,none⟩=some (.string (bt s)):=fun F9 L m l3 hm hh uD j s hj=>by subst hm;exact hh.jb uD (uY hj)
 by_cases kT:r.length+1+1<=aU
 ·obtain rfl:o=1:=by omega
  have fk:∀j,j < [Value.string (bt c)].length->((wx.alloc (.cells #[.string (bt c)] 9)).cell? ⟨g,1+(r.length+1-1)*i.size+j,none⟩).isSome=true:=fun j hj=>by simp at hj;subst hj;rw[cell_of_row _ g _ cur 9 (0,0) KQ,gP,Array.getElem?_eq_getElem (by omega)];rfl
  have KT:∀j,j < [Value.string (bt c)].length->(wx.alloc (.cells #[.string (bt c)] 9)).frozen? ⟨g,1+(r.length+1-1)*i.size+j,none⟩=false:=fun j _=>frozen_of_row _ g _ _ 9 KQ
  have hr:=run_append_room_cells (P:=prog) (wx.alloc (.cells #[.string (bt c)] 9)) 168 168 9 i underlying168 Cd g 1 (r.length+1-1) (aU-1) ⟨wx.heap.size,0,none⟩ 1 1 [.string (bt c)] (by rw[gP];rfl) qC (fun u hu=>by rw[mem_singleton.1 hu];rfl) (by omega) fk KT
  have kC:=run_append_room_cells (P:=prog) (wx.alloc (.cells #[.string (bt c)] 9)) 168 168 9 i underlying168 Cd g 0 (r.length+1) aU ⟨wx.heap.size,0,none⟩ 1 1 [.string (bt c)] (by rw[gP];rfl) qC (fun u hu=>by rw[mem_singleton.1 hu];rfl) (by omega)
   (fun j hj=>by have:=fk j hj;rw[gP]at this ⊢;rw[show 0+(r.length+1)*1+j=1+(r.length+1-1)*1+j by omega];exact this)
   (fun j hj=>frozen_of_row _ g _ _ 9 KQ)
  obtain⟨v',w',h2,h3⟩:=Ec H c (by rw[length_cons];omega);rw[kC]at h2;injection h2 with hv hw;have UT:0+(r.length+1)*i.size=1+(r.length+1-1)*i.size:=by rw[gP];omega
  rw[UT]at hw;refine⟨g,1,aU-1,w',[qc v' (s0::r++[c])],?_,h3,?_⟩
  ·rw[hr,hw,show r.length+1-1+1=r.length+1 by omega]
  ·intro F9 l3 hR hh;subst hv;have hk:=Dl F9 (s0::r++[c]) (r.length+1+1) _ (by simp) hh (hR _ ae);refine⟨fun j s hj=>?_,hk 0 s0 rfl⟩;rw[Nat.add_comm];exact hk (j+1) s (by rw[cons_append,getElem?_cons_succ];exact hj)
 ·have holds:∀j u,(tj r)[j]? = some u->(wx.alloc (.cells #[.string (bt c)] 9)).cell? ((⟨g,o,none⟩:Addr).add j)=some u:=fun j u hj=>by
   rw[add_plain];have Gg:=(List.getElem?_eq_some_iff.1 hj).1;rw[xP]at Gg;obtain rfl:o=1:=by omega
   obtain⟨s,hs,rfl⟩:∃s,r[j]? = some s/\u=.string (bt s):=by
    unfold tj at hj;rw[getElem?_map]at hj
    cases hs:r[j]? with
    |none=>rw[hs]at hj;cases hj
    |some s=>rw[hs]at hj;exact⟨s,rfl,(Option.some.inj hj).symm⟩
   rw[Nat.add_comm];exact Dl _ (s0::r) (r.length+1) _ rfl h1 af (j+1) s (by rw[getElem?_cons_succ];exact hs)
  obtain⟨v',w',hr,ho,IT⟩:=run_append_arg_grows (P:=prog) (wx.alloc (.cells #[.string (bt c)] 9)) 168 168 9 i z 1 16 underlying168 Cd hz gP hby Dh (by decide) ⟨g,o,none⟩ (r.length+1-1) (aU-1) (tj r) (by rw[xP];omega) holds ⟨wx.heap.size,0,none⟩ 1 1 [.string (bt c)] rfl qC (by omega) (by unfold maxLen;omega) (by omega);have uG:Below (wx.alloc (.cells #[.string (bt c)] 9)).heap.size (wx.alloc (.cells #[.string (bt c)] 9)) w':=(Below.refl _ _).grown IT (Nat.le_refl _) (fun k hk=>by cases hk);have hlen:r.length+1-1+1=(r++[c]).length:=by simp
  have R6:tj r++[.string (bt c)]=tj (r++[c]):=by simp[tj]
  rw[hlen,R6]at ho;have hj:aw (wx.alloc (.cells #[.string (bt c)] 9)) w' [qc v' (r++[c])]:=(aw.init _).newRow uG ho (fun y hy=>(World.ownsRow.lt ho y hy).1);have h4:=(h1.aD []).join hj;obtain⟨p',c',IC,_⟩:=cI ho;obtain⟨b',cc,wE,_⟩:=aZ ho (by simp);have rY:(r++[c]).length=r.length+1:=by simp
  rw[rY]at wE;refine⟨b',0,cc,w',[qc v' (r++[c]),qc (.slice (some ⟨g,0,none⟩) (r.length+1) aU) (s0::r)],by rw[hr,wE],h4,?_⟩;intro F9 l3 hR hh;refine⟨fun j s hj=>?_,Dl F9 (s0::r) (r.length+1) _ rfl hh (hR _ af) 0 s0 rfl⟩;rw[Nat.zero_add]
  have hm:aI.row (.slice (some ⟨b',0,none⟩) (r.length+1) cc) 9 1 (r.length+1) (tj (r++[c]))∈l3:=by have:=hR _ ae;unfold qc at this;rw[rY,wE]at this;exact this
  exact hh.jb hm (uY hj)
def gM (av aF:Nat) (r:List (List UInt8)):List (List UInt8):=if av+(r.length+1)<aF then r++[[]]else r
def eT (d:DK) (fr av aF:Nat) (s0:List UInt8) (r:List (List UInt8)):Option Int×DK:=
 match dy [[]] d (fr+av)with
 |(some e,d1)=>(some e,d1)
 |(none,d1)=>match dy (gM av aF r) d1 (fr+(av+1))with
  |(some e,d2)=>(some e,d2)
  |(none,d2)=>dy [s0] d2 (fr+av)
theorem uJ (d:DK) (h:d.fu=none):d.fP.wr=[]:=by
 unfold DK.fu at h;unfold DK.fP
 cases hf:d.oT with
 |true=>rw[hf]at h;simp at h
 |false=>rfl
theorem vt:∀(l:List (List UInt8)) (d:DK) (a:Nat),(dy l d a).1=none->(dy l d a).2.wr=[]
 |[],d,a,h=>uJ d h
 |s::r,d,a,h=>by
  rw[dy]at h ⊢
  cases hw:d.kH (a:Int) s with
  |some e=>rw[hw]at h;simp at h
  |none=>rw[hw]at h;simp only at h ⊢;exact vt r _ _ h
def sz (w0:World) (db:Nat) (d:DK) (l2:List aI) (fr av aF:Nat) (s0:List UInt8) (r:List (List UInt8)) (e:Ending) (w':World):Prop:=e=.returned (bH (eT d fr av aF s0 r).1)/\aE w0 w' db (eT d fr av aF s0 r).2 l2
theorem vh {w0:World} {db lb:Nat} {l2:List aI} {fr aF first av:Nat} (hL:eN lb db fr aF first av∈l2) (KT:fr<=1000) (hu:av<=1000) (s0:List UInt8) (r:List (List UInt8)) (hr:r.length<=100) (d:DK) (hw:d.wr.length<=50000)
 (rest:List (List UInt8)) (kU:gM av aF r=rest) (e1:Option Int) (d1:DK) (h1:dy [[]] d (fr+av)=(e1,d1)):(∀k,e1=some k->eT d fr av aF s0 r=(some k,d1))/\(e1=none->d1.wr=[]/\∀e2 d2,dy rest d1 (fr+(av+1))=(e2,d2)->(∀k,e2=some k->eT d fr av aF s0 r=(some k,d2))/\(e2=none->d2.wr=[]/\eT d fr av aF s0 r=dy [s0] d2 (fr+av))):=by
 unfold eT;rw[h1,kU];refine⟨fun k hk=>by subst hk;rfl,fun hk=>⟨?_,fun e2 d2 h2=>?_⟩⟩
 ·have:=vt [[]] d (fr+av);rw[h1]at this;exact this hk
 ·subst hk;simp only;rw[h2];refine⟨fun k hk=>by subst hk;rfl,fun hk=>⟨?_,by subst hk;rfl⟩⟩;have:=vt rest d1 (fr+(av+1));rw[h2]at this;exact this hk
def aaP (w0 wA:World) (db:Nat) (d:DK) (l2:List aI) (g av aF:Nat) (s0:List UInt8) (r:List (List UInt8)) (P5:Option Addr) (m:Nat):Prop:=
 ∃R rest,gM av aF r=rest/\rest.length=m/\aE w0 wA db d (R++l2)/\(0<rest.length->∃b off,P5=some ⟨b,off,none⟩/\∀R' w',aw w0 w' ((R'++R)++l2)->∀j s,rest[j]? = some s->w'.cell? ⟨b,off+j,none⟩=some (.string (bt s)))/\∀R' w',aw w0 w' ((R'++R)++l2)->w'.cell? ⟨g,0,none⟩=some (.string (bt s0))
theorem NM {w0 w:World} {db lb:Nat} {d:DK} {l2:List aI} {fr aF first av:Nat} {v:Value} {s0:List UInt8} {r:List (List UInt8)} (h:aE w0 w db d (qc v (s0::r)::l2)) (hL:eN lb db fr aF first av∈l2) (KT:fr<=1000) (hu:av<=900) (RE:aF<=1000) (hr:r.length<=50) (hw:d.wr.length<=50000):
 Calls prog 168 #[.pointer (some ⟨lb,0,none⟩),v] w fun e w'=>sz w0 db d l2 fr av aF s0 r e w':=by
 obtain⟨n,hn⟩:=aa (r.length+1);have Gc:=h.hold.rowAt ae;rw[show(s0::r).length=n from hn]at Gc;obtain⟨g,aU,hv,uC,lJ⟩:=aZ Gc (by omega);subst hv;have k4:w.cell? ⟨lb,4,none⟩=some (.int .i64 av):=h.cellAt (.tail _ hL) rfl;have k2:w.cell? ⟨lb,2,none⟩=some (.int .i64 aF):=h.cellAt (.tail _ hL) rfl;have HH:=aq h;have HL:=aq hL;have HW:=aq hw;have Hn:=aq hn;have Hr:=aq hr
 have aaO:∀(R:List aI) (dx:DK) (wx:World) (a:Nat),a<=1000->dx.wr.length<=50000->∀(l:List (List UInt8)) (n:Nat),l.length=n->n<=100->∀(p:Option Addr) (c:Nat),(0<l.length->∃b off,p=some ⟨b,off,none⟩/\∀w',aw w0 w' (R++l2)->∀j s,l[j]? = some s->w'.cell? ⟨b,off+j,none⟩=some (.string (bt s)))->aE w0 wx db dx (R++l2)->∀e2 d2,dy l dx (fr+a)=(e2,d2)->Calls prog 218 #[.pointer (some ⟨lb,0,none⟩),.int .i64 a,.slice p n c] wx fun e w'=>e=.returned (bH e2)/\aE w0 w' db d2 (R++l2):=
  fun R dx wx a ha Di l n E0 hl p c hp hx e2 d2 h2=>by subst E0;have:=Oe hx (mem_append.2 (.inr (an HL))) KT a ha l (by omega) (by omega) p c hp;unfold LL at this;rw[h2]at this;exact this
 have zm:=aq aaO;have qW:Hid (∀(R:List aI) (dx:DK) (wx:World),aE w0 wx db dx (R++l2)->wx.cell? ⟨lb,4,none⟩=some (.int .i64 av)):=fun R dx wx hx=>hx.cellAt (mem_append.2 (.inr (an HL))) rfl
 have Mw:(1:Int)<=(n:Int):=by omega
 have Mv:(1:Int)<=(aU:Int):=by omega
 have Ge:n<=100:=by omega
 clear aaO h Gc hL hw hr hn;unfold sz;go_enter func168,ntmps168;go_upto_region 1 with fail
 go_cut [5]from 8 to 9 (fun a5 wc=>∃o:Nat,a5=.slice (some ⟨g,o,none⟩) (n-1) (aU-1)/\wc=w/\((o=1/\¬aU=1)∨(o=0/\aU=1/\n=1)))
 case first=>
  by_cases KW:aU=1
  ·obtain rfl:n=1:=by omega
   subst KW;go_wp2_with fail
   go_meet
   exact⟨0,rfl,rfl,by simp⟩
  ·go_wp2_with fail
   go_meet
   exact⟨1,rfl,rfl,by simp[KW]⟩
 case rest=>
 obtain⟨o,rfl,hwc,ho⟩:=hcut;have hwc:=hwc.symm;subst hwc;go_upto_region 2 with fail
 go_cut [21]from 10 to 21 (fun a21 wc=>a21=.bool (decide (av+n<aF))/\∃q,wc=w.drewN q)
 case first=>
  by_cases eO:av+n<aF
  ·have RF:(av:Int)+(n:Int)<(aF:Int):=by omega
   go_quiet (fail)
   go_wp2_with fail
   go_meet
   exact⟨by simp[eO],nq,rfl⟩
  ·have RF:¬(av:Int)+(n:Int)<(aF:Int):=by omega
   go_quiet (fail)
   go_wp2_with fail
   go_meet
   exact⟨by simp[eO],nq,rfl⟩
 case rest=>
 obtain⟨rfl,q,rfl⟩:=hcut;obtain⟨bl,uF⟩:=aa (decide (av+n<aF));rw[uF];go_upto_if 21 with fail
 go_cut [5]from 22 to 24 (fun a5 wc=>∃P5 m c5,a5=.slice P5 m c5/\m<=100/\Hid (aaP w0 wc db d l2 g av aF s0 r P5 m))
 case first=>
  cases bl with
  |true=>
   have eO:av+n<aF:=of_decide_eq_true uF;have kU:gM av aF r=r++[[]]:=by unfold gM;rw[an Hn,if_pos eO]
   have pT:=aq kU;have hHn:=(an HH).drewN q;obtain⟨dp,UZ,OC⟩:=hHn.back;obtain⟨b5,off5,c5,wA,R,jD,hA,ct⟩:=GA (an Hn) UZ (by omega) [] o (by omega)
   have HE:Hid (aaP w0 wA db d l2 g av aF s0 r (some ⟨b5,off5,none⟩) n):=
    ⟨R,_,kU,by rw[length_append,length_singleton];exact an Hn,OC wA (R++l2) (by rw[append_assoc];exact hA),fun _=>⟨b5,off5,rfl,fun R' w' hh=>(ct w' _ (fun x hx=>by simp[hx]) hh).1⟩,fun R' w' hh=>(ct w' _ (fun x hx=>by simp[hx]) hh).2⟩
   clear UZ OC hA ct hHn kU eO uF pT ho
   go_wp2_with (at_builtin;refine bN rfl _ _ 168 168 rfl (.slice (some ⟨g,o,none⟩) (n-1) (aU-1)) (.slice (some ⟨(w.drewN q).heap.size,0,none⟩) 1 1) (by simp[Act.eval,Act.put]) rfl jD ?_)
   go_meet
   exact⟨_,_,_,rfl,by omega,HE⟩
  |false=>
   have eO:¬av+n<aF:=of_decide_eq_false uF;have kU:gM av aF r=r:=by unfold gM;rw[an Hn,if_neg eO]
   have uD:qc (.slice (some ⟨g,0,none⟩) n aU) (s0::r)=.row (.slice (some ⟨g,0,none⟩) n aU) 9 1 n (tj (s0::r)):=by unfold qc;rw[show(s0::r).length=n from an Hn]
   have ct:∀R' w',aw w0 w' ((R'++[qc (.slice (some ⟨g,0,none⟩) n aU) (s0::r)])++l2)->∀j s,(s0::r)[j]? = some s->w'.cell? ⟨g,j,none⟩=some (.string (bt s)):=fun R' w' hh j s hj=>by rw[uD]at hh;exact hh.jb (n:=n) (aU:=aU) (e:=9) (k:=1) (xs:=tj (s0::r)) (by simp) (uY hj)
   have HE:Hid (aaP w0 (w.drewN q) db d l2 g av aF s0 r (some ⟨g,o,none⟩) (n-1)):=
    ⟨[qc (.slice (some ⟨g,0,none⟩) n aU) (s0::r)],_,kU,by have:=an Hn;omega,(an HH).drewN q,fun hp=>⟨g,o,rfl,fun R' w' hh j s hj=>by
     have zQ:o=1:=by have:=an Hn;omega
     have:=ct R' w' hh (j+1) s hj
     rwa [Nat.add_comm j 1,<-zQ]at this⟩,fun R' w' hh=>ct R' w' hh 0 s0 rfl⟩
   clear ct uD kU eO uF ho;go_wp2_with fail
   go_meet
   exact⟨_,_,_,rfl,by omega,HE⟩
 case rest=>
  obtain⟨P5,m,c5,rfl,hm100,HM⟩:=hcut;obtain⟨R,rest,kU,hm,hA,hP,hG⟩:=an HM;have pT:=aq kU;have Hm:=aq hm;have HA:=aq hA;have HP:=aq hP;have HG:=aq hG;clear kU hm hA hP hG HM uF ho;have k4:wc.cell? ⟨lb,4,none⟩=some (.int .i64 av):=an qW R d wc (an HA);obtain⟨e1,d1,h1⟩:∃e1 d1,dy [[]] d (fr+av)=(e1,d1):=⟨_,_,rfl⟩;obtain⟨p1,p2⟩:=vh (w0:=w0) (an HL) KT (by omega) s0 r (by have:=an Hn;omega) d (an HW) _ (an pT) e1 d1 h1;obtain⟨B1,WR⟩:=aa wc.heap.size
  have Gh:aE w0 (wc.alloc (.cells #[.string ⟨#[]⟩] 9)) db d ((.cell B1 9 [.string (bt [])]::R)++l2):=by rw[<-WR];exact(an HA).aY 9 [.string (bt [])]
  have E1:=aq (an zm (.cell B1 9 [.string (bt [])]::R) d _ av (by omega) (an HW) [[]] 1 rfl (by omega) (some ⟨B1,0,none⟩) 1 (fun _=>⟨B1,0,rfl,fun w' hh j s hj=>by
   rcases j with _|j
   ·cases hj;exact hh.cellAt ae rfl
   ·simp at hj⟩) Gh e1 d1 h1)
  have P1:=aq p1;have P2:=aq p2;clear p1 p2 h1 Gh;go_wp2_with fail;refine(an E1).mono ?_;rintro e w1 ⟨rfl,yr⟩;have CM:=aq yr;clear yr E1 k4
  cases e1 with
  |some k=>simp only[bH];go_wp2_with fail;go_ret;rw[an P1 k rfl];exact⟨rfl,(an CM).eM _⟩
  |none=>
   obtain⟨yV,p3⟩:=an P2 rfl;obtain⟨e2,d2,h2⟩:∃e2 d2,dy rest d1 (fr+(av+1))=(e2,d2):=⟨_,_,rfl⟩;obtain⟨p4,p5⟩:=p3 e2 d2 h2;have k4:w1.cell? ⟨lb,4,none⟩=some (.int .i64 av):=an qW _ d1 w1 (an CM)
   have xw:=an zm (.cell B1 9 [.string (bt [])]::R) d1 w1 (av+1) (by omega) (by rw[yV];simp) rest _ (an Hm) (by omega) P5 c5 (fun hp=>by
    obtain⟨b,off,q1,q2⟩:=an HP hp;exact⟨b,off,q1,fun w' hh=>q2 [.cell B1 9 [.string (bt [])]] w' hh⟩) (an CM) e2 d2 h2
   have oQ:((av+1:Nat):Int)=(av:Int)+1:=by omega
   rw[oQ]at xw;have E2:=aq xw;have P4:=aq p4;have Tf:=aq p5;clear xw p3 p4 p5 h2 P1 P2 oQ yV;simp only[bH];go_wp2_with fail;refine(an E2).mono ?_;rintro e w2 ⟨rfl,Cg⟩;have zI:=aq Cg;clear Cg E2 k4
   cases e2 with
   |some k=>simp only[bH];go_wp2_with fail;go_ret;rw[an P4 k rfl];exact⟨rfl,(an zI).eM _⟩
   |none=>
    obtain⟨vy,p6⟩:=an Tf rfl;obtain⟨e3,d3,h3⟩:∃e3 d3,dy [s0] d2 (fr+av)=(e3,d3):=⟨_,_,rfl⟩;rw[h3]at p6;obtain⟨B2,Gj⟩:=aa w2.heap.size;have gZ:∀wx dx,aE w0 wx db dx ((.cell B1 9 [.string (bt [])]::R)++l2)->wx.cell? ⟨lb,4,none⟩=some (.int .i64 av)/\wx.cell? ⟨g,0,none⟩=some (.string (bt s0)):=fun wx dx hx=>⟨an qW _ dx wx hx,an HG [.cell B1 9 [.string (bt [])]] wx hx.hold⟩
    have Cj:Hid (aE w0 (w2.alloc (.cells #[.string (bt s0)] 9)).drew db d2 ((.cell B2 9 [.string (bt s0)]::.cell B1 9 [.string (bt [])]::R)++l2)):=by rw[<-Gj];exact((an zI).aY 9 [.string (bt s0)]).drew
    have xw:=fun wx hx=>an zm (.cell B2 9 [.string (bt s0)]::.cell B1 9 [.string (bt [])]::R) d2 wx av (by omega) (by rw[vy];simp) [s0] 1 rfl (by omega) (some ⟨B2,0,none⟩) 1 (fun _=>⟨B2,0,rfl,fun w' hh j s hj=>by
     rcases j with _|j
     ·cases hj;exact hh.cellAt ae rfl
     ·simp at hj⟩) hx e3 d3 h3
    have E3:=aq xw;have xo:=gZ w2 d2 (an zI);have K3:=fun o=>gZ (w2.alloc o) d2 ((an zI).alloc o)
    have K4:∀w3,aE w0 w3 db d3 ((.cell B2 9 [.string (bt s0)]::.cell B1 9 [.string (bt [])]::R)++l2)->w3.cell? ⟨lb,4,none⟩=some (.int .i64 av)/\w3.cell? ⟨g,0,none⟩=some (.string (bt s0)):=fun w3 hx=>gZ w3 d3 (hx.eM [_])
    obtain⟨S0,hS⟩:=aa (bt s0);rw[hS]at E3 Cj K4 xo K3;have rh:Hid (w2.drew.cell? ⟨lb,4,none⟩=some (.int .i64 av)/\w2.drew.cell? ⟨g,0,none⟩=some (.string S0)):=xo;have YW:Hid (∀o,(w2.alloc o).drew.cell? ⟨lb,4,none⟩=some (.int .i64 av)/\(w2.alloc o).drew.cell? ⟨g,0,none⟩=some (.string S0)):=K3;have YX:=aq K4;have P6:=aq p6;have k4:=xo.1;have k0:=xo.2;clear xw gZ xo K3 K4 h3 p6 vy P4 Tf hS;simp only[bH];go_wp2_with fail
    go_region_held (fun w'=>w'.cell? ⟨lb,4,none⟩=some (.int .i64 av)/\w'.cell? ⟨g,0,none⟩=some (.string S0)) (first|exact an rh|exact an YW _|exact an xK) ((go_at_call 218;refine(an E3 _ ?_).mono ?_;exact an Cj;rintro e w6 ⟨rfl,mh⟩;have xK:Hid (w6.cell? ⟨lb,4,none⟩=some (.int .i64 av)/\w6.cell? ⟨g,0,none⟩=some (.string S0)):=an YX _ mh;have zH:=aq mh;clear mh))
    all_goals
     go_wp2_with fail
     go_ret;rw[an P6];exact⟨rfl,(an zH).eM _⟩
def lO (d:DK) (fr aF first av:Nat) (l:List bn):Option Int×DK×Nat:=
 if 12<l.length then(some 2,d,av)else if aF-av<l.length+1 then(some 9,d,av)else match dQ l with
  |some k=>(some k,d,av)
  |none=>match eT d fr av aF ((kx (first+av) l).headD []) (kx (first+av) l).tail with
   |(some e,d')=>(some e,d',av)
   |(none,d')=>(none,d',av+(l.length+1))
theorem DV {d:DK} {fr aF first av:Nat} {l:List bn} (h:12<l.length):lO d fr aF first av l=(some 2,d,av):=by unfold lO;rw[if_pos h]
theorem DW {d:DK} {fr aF first av:Nat} {l:List bn} (h:¬12<l.length) (h2:aF-av<l.length+1):lO d fr aF first av l=(some 9,d,av):=by unfold lO;rw[if_neg h,if_pos h2]
theorem BO {d:DK} {fr aF first av:Nat} {l:List bn} (h:¬12<l.length) (h2:¬aF-av<l.length+1) {k:Int} (h3:dQ l=some k):lO d fr aF first av l=(some k,d,av):=by unfold lO;rw[if_neg h,if_neg h2,h3]
theorem xE {d:DK} {fr aF first av:Nat} {l:List bn} (h:¬12<l.length) (h2:¬aF-av<l.length+1) (h3:dQ l=none) {s0:List UInt8} {r:List (List UInt8)} (hd:kx (first+av) l=s0::r) {k:Int} {d':DK} (hp:eT d fr av aF s0 r=(some k,d')):lO d fr aF first av l=(some k,d',av):=by unfold lO;rw[if_neg h,if_neg h2,h3,hd];simp only[headD_cons,tail_cons];rw[hp]
theorem xF {d:DK} {fr aF first av:Nat} {l:List bn} (h:¬12<l.length) (h2:¬aF-av<l.length+1) (h3:dQ l=none) {s0:List UInt8} {r:List (List UInt8)} (hd:kx (first+av) l=s0::r) {d':DK} (hp:eT d fr av aF s0 r=(none,d')):lO d fr aF first av l=(none,d',av+(l.length+1)):=by unfold lO;rw[if_neg h,if_neg h2,h3,hd];simp only[headD_cons,tail_cons];rw[hp]
def F8 (w0:World) (db lb:Nat) (l2:List aI) (fr aF first:Nat) (x:Option Int×DK×Nat) (e:Ending) (w':World):Prop:=e=.returned (bH x.1)/\aE w0 w' db x.2.1 (eN lb db fr aF first x.2.2::l2)
theorem DU {w0 w:World} {db lb:Nat} {d:DK} {l2:List aI} {fr aF first av:Nat} (h:aE w0 w db d (eN lb db fr aF first av::l2)) (KT:fr<=1000) (hum:av<=aF) (RE:aF<=900) (hf:first<=1000000) (hw:d.wr.length<=50000) (vc:Value) (n:Nat) (f:Nat->bn) (hc:iP w vc n f) (Oy:n<=1000000):
 Calls prog 115 #[.pointer (some ⟨lb,0,none⟩),vc] w fun e w'=>F8 w0 db lb l2 fr aF first (lO d fr aF first av (bO n f)) e w':=by
 obtain⟨pc,cc,hvc⟩:=hc.slice;subst hvc;have KN:=cX n f;have k2:w.cell? ⟨lb,2,none⟩=some (.int .i64 aF):=h.cellAt ae rfl;have k3:w.cell? ⟨lb,3,none⟩=some (.int .i64 first):=h.cellAt ae rfl;have k4:w.cell? ⟨lb,4,none⟩=some (.int .i64 av):=h.cellAt ae rfl;have PW:lb<w.heap.size:=h.hold.UD ae;have HH:=aq h;have HC:=aq hc;have HW:=aq hw;unfold F8
 by_cases pX:12<n
 ·have hz:(12:Int)<(n:Int):=by omega
  have ha:=DV (d:=d) (fr:=fr) (aF:=aF) (first:=first) (av:=av) (l:=bO n f) (by rw[KN];exact pX);have HA:=aq ha;clear ha h hc hw;go_enter func115,ntmps115;go_wp2_with fail;go_ret;rw[an HA];exact⟨rfl,an HH⟩
 ·have hz:¬(12:Int)<(n:Int):=by omega
  have er:=Ao lb aF av w hum (by omega) k2 k4;have ER:=aq er
  by_cases gr:aF-av<n+1
  ·have fD:((aF-av:Nat):Int)<(n:Int)+1:=by omega
   have ha:=DW (d:=d) (fr:=fr) (aF:=aF) (first:=first) (av:=av) (l:=bO n f) (by rw[KN];exact pX) (by rw[KN];exact gr);have HA:=aq ha;clear ha h hc hw er;obtain⟨room,kT⟩:=aa (aF-av);rw[kT]at ER fD;clear kT;go_enter func115,ntmps115;go_wp2_with fail;refine(an ER).mono ?_;rintro e w1 ⟨rfl,n1,rfl⟩;go_wp2_with fail;go_ret;rw[an HA];exact⟨rfl,(an HH).drewN _⟩
  ·have fD:¬((aF-av:Nat):Int)<(n:Int)+1:=by omega
   have es:=fun n1=>wK lb first av (.slice pc n cc) n f (w.drewN n1) PW hf (by omega) (by omega) (hc.below ((aw.init w).drewN n1).below) k3 k4
   have ES:=aq es;clear es h hc hw er;have Ka:n+1<=aF-av:=by omega
   obtain⟨room,kT⟩:=aa (aF-av);rw[kT]at ER fD;have Hf:=aq gr;have Hr:=aq kT;clear kT gr;go_enter func115,ntmps115;go_wp2_with fail;refine(an ER).mono ?_;rintro e w1 ⟨rfl,n1,rfl⟩;have ES1:=aq (an ES n1);clear ES ER;go_wp2_with fail;refine(an ES1).mono ?_;rintro e w2 hs
   rcases hs with⟨k,IU,rfl,cC⟩|⟨IU,v,rfl,OC⟩
   ·have ha:=BO (d:=d) (fr:=fr) (aF:=aF) (first:=first) (av:=av) (l:=bO n f) (by rw[KN];exact pX) (by rw[KN];exact an Hf) IU;have HA:=aq ha;have zI:=aq (((an HH).drewN n1).over cC);clear ha IU cC ES1;simp only[bH];go_wp2_with fail;go_ret;rw[an HA];exact⟨rfl,an zI⟩
   ·have hD:=((an HH).drewN n1).join OC
    obtain⟨s0,r,hd⟩:∃s0 r,kx (first+av) (bO n f)=s0::r:=by
     cases hx:kx (first+av) (bO n f)with
     |nil=>have:=kX (first+av) (bO n f);rw[hx]at this;simp at this
     |cons s0 r=>exact⟨s0,r,rfl⟩
    have XS:r.length=n:=by have:=kX (first+av) (bO n f);rw[hd,length_cons,KN]at this;omega
    rw[hd]at hD;obtain⟨pv,cv,hv,_⟩:=cI (hD.hold.rowAt ae);rw[show(s0::r).length=n+1 by rw[length_cons,XS]]at hv;subst hv;have ep:=NM hD ae KT (by omega) (by omega) (by omega) (an HW);unfold sz at ep;obtain⟨ep1,d',xj⟩:∃ep1 d',eT d fr av aF s0 r=(ep1,d'):=⟨_,_,rfl⟩;rw[xj]at ep;have EP:=aq ep
    cases ep1 with
    |some k=>have ha:=xE (d:=d) (fr:=fr) (aF:=aF) (first:=first) (av:=av) (l:=bO n f) (by rw[KN];exact pX) (by rw[KN];exact an Hf) IU hd xj;have HA:=aq ha;clear ha IU OC ES1 hD hd XS ep xj;go_wp2_with fail;refine(an EP).mono ?_;rintro e w3 ⟨rfl,hD3⟩;have Cj:=aq hD3;clear hD3 EP;simp only[bH];go_wp2_with fail;go_ret;rw[an HA];exact⟨rfl,an Cj⟩
    |none=>
     have ha:=xF (d:=d) (fr:=fr) (aF:=aF) (first:=first) (av:=av) (l:=bO n f) (by rw[KN];exact pX) (by rw[KN];exact an Hf) IU hd xj;rw[KN]at ha;have HA:=aq ha;clear ha IU OC ES1 hD hd XS ep xj;go_wp2_with fail;refine(an EP).mono ?_;rintro e w3 ⟨rfl,hD3⟩;have k4:w3.cell? ⟨lb,4,none⟩=some (.int .i64 av):=hD3.cellAt ae rfl;have f4:w3.frozen? ⟨lb,4,none⟩=false:=hD3.frozenAt ae 4;have Cj:=aq hD3;clear hD3 EP;simp only[bH];go_wp2_with fail;go_ret;rw[an HA];refine⟨rfl,?_⟩;have gz:=aE.store [] (an Cj) 4 (.int .i64 ((av:Int)+((n:Int)+1))) _ rfl
     have he:((av+(n+1):Nat):Int)=(av:Int)+((n:Int)+1):=by omega
     unfold eN;rw[he];exact gz
def eJ (v:Value) (P:List (Value×List bn)):List aI:=.row v 38 1 P.length (P.map (·.1))::P.map (fun p=>aO p.1 p.2)
theorem Pe {w0 wx:World} {v4 v5:Value} {L:List bn} {P:List (Value×List bn)} {l2:List aI} (H:aw w0 wx (aO v5 L::(eJ v4 P++l2))) (h5:v5.oneCell'=true) (hn:P.length<=1000):
 ∃v' w',(Builtin.append_ #[117,117] 117 #[v4,.slice (some ⟨wx.heap.size,0,none⟩) 1 1]).run prog (wx.alloc (.cells #[v5] 38))=.ok v' w'/\aw w0 w' (aO (.slice none 0 0) []::(eJ v' (P++[(v5,L)])++l2)):=by
 have h1:=H.aY 38 [v5];obtain⟨v',w',h2,h3,_⟩:=h1.append [_,_] 117 117 underlying117 ZS (by decide) (by decide) (some ⟨wx.heap.size,0,none⟩) 1 1 [v5] rfl (fun _=>⟨wx.heap.size,0,rfl,fun j u hj=>by rw[Nat.zero_add];exact h1.cellAt ae hj⟩) (fun h=>by cases h) (fun u hu=>by rw[mem_singleton.1 hu];exact h5) (by omega);refine⟨v',w',h2,?_⟩;have h4:=((h3.aD []).fJ 86 3);refine h4.perm ?_;unfold eJ aO;rw[length_append,map_append,map_append];refine List.Perm.cons _ ?_;simp only[cons_append,nil_append,map_cons,map_nil,length_singleton,append_assoc]
 refine(List.Perm.cons _ ?_).trans (List.Perm.swap _ _ _);exact perm_middle
def gE (aW:List (List UInt8)) (fr i:Nat):ByteArray:=bt (aW.getD (fr+i) [])
def eY (d:DK) (fr aF first:Nat):RS:=r8 (gE d.aW fr) first aF 0 B5
def BT (w0:World) (db lb:Nat) (d:DK) (l2:List aI) (fr aF first:Nat) (e:Ending) (w':World):Prop:=
 ∃v P,e=.returned (.tuple #[v,.nilIface])/\P.map (·.2)=(eY d fr aF first).deeds/\aE w0 w' db d (eJ v P++(eN lb db fr aF first (eY d fr aF first).av::l2))
theorem G7 (s:ByteArray) (num:Nat):((fo s num).1=nk∨(fo s num).1=pz∨(fo s num).1=pn)/\(s.size<=140->(fo s num).2.size<=140):=by
 unfold fo
 split
 ·rename_i h
  refine⟨h.1.elim .inl (fun h=>.inr (.inl h)),fun hs=>?_⟩;rw[ByteArray.size_extract];omega
 ·exact⟨.inr (.inr rfl),fun _=>by decide⟩
theorem Vl {get:Nat->ByteArray} {first k i:Nat} {st:RS} (h:gD (get i) (first+i) i st=none):r8 get first (k+1) i st=st:=by rw[r8,h]
theorem Si {get:Nat->ByteArray} {first k i:Nat} {st tZ:RS} (h:gD (get i) (first+i) i st=some tZ):r8 get first (k+1) i st=r8 get first k (i+1) tZ:=by rw[r8,h]
theorem Aq {w0 w:World} {db lb:Nat} {d:DK} {l2:List aI} {fr aF first:Nat} (h:aE w0 w db d (eN lb db fr aF first 0::l2)) (ju:d.down=false) (RO:fr+aF<=d.aW.length) (h1:1<=aF) (hf:first<=1000000):
 Calls prog 162 #[.pointer (some ⟨lb,0,none⟩)] w fun e w'=>BT w0 db lb d l2 fr aF first e w':=by
 have tn:=h.ok.ix;have Rt:=h.ok.aW;have k2:w.cell? ⟨lb,2,none⟩=some (.int .i64 aF):=h.cellAt ae rfl
 have YZ:Hid (∀(A:List aI) (u:Nat) (wx:World),aE w0 wx db d (A++(eN lb db fr aF first u::l2))->wx.cell? ⟨lb,0,none⟩=some (.pointer (some ⟨db,0,none⟩))/\wx.cell? ⟨lb,1,none⟩=some (.int .i64 fr)/\wx.cell? ⟨lb,3,none⟩=some (.int .i64 first)/\wx.cell? ⟨lb,4,none⟩=some (.int .i64 u)/\wx.frozen? ⟨lb,4,none⟩=false):=fun A u wx hx=>by
  have hm:eN lb db fr aF first u∈A++(eN lb db fr aF first u::l2):=by simp
  exact⟨hx.cellAt hm rfl,hx.cellAt hm rfl,hx.cellAt hm rfl,hx.cellAt hm rfl,hx.frozenAt hm 4⟩
 have Tw:Hid (aE w0 w db d (aO (.slice none 0 0) []::(eJ (.slice none 0 0) []++(eN lb db fr aF first 0::l2)))):=by obtain⟨dp,a1,a2⟩:=h.back;exact a2 w _ ((a1.fJ 38 1).fJ 86 3)
 have hmz:(1:Int)<=(aF:Int):=by omega
 have Hdn:=aq ju;have abS:=aq Rt;have KT:fr<=130:=by omega
 have aaK:aF<=130:=by omega
 have Hfm:=aq RO;unfold BT;obtain⟨RP,hRP⟩:=aa (eY d fr aF first)
 have HR0:Hid (RP=r8 (gE d.aW fr) first (aF-0) 0 B5):=hRP.symm;rw[hRP];clear h ju Rt RO hRP tn;go_enter func162,ntmps162;go_wp2_with fail
 go_loopg [4,5,17] (aF+1) (fun g v4 v5 vi wr=>∃(i:Nat) (P:List (Value×List bn)) (st:RS),aF-i<g/\i<=aF/\vi=.int .i64 i/\st.q7.length<=i/\P.length<=i/\Hid (P.map (·.2)=st.deeds)/\Hid (RP=r8 (gE d.aW fr) first (aF-i) i st)/\Hid (aE w0 wr db d (aO v5 st.q7::(eJ v4 P++(eN lb db fr aF first st.av::l2)))))
 case atStart=>exact⟨0,[],B5,by omega,by omega,rfl,by simp[B5],by simp,rfl,HR0,Tw⟩
 case round=>
  clear HR0 Tw;obtain⟨i,P,st,hg,hi,rfl,mS,CA,HPd,HR,HD⟩:=hrel;obtain⟨p5,c5,hv5,_⟩:=cI ((an HD).hold.rowAt ae);obtain⟨p4,c4,hv4,_⟩:=cI ((an HD).hold.rowAt af);obtain⟨m5,hm5⟩:∃m,st.q7.length=m:=⟨_,rfl⟩;obtain⟨m4,hm4⟩:∃m,P.length=m:=⟨_,rfl⟩;rw[hm5]at hv5 mS;rw[hm4]at hv4 CA;subst hv5 hv4;have Hm5:=aq hm5;have Hm4:=aq hm4;clear hm5 hm4
  by_cases gY:i<aF
  ·have mI:(i:Int)<(aF:Int):=by omega
   obtain⟨k0,k1,k3,k4,f4⟩:=an YZ (_::eJ _ P) st.av wr (an HD);have eO:fr+i<d.aW.length:=by have:=an Hfm;omega
   have hlen:(d.aW.getD (fr+i) []).length=140:=by rw[List.getD,getElem?_eq_getElem eO];exact an abS _ (getElem_mem eO)
   have er:=fun wx hx=>ue w0 wx db d (aO (.slice p5 m5 c5) st.q7::(eJ (.slice p4 m4 c4) P++(eN lb db fr aF first st.av::l2))) hx ((fr:Int)+(i:Int))
   unfold vX at er;have RZ:((fr:Int)+(i:Int))=((fr+i:Nat):Int):=by omega
   have A6:d.has ((fr:Int)+(i:Int))=true:=by rw[RZ];simp[DK.has];omega
   have e1:d.xX ((fr:Int)+(i:Int))=none:=by unfold DK.xX;rw[an Hdn,A6];rfl
   have e2:(⟨(d.xY ((fr:Int)+(i:Int))).toArray⟩:ByteArray)=gE d.aW fr i:=by unfold DK.xY;rw[an Hdn,A6,RZ];rfl
   simp only[e1,e2,bH]at er;have Cx:IntKind.i64.wrap ((fr:Int)+(i:Int))=(fr:Int)+(i:Int):=sE _ (by omega);have er2:∀wx,aE w0 wx db d (aO (.slice p5 m5 c5) st.q7::(eJ (.slice p4 m4 c4) P++(eN lb db fr aF first st.av::l2)))->Calls prog 99 #[.pointer (some ⟨db,0,none⟩),.int .i64 (IntKind.i64.wrap ((fr:Int)+(i:Int)))] wx fun e w'=>e=.returned (.tuple #[.string (gE d.aW fr i),.nilIface])/\w'=wx:=fun wx hx=>by rw[Cx];exact er wx hx
   have ER:=aq er2;have gP:(gE d.aW fr i).size=140:=by unfold gE;rw[cB,hlen]
   have hR:=an HR;obtain⟨kk,nS⟩:∃kk,aF-i=kk+1:=⟨aF-i-1,by omega⟩;rw[nS]at hR;have RM:aF-(i+1)=kk:=by omega
   have IE:gD (gE d.aW fr i) (first+i) i st=gD (gE d.aW fr i) (first+i) i st:=rfl
   conv at IE=>rhs;unfold gD
   obtain⟨oh,R3⟩:=G7 (gE d.aW fr i) (first+i);have R3:=R3 (by omega);have en:=fun wx hq=>qn lb first i wx hf (by omega) hq
   have ep:=fun wx=>Cq (gE d.aW fr i) gP (first+i) wx
   obtain⟨K,hK⟩:=aa ((fo (gE d.aW fr i) (first+i)).1);obtain⟨Bd,hBd⟩:∃B,(fo (gE d.aW fr i) (first+i)).2=B:=⟨_,rfl⟩;rw[hK]at oh;rw[hBd]at R3;simp only[hK,hBd]at IE ep;obtain⟨S,hS⟩:=aa (gE d.aW fr i);rw[hS]at ER ep IE;have aaX:gD S (first+i) i st=none->RP=st:=fun hx=>by rw[hR];exact Vl (by rw[hS];exact hx)
   have aaW:∀tZ,gD S (first+i) i st=some tZ->RP=r8 (gE d.aW fr) first (aF-(i+1)) (i+1) tZ:=fun tZ hx=>by rw[hR,RM];exact Si (by rw[hS];exact hx)
   have Qd:=aq aaX;have Uk:=aq aaW;have EN:=aq en;have EP:=aq ep;have rh:Hid (wr.drew.cell? ⟨lb,0,none⟩=some (.pointer (some ⟨db,0,none⟩))/\wr.drew.cell? ⟨lb,1,none⟩=some (.int .i64 fr)):=⟨k0,k1⟩;have mW:=aq IE;have Hbs:=aq R3;have Ty:=aq (an HD).drew;clear er er2 e1 e2 A6 RZ Cx hlen eO gP hR nS RM hK hBd hS aaX aaW en ep HR R3 IE;have HK:=aq oh;have k3d:wr.drew.cell? ⟨lb,3,none⟩=some (.int .i64 first):=k3;have EN1:=aq (an EN _ k3d);clear oh EN;go_wp2_with fail
   go_region_held (fun w'=>w'.cell? ⟨lb,0,none⟩=some (.pointer (some ⟨db,0,none⟩))/\w'.cell? ⟨lb,1,none⟩=some (.int .i64 fr)) (first|exact an rh) ((go_at_call 99;refine(an ER _ ?_).mono ?_;exact an Ty;rintro e w6 ⟨rfl,hw6⟩;subst hw6))
   all_goals
    clear ER rh;go_wp2_with fail;refine(an EN1).mono ?_;rintro e w7 ⟨rfl,rfl⟩;clear EN1;go_wp2_with fail;refine(an EP _).mono ?_;rintro e w7 ⟨rfl,n7,rfl⟩;clear EP;have rl:=aq ((an Ty).drewN n7);obtain⟨w7,hw7⟩:=aa (wr.drew.drewN n7);rw[hw7]at rl ⊢;obtain⟨k0,k1,k3,k4,f4⟩:=an YZ (_::eJ _ P) st.av w7 (an rl);clear hw7 Ty HD k3d
    rcases an HK with zy|zy|zy
    ·
     unfold nk at zy;subst zy;have gz:=an mW;rw[if_pos (show(⟨#[111]⟩:ByteArray)=nk from rfl)]at gz;have Fy:=l8 Bd (by have:=an Hbs;omega) w7;unfold pS Es at Fy
     cases hp:rH Bd with
     |none=>rw[hp]at gz Fy;have tr:=an Qd gz;unfold MW at Fy;simp only[Option.getD_none,Option.isSome_none,CJ,bH]at Fy;have Xj:=aq Fy;have HE:=aq tr;clear Fy gz hp tr mW Qd Uk HK;go_wp2_with fail;refine(an Xj).mono ?_;rintro e w8 ⟨rfl,I2⟩;have P0:=(an rl).over I2;have Qe:=aq (P0.alloc (.cells #[.string ⟨#[]⟩,.string ⟨#[]⟩,.bool false] 86));clear I2 P0 Xj;go_wp2_with fail;go_ret2;exact⟨_,P,rfl,by rw[an HE];exact an HPd,by rw[an HE];exact(an Qe).eM [_]⟩
     |some c=>
      rw[hp]at gz Fy;obtain⟨az,val,gone⟩:=c;have ns:=an Uk _ gz;unfold MW at Fy;simp only[Option.getD_some,Option.isSome_some,bH]at Fy;have Xj:=aq Fy;have HE:=aq ns;clear Fy gz hp ns mW Qd Uk HK;go_wp2_with fail;refine(an Xj).mono ?_;rintro e w8 ⟨rfl,I2⟩;have P0:=(an rl).over I2;have Cf:=P0.alloc (.cells #[.string az,.string val,.bool gone] 86);obtain⟨dp,a1,a2⟩:=Cf.back;rw[cons_append]at a1;obtain⟨v9,w9,hr9,h9⟩:=IP a1 ⟨az,val,gone⟩ (by rw[an Hm5];omega);rw[show(w8.alloc (.cells #[.string az,.string val,.bool gone] 86)).heap.size=w8.heap.size+1 by simp]at hr9
      rw[<-cons_append]at h9;have HD9:=aq (a2 w9 (aO v9 (st.q7++[⟨az,val,gone⟩])::(eJ (.slice p4 m4 c4) P++(eN lb db fr aF first st.av::l2))) h9);clear I2 P0 Cf a1 a2 h9 Xj
      go_wp2_with (at_builtin;refine bN rfl _ _ 38 38 rfl (.slice p5 m5 c5) (.slice (some ⟨w8.heap.size+1,0,none⟩) 1 1) rfl rfl hr9 ?_)
      clear hr9
      go_roundg (aF-i)
      case measure=>omega
      case rel=>exact⟨i+1,P,⟨st.deeds,st.q7++[⟨az,val,gone⟩],st.av⟩,by omega,by omega,by simp,by simp only[length_append,length_singleton];rw[an Hm5];omega,by rw[an Hm4];omega,HPd,HE,HD9⟩
    ·
     unfold pz at zy;subst zy;have gz:=an mW;rw[if_neg (show ¬(⟨#[99]⟩:ByteArray)=nk by decide),if_pos (show(⟨#[99]⟩:ByteArray)=pz from rfl),an Hm5]at gz;have Zs:=yC m5 (by omega) w7;have ae3:(⟨(dw m5 4).toArray⟩:ByteArray)=bt (dw m5 4):=rfl;rw[ae3]at Zs;obtain⟨Cn,hCn⟩:∃C,bt (dw m5 4)=C:=⟨_,rfl⟩;rw[hCn]at gz Zs
     by_cases hBC:Bd=Cn
     ·subst hBC;rw[if_pos rfl]at gz;have ns:=an Uk _ gz;have I1:(Bd.toList==Bd.toList)=true:=by simp
      have E81:=aq Zs;have HE:=aq ns;clear Zs gz ns mW Qd Uk HK hCn;go_wp2_with fail;refine(an E81).mono ?_;rintro e w8 ⟨rfl,I2⟩;have P0:=(an rl).over I2;obtain⟨dp,a1,a2⟩:=P0.back;rw[cons_append,append_assoc]at a1;obtain⟨v9,w9,hr9,h9⟩:=Pe a1 rfl (by rw[an Hm4];omega);have Cf:=a2 w9 (aO (.slice none 0 0) []::(eJ v9 (P++[(.slice p5 m5 c5,st.q7)])++(eN lb db fr aF first st.av::l2))) (by rw[cons_append,append_assoc];exact h9);obtain⟨_,_,_,k49,f49⟩:=an YZ (_::eJ _ _) st.av w9 Cf
      have Se:=aE.store (_::eJ _ _) Cf 4 (.int .i64 ((i:Int)+1)) _ rfl
      have afQ:Hid (aE w0 (w9.setCell ⟨lb,4,none⟩ (.int .i64 ((i:Int)+1))) db d (aO (.slice none 0 0) []::(eJ v9 (P++[(.slice p5 m5 c5,st.q7)])++(eN lb db fr aF first (i+1)::l2)))):=by unfold eN;rw[show((i+1:Nat):Int)=(i:Int)+1 by omega];exact Se
      clear I2 P0 a1 a2 h9 E81 Cf Se
      go_wp2_with (at_builtin;refine bN rfl _ _ 117 117 rfl (.slice p4 m4 c4) (.slice (some ⟨w8.heap.size,0,none⟩) 1 1) rfl rfl hr9 ?_)
      clear hr9
      go_roundg (aF-i)
      case measure=>omega
      case rel=>exact⟨i+1,P++[(.slice p5 m5 c5,st.q7)],_,by omega,by omega,by simp,by simp,by simp only[length_append,length_singleton];rw[an Hm4];omega,by show _=_;rw[map_append,an HPd];rfl,HE,afQ⟩
     ·rw[if_neg hBC]at gz;have tr:=an Qd gz;have I1:(Bd.toList==Cn.toList)=false:=by rw[beq_eq_false_iff_ne,Ne,fv];exact hBC
      have E81:=aq Zs;have HE:=aq tr;clear Zs gz tr mW Qd Uk HK hCn hBC;go_wp2_with fail;refine(an E81).mono ?_;rintro e w8 ⟨rfl,I2⟩;have Qe:=aq ((an rl).over I2);clear I2 E81;go_wp2_with fail;go_ret2;exact⟨_,P,rfl,by rw[an HE];exact an HPd,by rw[an HE];exact(an Qe).eM [_]⟩
    ·
     unfold pn at zy;subst zy;have gz:=an mW;rw[if_neg (show ¬(⟨#[]⟩:ByteArray)=nk by decide),if_neg (show ¬(⟨#[]⟩:ByteArray)=pz by decide)]at gz;have tr:=an Qd gz;have HE:=aq tr;clear gz tr mW Qd Uk HK;go_wp2_with fail;go_ret2;exact⟨_,P,rfl,by rw[an HE];exact an HPd,by rw[an HE];exact(an rl).eM [_]⟩
  ·have mI:¬(i:Int)<(aF:Int):=by omega
   have TY:i=aF:=by omega
   subst TY;have hR:=an HR;rw[Nat.sub_self,r8]at hR;have HE:=aq hR;clear hR HR;go_wp2_with fail;go_ret2;exact⟨_,rfl,P,by rw[an HE];exact an HPd,by rw[an HE];exact(an HD).eM [_]⟩
end Go.Proofs.YtphcnmlbieokoaaGreatDoor.S
