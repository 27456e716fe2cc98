import Derived.Test.YtphcnmlbieokoaaGreatDoorC11
import Derived.Test.YtphcnmlbieokoaaGreatDoorC15
import Derived.Test.YtphcnmlbieokoaaGreatDoorRows
import Derived.Deep.Strs
import Derived.Lib.LaidTab
import Derived.Lib.LaidU8T
import Derived.MakeChecks
import Derived.LaidLaws
import Derived.ShutString
set_option maxRecDepth 100000
set_option maxHeartbeats 16000000
set_option linter.unusedVariables false
set_option linter.unusedSimpArgs false
namespace Go.Proofs.YtphcnmlbieokoaaGreatDoor
open Go.ChangeShapes Go.WideShapes Go.ChangeAt Go.RowKit List Go.Proofs.Tryz
theorem Vm:prog.globalNamed "jobcase/sign.wholes" = some 6:=by kernel_rfl
theorem Uq:(prog.globals[6]?).map (·.type)=some 341:=by kernel_rfl
theorem VI:prog.cellsOf 341=102:=by kernel_rfl
theorem MY:prog.cellsOf 331=3:=by kernel_rfl
theorem VJ:prog.cellsOf 21=1:=by kernel_rfl
theorem Q7 {H:Type}:(Rows.laid_jobcase_sign_wholes:DataW H)=.agg (tab.map fun x=>.agg [.lit (.int .i32 x.1),.lit (.int .i32 x.2.1),.lit (.int .i32 x.2.2)]):=rfl
theorem MO (f:Int×Int×Int->List Value) (hf:∀x,(f x).length=3):∀(l:List (Int×Int×Int)) (cs:List Value),cs.length=l.length*3->(∀i,i<l.length->(cs.drop (i*3)).take 3=f (l.getD i (0,0,0)))->cs=l.flatMap f
 |[],cs,h,_=>by simpa using h
 |x::l,cs,h,hi=>by
  have h0:=hi 0 (by simp);simp at h0
  have ht:cs.drop 3=l.flatMap f:=MO f hf l (cs.drop 3) (by simp at h ⊢;omega) (fun i eO=>by
   have:=hi (i+1) (by simpa using eO);simp only[getD_cons_succ]at this;rw[drop_drop,show 3+i*3=(i+1)*3 by omega];exact this)
  rw[flatMap_cons,<-h0,<-ht,take_append_drop]
theorem three (a b c:Value):∀(q:List Value),q.length=3->q.take 1=[a]->(q.drop 1).take 1=[b]->(q.drop 2).take 1=[c]->q=[a,b,c]
 |[x,y,z],_,h0,h1,h2=>by simp at h0 h1 h2;rw[h0,h1,h2]
theorem Gz {H:Type} {enc:TypeId×Value->H} {w:World} {au:Nat} {sp:Nat->Bool} {held:Bool} {fuel:Nat} {cs:List Value} {p:List MemPlace}
 (h:DataW.trod enc prog w au sp held fuel 341 cs=some (Rows.laid_jobcase_sign_wholes,p)):cs=bE.toList:=by
 obtain⟨xs,m,rfl,hx,hl,hn,hi⟩:=DataW.trod_array underlying341 h;rw[Q7]at hx;rw[VI]at hl;rw[MY]at hi
 have me:(tab.map fun x=>(DataW.agg [.lit (.int .i32 x.1),.lit (.int .i32 x.2.1),.lit (.int .i32 x.2.2)]:DataW H))=xs.map (·.1):=by simpa using congrArg (fun y=>y.1) hx
 unfold bE;rw[toList_toArray];refine MO _ (fun _=>rfl) tab cs (by rw[hl];rfl) (fun i eO=>?_);have KM:i<34:=eO;have hti:=hi i KM;obtain⟨y,hy⟩:∃y,xs[i]? = some y:=⟨xs[i]'(by omega),getElem?_eq_getElem _⟩;rw[hy]at hti;obtain⟨y0,y1,y2,n,rfl,hlen,t0,t1,t2⟩:=Deep.trod_struct3 underlying331 hti
 have he:(tab.map fun x=>(DataW.agg [.lit (.int .i32 x.1),.lit (.int .i32 x.2.1),.lit (.int .i32 x.2.2)]:DataW H))[i]? = some (.agg [y0.1,y1.1,y2.1]):=by rw[me];simp[hy]
 obtain⟨x,XJ⟩:∃x,tab[i]? = some x:=⟨_,getElem?_eq_getElem eO⟩;rw[getElem?_map,XJ]at he;simp only[Option.map_some,Option.some.injEq,DataW.agg.injEq,List.cons.injEq,and_true]at he;obtain⟨e0,e1,e2⟩:=he;obtain⟨n0,c0,rfl,_⟩:=DataW.trod_int underlying21 t0;obtain⟨n1,c1,rfl,_⟩:=DataW.trod_int underlying21 t1;obtain⟨n2,c2,rfl,_⟩:=DataW.trod_int underlying21 t2;simp only[DataW.lit.injEq,Lit.int.injEq,true_and]at e0 e1 e2;rw[MY]at hlen;rw[VJ]at c0 c1 c2;rw[getD_eq_getElem?_getD,XJ,Option.getD_some,e0,e1,e2]
 exact three _ _ _ _ hlen (by simpa using c0) (by simpa using c1) (by simpa using c2)
theorem A9 {W:World} {rest:List (String×DataW Unit)} (h:laidMet prog (("jobcase/sign.wholes",Rows.laid_jobcase_sign_wholes)::rest) W):kZ W:=by
 obtain⟨ps,⟨g',t',cs,fuel,p,q,KS,TT,hvar,hd,_,_⟩,_⟩:=h;obtain rfl:=Option.some.inj (Vm.symm.trans KS);obtain rfl:=Option.some.inj (Uq.symm.trans TT);have hc:=Gz hd;have KY:cs=bE:=by cases cs;simpa using congrArg List.toArray hc
 subst KY;simp only[World.var?,KS,Option.bind_some]at hvar
 split at hvar
 ·rename_i c t fr hb
  cases hvar
  exact⟨t,fr,hb⟩
 ·cases hvar
theorem ZP:ownKnob prog.godebug=none:=by kernel_rfl
theorem Lc:Rows.laid_unicode_utf8_first=Lib.firstData:=by kernel_rfl
theorem JB:(Rows.laid_unicode_utf8_acceptRanges:DataW Unit)=Lib.acceptData:=by kernel_rfl
theorem Un:U8Extra prog lays196_ren:={n3:=by kernel_rfl,n4:=by kernel_rfl,y3:=by kernel_rfl,y4:=by kernel_rfl,c5:=by kernel_rfl,c119:=by kernel_rfl,c138:=by kernel_rfl}
def DD:Nat->DataW Unit->List Value
 | 0,_=>[]
 |_+1,.lit (.int k n)=>[.int k n]
 |f+1,.agg l=>l.flatMap (DD f)
 |_+1,_=>[]
def py (d:DataW Unit):Obj->Obj
 |.cells _ t frozen=>.cells (DD 3 d).toArray t frozen
 |o=>o
noncomputable def De (os:Os):World:=
 {World.holding prog os ⟨#[],#[],[]⟩with heap:=(((World.holding prog os ⟨#[],#[],[]⟩).heap.modify 3 (py Rows.laid_unicode_utf8_first)).modify 4 (py Rows.laid_unicode_utf8_acceptRanges)).modify 6 (py Rows.laid_jobcase_sign_wholes)}
noncomputable def qu (os:Os):World:=
 {De os with heap:=(((De os).heap.modify 5 (py Rows.laid_internal_strconv_uint64pow10)).modify 7 (py Rows.laid_math_bits_deBruijn32tab)).modify 8 (py Rows.laid_math_bits_deBruijn64tab)}
def Q8:List (String×DataW Unit):=[("jobcase/sign.wholes",Rows.laid_jobcase_sign_wholes),("math/bits.deBruijn32tab",Rows.laid_math_bits_deBruijn32tab),("math/bits.deBruijn64tab",Rows.laid_math_bits_deBruijn64tab),("internal/strconv.uint64pow10",Rows.laid_internal_strconv_uint64pow10),("unicode/utf8.acceptRanges",Rows.laid_unicode_utf8_acceptRanges),("strconv.ErrRange",Rows.laid_strconv_ErrRange),("strconv.ErrSyntax",Rows.laid_strconv_ErrSyntax),("unicode/utf8.first",Rows.laid_unicode_utf8_first)]
theorem QH {W:World} (hL:laidMetH prog Q8 W) (gX:W.ShapedOpen prog):bF W:=by
 rw[MakeChecks.laidMetH_plain _ _ _ (by kernel_rfl)]at hL;have hT:kZ W:=A9 hL;obtain⟨ps,hLV,_⟩:=hL;have h4:=Lib.LaidVars_reads hLV "unicode/utf8.acceptRanges" Rows.laid_unicode_utf8_acceptRanges (by simp[Q8]);have h3:=Lib.LaidVars_reads hLV "unicode/utf8.first" Rows.laid_unicode_utf8_first (by simp[Q8]);rw[JB]at h4;rw[Lc]at h3;exact⟨hT,utf8Tabs_of_readsT (U8Types.of196 lays196) Un h3 h4,cell_of_shapedOpen_int (P:=prog) (g:=0) (t:=3) (zero:=#[.int .i64 0]) gX (of_decide_eq_true (by kernel_rfl)) (by kernel_rfl) rfl (by kernel_rfl) (by kernel_rfl) underlying3⟩
def QN (b:Nat):Obj->Obj
 |.cells _ t frozen=>.cells #[.iface 327 (.pointer (some ⟨b,0,none⟩))] t frozen
 |o=>o
noncomputable def XA (os:Os):World:=
 {qu os with heap:=((((qu os).heap.modify 1 (QN (qu os).heap.size)).modify 2 (QN ((qu os).heap.size+1))).push (.cells #[.string ⟨#[105,110,118,97,108,105,100,32,115,121,110,116,97,120]⟩] 329 (0,0))).push (.cells #[.string ⟨#[118,97,108,117,101,32,111,117,116,32,111,102,32,114,97,110,103,101]⟩] 329 (0,0))}
end Go.Proofs.YtphcnmlbieokoaaGreatDoor
namespace Go.Proofs.YtphcnmlbieokoaaGreatDoor.S
open Go.ChangeShapes Go.WideShapes Go.RowKit Go.Deep List Go.Proofs.Tryz
section
section
variable {H:Type} {enc:TypeId×Value->H} {W:World} {au:Nat} {held:Bool}
theorem iP.toT {v:Value} {n:Nat} {f:Nat->bn} (h:iP W v n f):T.iP W v:=by
 rcases h with⟨h,_⟩|⟨b,off,c,h1,h2,_,h3⟩
 ·exact .inl h
 ·exact .inr ⟨b,off,n,c,h1,h2,fun j hj=>⟨_,_,(h3 j hj).1,(h3 j hj).2.1⟩⟩
theorem abG {b0:Nat} {v:Value} {d:DataW H} {ps:List MemPlace} (KI:Value.okWide prog W .any b0 40 v) (h:DataW.Trod enc prog W au (fun _=>true) held 40 v d ps):
 ∃(q:T.gC) (u:Int) (p:Option Addr) (n c:Nat),v=.agg #[.string q.aA,.string q.s,.string q.t,.int .i64 q.n,.int .u64 u,.slice p n c]/\q.ch=.slice p n c/\T.iP W q.ch:=by
 obtain⟨cs,rfl,gP⟩:=okWide_struct underlying40 KI;rw[FO]at gP;obtain⟨fuel,h⟩:=h;obtain⟨l,rfl⟩:∃l:List Value,cs=l.toArray:=⟨cs.toList,by simp⟩
 match l,gP with
 |[u0,u1,u2,u3,u4,u5],_=>
  obtain⟨xs,k,hk,_,_,jL,hf⟩:=DataW.trod_struct underlying40 h
  match xs,jL with
  |[y0,y1,y2,y3,y4,y5],_=>
   have g0:=hf 0 _ rfl;have g1:=hf 1 _ rfl;have g2:=hf 2 _ rfl;have g3:=hf 3 _ rfl;have g4:=hf 4 _ rfl;have g5:=hf 5 _ rfl;simp[Value.cells,Lw,SV,M0,MZ]at g0 g1 g2 g3 g4 g5;obtain⟨s0,e0,_⟩:=DataW.trod_string underlying9 g0;obtain⟨s1,e1,_⟩:=DataW.trod_string underlying9 g1;obtain⟨s2,e2,_⟩:=DataW.trod_string underlying9 g2;obtain⟨s3,e3,_⟩:=DataW.trod_int underlying3 g3;obtain⟨s4,e4,_⟩:=DataW.trod_int underlying37 g4;simp at e0 e1 e2 e3 e4;subst e0 e1 e2 e3 e4;obtain⟨cn,cf,hc⟩:=MV g5;obtain⟨p,c,rfl⟩:=hc.slice
   exact⟨⟨s0,s1,s2,s3,.slice p cn c⟩,s4,p,cn,c,rfl,rfl,hc.toT⟩
end
end
end Go.Proofs.YtphcnmlbieokoaaGreatDoor.S
