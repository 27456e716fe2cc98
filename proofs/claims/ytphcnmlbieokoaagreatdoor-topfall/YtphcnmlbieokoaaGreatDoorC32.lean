/-
  TopFall: behind a fall at any step, with any of what was written kept, it is as it was, or as it would have become; of lists of acts that are few and short, of others nothing is asked.
-/
import Derived.Test.YtphcnmlbieokoaaGreatDoorC24
import Derived.Test.YtphcnmlbieokoaaGreatDoorC31
import Derived.Test.YtphcnmlbieokoaaGreatDoorCards
import Derived.Test.YtphcnmlbieokoaaGreatDoorTie
import Derived.Carry
import Derived.Deep.DeepHandedRow
set_option maxRecDepth 100000
set_option maxHeartbeats 16000000
set_option linter.unusedVariables false
set_option linter.unusedSimpArgs false
namespace Go.Proofs.YtphcnmlbieokoaaGreatDoor.DoneTopFall
open Go.ChangeShapes Go.WideShapes Go.ChangeAt Go.RowKit
open Go.ChangeMaps (open_string shut_string)
open List
open Go.Proofs.Tryz
theorem bm:laidOutB prog=true:=by kernel_rfl
theorem aas (H:Type) (enc:TypeId×Value->H) (W:World) (au:Nat) (args:Array Value) (ds gs:List (DataW H)) (before:List MemPlace)
 (KI:∀(j:Nat) t v,Tryz.f5.params[j]? = some t->args[j]? = some v->Value.okWide prog W .any au t v)
 (hW:DataW.Whole enc prog Tryz.f5.params.toList Rows.topFallSpec.vars false W args.toList ds gs before) (hL:laidMetH prog Rows.topFallRow.laid W) (gX:W.ShapedOpen prog):
 Calls prog 5 args W fun e W'=>∃v,e=.returned v/\Rows.topFallSpec.post enc prog Tryz.f5 false true false false W args v W':=by
 have vW:=hW;obtain⟨p,q,hA0,hV,rfl,hfz,A3⟩:=hW;have hA:DataW.TrodAll enc prog W 0 (fun _=>true) true Tryz.f5.params.toList args.toList ds p:=hA0;rw[Tryz.params5]at hA KI;obtain⟨v0,vs0,d0,ds0,p0,q0,hargs,rfl,rfl,h0,r0⟩:=trodAll_cons hA;obtain⟨v1,vs1,d1,ds1,p1,q1,aaC,rfl,rfl,h1,r1⟩:=trodAll_cons r0;obtain⟨v2,vs2,d2,ds2,p2,q2,aa1,rfl,rfl,h2,r2⟩:=trodAll_cons r1;obtain⟨v3,vs3,d3,ds3,p3,q3,hvs2,rfl,rfl,h3,r3⟩:=trodAll_cons r2;obtain⟨aev,rfl,rfl⟩:=trodAll_nil r3;subst aev;subst hvs2;subst aa1;subst aaC;obtain rfl:args=#[v0,v1,v2,v3]:=by cases args;simp_all
 obtain⟨rfl,rfl⟩:=trodVars_none hV;obtain⟨n0,f0,hact0⟩:=S.Zv (okWide_slice underlying22 (KI 0 22 v0 rfl rfl)) h0;obtain⟨qa1,ua1,pa1,na1,ca1,rfl,hq1,hch1⟩:=S.abG (KI 1 40 v1 rfl rfl) h1;obtain⟨s2,rfl,rfl,rfl,ws2⟩:=open_int underlying3 (KI 2 3 v2 rfl rfl) h2;obtain⟨a3,rfl,rfl,rfl,w3⟩:=open_int underlying37 (KI 3 37 v3 rfl rfl) h3;have b30:=bounds_u64 w3;obtain⟨s3,hk3⟩:∃k:Nat,a3=k:=⟨a3.toNat,by omega⟩;subst hk3;have b3:s3<18446744073709551616:=by omega
 clear hA0;simp only[append_nil]at vW;have aaF:∀x∈p0,x.block<W.heap.size:=fun x hx=>vW.lt x (by simp[hx])
 have aaY:∀x∈p1,x.block<W.heap.size:=fun x hx=>vW.lt x (by simp[hx])
 have hR:bF W:=QH hL gX;refine(S.Up v0 n0 f0 qa1 ua1 pa1 na1 ca1 s2 s3 b3 W hR hact0 hq1 hch1).mono fun e W' ⟨he,bel⟩=>?_
 subst he;exact⟨_,rfl,_,_,_,[],_,[],vW,trodAll_mk1 (shut_bool underlying4 _),(trodAll_cons_mk (Below.trod bm (by kernel_rfl) (of_decide_eq_true (by kernel_rfl)) h0 bel aaF) (trodAll_cons_mk (Below.trod bm (by kernel_rfl) (of_decide_eq_true (by kernel_rfl)) h1 bel aaY) (trodAll_cons_mk (shut_int underlying3 ws2) (trodAll_cons_mk (shut_int underlying37 w3) trodAll_mk0)))),rfl,bel.frame _,fun h=>by cases h⟩
theorem aaq (os:Os):laidMet prog Rows.topFallRow.laid ((XA os).forCall (fun _ _=>0) ⟨#[],#[Value.slice none 0 0,.agg #[.string ⟨#[]⟩,.string ⟨#[]⟩,.string ⟨#[]⟩,.int .i64 0,.int .u64 0,.slice none 0 0],.int .i64 0,.int .u64 0],[]⟩).memory:=
 laidMet_of_run' 8 (by kernel_rfl) (by kernel_rfl)
theorem aan (os:Os):laidMetH prog Rows.topFallRow.laid ((XA os).forCall (fun _ _=>0) ⟨#[],#[Value.slice none 0 0,.agg #[.string ⟨#[]⟩,.string ⟨#[]⟩,.string ⟨#[]⟩,.int .i64 0,.int .u64 0,.slice none 0 0],.int .i64 0,.int .u64 0],[]⟩).memory:=by
 rw[MakeChecks.laidMetH_plain _ _ _ (by kernel_rfl)];exact aaq os
theorem reads (os:Os) {H:Type} (enc:TypeId×Value->H):∃places,DataW.whole enc prog ((XA os).forCall (fun _ _=>0) ⟨#[],#[Value.slice none 0 0,.agg #[.string ⟨#[]⟩,.string ⟨#[]⟩,.string ⟨#[]⟩,.int .i64 0,.int .u64 0,.slice none 0 0],.int .i64 0,.int .u64 0],[]⟩).memory Tryz.f5.params.toList Rows.topFallSpec.vars false (#[Value.slice none 0 0,.agg #[.string ⟨#[]⟩,.string ⟨#[]⟩,.string ⟨#[]⟩,.int .i64 0,.int .u64 0,.slice none 0 0],.int .i64 0,.int .u64 0]:Array Value).toList 8=some ([.nil,.agg [.lit (.string []),.lit (.string []),.lit (.string []),.lit (.int .i64 0),.lit (.int .u64 0),.nil],.lit (.int .i64 0),.lit (.int .u64 0)],[],places):=
 ⟨[],by kernel_rfl⟩
theorem lifted (os:Os) (started:os.Started) (H:Type) (enc:TypeId×Value->H) (F:Stop.Interp):
 ReturnsInHanded {} Tryz.checked os 5 .any ((OpenSpec.ofChange Rows.topFallSpec).preRow enc prog Tryz.f5 Rows.topFallRow.domain false Rows.topFallRow.laid) (((OpenSpec.ofChange Rows.topFallSpec).at F).post enc prog Tryz.f5 false true false false):=by
 obtain⟨places,hx⟩:=reads os enc
 refine returnsInHanded_of_row (C:=Tryz.checked) (s:=OpenSpec.ofChange Rows.topFallSpec) ZP started (by kernel_rfl) func5
  (witness_row_at (enc:=enc) (C:=Tryz.checked) false (XA os) #[Value.slice none 0 0,.agg #[.string ⟨#[]⟩,.string ⟨#[]⟩,.string ⟨#[]⟩,.int .i64 0,.int .u64 0,.slice none 0 0],.int .i64 0,.int .u64 0] rfl (by kernel_rfl) (by kernel_rfl) (by kernel_rfl)
   (OpenSpec.preRow_of_cond 8 hx (by kernel_rfl) (fun k hk=>by cases hk) (by kernel_rfl) (aan os))) ?_
 intro W au args ds gs before KI hW _ _ _ hL gX _;exact aas H enc W au args ds gs before KI hW hL gX
theorem j1:(Rows.topFallRow.inPlace==prog.inPlace 5)=true:=by kernel_rfl
theorem j2:(Rows.topFallRow.unfollowed==prog.unfollowed 5)=true:=by kernel_rfl
theorem j3:(Rows.topFallRow.recurses==prog.recurses 5)=true:=by kernel_rfl
theorem j4:(Rows.topFallRow.named==prog.varsNamed 5)=true:=by kernel_rfl
theorem closed:joinedFacts prog 5 Tryz.f5 Rows.topFallSpec Rows.topFallRow=true:=by
 unfold joinedFacts;rw[j1,j2,j3,j4]
 kernel_rfl
theorem said:Rows.TopFallSaid:=
 OpenClaim.holds_of_cond 5 Tryz.f5 rfl rfl rfl rfl rfl rfl rfl ⟨rfl,rfl,rfl,rfl,rfl⟩ rfl rfl rfl rfl rfl (by kernel_rfl) func5 closed
  (of_decide_eq_true (by kernel_rfl)) (by unfold Func.isWrapper;first|(rw[if_pos (by decide +kernel)];kernel_rfl)|(rw[if_neg (by decide +kernel)];exact⟨rfl,rfl⟩))
  (fun os started H enc _ F=>by rw[OpenClaim.pre_eq_preRow];exact lifted os started H enc F)
theorem plain (f:FuncId) (fn:Func) (hf:Tryz.pinned.checked.prog.funcNamed "jobcase/jobcasetop.TopFall" = some f) (MD:Tryz.pinned.checked.prog.funcs[f]? = some fn):
 true=Tryz.pinned.checked.prog.looks []/\∀(j:Nat) t,fn.params[j]? = some t->Tryz.pinned.checked.prog.wantsStandIn t=false:=by
 obtain rfl:f=5:=Option.some.inj ((show prog.funcNamed "jobcase/jobcasetop.TopFall" = some 5 by kernel_rfl).symm.trans hf) |>.symm;obtain rfl:fn=Tryz.f5:=(Option.some.inj (func5.symm.trans MD)).symm;refine⟨by kernel_rfl,fun j t ht=>?_⟩;rw[Tryz.params5]at ht
 rcases(by simpa using Array.mem_of_getElem? ht:t=22∨t=40∨t=3∨t=37)with rfl|rfl|rfl|rfl
 ·exact(show prog.wantsStandIn 22=false by kernel_rfl)
 ·exact(show prog.wantsStandIn 40=false by kernel_rfl)
 ·exact(show prog.wantsStandIn 3=false by kernel_rfl)
 ·exact(show prog.wantsStandIn 37=false by kernel_rfl)
end Go.Proofs.YtphcnmlbieokoaaGreatDoor.DoneTopFall
namespace Go.Proofs.YtphcnmlbieokoaaGreatDoor
open List
open Go.Proofs.Tryz
theorem topFall_holds:Rows.TopFallCardSaid:=
 Claim7.holds_tied_plain_at .later [] _ _ _ _ DoneTopFall.said (fun _ h=>by cases h) (by kernel_rfl) (fun _ h=>by cases h) topFall_row_tie rfl ⟨rfl,rfl⟩ (by kernel_rfl) rfl DoneTopFall.plain (by kernel_rfl)
end Go.Proofs.YtphcnmlbieokoaaGreatDoor
