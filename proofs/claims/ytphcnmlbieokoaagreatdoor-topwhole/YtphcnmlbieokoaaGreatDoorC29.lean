/-
  TopWhole: what is done on a disk is done whole, as without one, or not at all; of lists of acts that are few and short, of others nothing is asked.
-/
import Derived.Test.YtphcnmlbieokoaaGreatDoorC24
import Derived.Test.YtphcnmlbieokoaaGreatDoorC28
import Derived.Test.YtphcnmlbieokoaaGreatDoorCards
import Derived.Test.YtphcnmlbieokoaaGreatDoorTie
import Derived.Carry
import Derived.Deep.DeepHandedRow
set_option maxRecDepth 100000
set_option maxHeartbeats 16000000
set_option linter.unusedVariables false
set_option linter.unusedSimpArgs false
namespace Go.Proofs.YtphcnmlbieokoaaGreatDoor.DoneTopWhole
open Go.ChangeShapes Go.WideShapes Go.ChangeAt Go.RowKit
open Go.ChangeMaps (open_string shut_string)
open List
open Go.Proofs.Tryz
theorem bm:laidOutB prog=true:=by kernel_rfl
theorem aas (H:Type) (enc:TypeId×Value->H) (W:World) (au:Nat) (args:Array Value) (ds gs:List (DataW H)) (before:List MemPlace)
 (KI:∀(j:Nat) t v,Tryz.f4.params[j]? = some t->args[j]? = some v->Value.okWide prog W .any au t v)
 (hW:DataW.Whole enc prog Tryz.f4.params.toList Rows.topWholeSpec.vars false W args.toList ds gs before) (hL:laidMetH prog Rows.topWholeRow.laid W) (gX:W.ShapedOpen prog):
 Calls prog 4 args W fun e W'=>∃v,e=.returned v/\Rows.topWholeSpec.post enc prog Tryz.f4 false true false false W args v W':=by
 have vW:=hW;obtain⟨p,q,hA0,hV,rfl,hfz,A3⟩:=hW;have hA:DataW.TrodAll enc prog W 0 (fun _=>true) true Tryz.f4.params.toList args.toList ds p:=hA0;rw[Tryz.params4]at hA KI;obtain⟨v0,vs0,d0,ds0,p0,q0,hargs,rfl,rfl,h0,r0⟩:=trodAll_cons hA;obtain⟨v1,vs1,d1,ds1,p1,q1,aaC,rfl,rfl,h1,r1⟩:=trodAll_cons r0;obtain⟨aa1,rfl,rfl⟩:=trodAll_nil r1;subst aa1;subst aaC;obtain rfl:args=#[v0,v1]:=by cases args;simp_all
 obtain⟨rfl,rfl⟩:=trodVars_none hV;obtain⟨n0,f0,hact0⟩:=S.Zv (okWide_slice underlying22 (KI 0 22 v0 rfl rfl)) h0;obtain⟨qa1,ua1,pa1,na1,ca1,rfl,hq1,hch1⟩:=S.abG (KI 1 40 v1 rfl rfl) h1;clear hA0;simp only[append_nil]at vW;have aaF:∀x∈p0,x.block<W.heap.size:=fun x hx=>vW.lt x (by simp[hx])
 have aaY:∀x∈p1,x.block<W.heap.size:=fun x hx=>vW.lt x (by simp[hx])
 have hR:bF W:=QH hL gX;refine(S.TO v0 n0 f0 qa1 ua1 pa1 na1 ca1 W hR hact0 hq1 hch1).mono fun e W' ⟨he,bel⟩=>?_
 subst he;exact⟨_,rfl,_,_,_,[],_,[],vW,trodAll_mk1 (shut_bool underlying4 _),(trodAll_cons_mk (Below.trod bm (by kernel_rfl) (of_decide_eq_true (by kernel_rfl)) h0 bel aaF) (trodAll_cons_mk (Below.trod bm (by kernel_rfl) (of_decide_eq_true (by kernel_rfl)) h1 bel aaY) trodAll_mk0)),rfl,bel.frame _,fun h=>by cases h⟩
theorem aaq (os:Os):laidMet prog Rows.topWholeRow.laid ((XA os).forCall (fun _ _=>0) ⟨#[],#[Value.slice none 0 0,.agg #[.string ⟨#[]⟩,.string ⟨#[]⟩,.string ⟨#[]⟩,.int .i64 0,.int .u64 0,.slice none 0 0]],[]⟩).memory:=
 laidMet_of_run' 8 (by kernel_rfl) (by kernel_rfl)
theorem aan (os:Os):laidMetH prog Rows.topWholeRow.laid ((XA os).forCall (fun _ _=>0) ⟨#[],#[Value.slice none 0 0,.agg #[.string ⟨#[]⟩,.string ⟨#[]⟩,.string ⟨#[]⟩,.int .i64 0,.int .u64 0,.slice none 0 0]],[]⟩).memory:=by
 rw[MakeChecks.laidMetH_plain _ _ _ (by kernel_rfl)];exact aaq os
theorem reads (os:Os) {H:Type} (enc:TypeId×Value->H):∃places,DataW.whole enc prog ((XA os).forCall (fun _ _=>0) ⟨#[],#[Value.slice none 0 0,.agg #[.string ⟨#[]⟩,.string ⟨#[]⟩,.string ⟨#[]⟩,.int .i64 0,.int .u64 0,.slice none 0 0]],[]⟩).memory Tryz.f4.params.toList Rows.topWholeSpec.vars false (#[Value.slice none 0 0,.agg #[.string ⟨#[]⟩,.string ⟨#[]⟩,.string ⟨#[]⟩,.int .i64 0,.int .u64 0,.slice none 0 0]]:Array Value).toList 8=some ([.nil,.agg [.lit (.string []),.lit (.string []),.lit (.string []),.lit (.int .i64 0),.lit (.int .u64 0),.nil]],[],places):=
 ⟨[],by kernel_rfl⟩
theorem lifted (os:Os) (started:os.Started) (H:Type) (enc:TypeId×Value->H) (F:Stop.Interp):
 ReturnsInHanded {} Tryz.checked os 4 .any ((OpenSpec.ofChange Rows.topWholeSpec).preRow enc prog Tryz.f4 Rows.topWholeRow.domain false Rows.topWholeRow.laid) (((OpenSpec.ofChange Rows.topWholeSpec).at F).post enc prog Tryz.f4 false true false false):=by
 obtain⟨places,hx⟩:=reads os enc
 refine returnsInHanded_of_row (C:=Tryz.checked) (s:=OpenSpec.ofChange Rows.topWholeSpec) ZP started (by kernel_rfl) func4
  (witness_row_at (enc:=enc) (C:=Tryz.checked) false (XA os) #[Value.slice none 0 0,.agg #[.string ⟨#[]⟩,.string ⟨#[]⟩,.string ⟨#[]⟩,.int .i64 0,.int .u64 0,.slice none 0 0]] rfl (by kernel_rfl) (by kernel_rfl) (by kernel_rfl)
   (OpenSpec.preRow_of_cond 8 hx (by kernel_rfl) (fun k hk=>by cases hk) (by kernel_rfl) (aan os))) ?_
 intro W au args ds gs before KI hW _ _ _ hL gX _;exact aas H enc W au args ds gs before KI hW hL gX
theorem j1:(Rows.topWholeRow.inPlace==prog.inPlace 4)=true:=by kernel_rfl
theorem j2:(Rows.topWholeRow.unfollowed==prog.unfollowed 4)=true:=by kernel_rfl
theorem j3:(Rows.topWholeRow.recurses==prog.recurses 4)=true:=by kernel_rfl
theorem j4:(Rows.topWholeRow.named==prog.varsNamed 4)=true:=by kernel_rfl
theorem closed:joinedFacts prog 4 Tryz.f4 Rows.topWholeSpec Rows.topWholeRow=true:=by
 unfold joinedFacts;rw[j1,j2,j3,j4]
 kernel_rfl
theorem said:Rows.TopWholeSaid:=
 OpenClaim.holds_of_cond 4 Tryz.f4 rfl rfl rfl rfl rfl rfl rfl ⟨rfl,rfl,rfl,rfl,rfl⟩ rfl rfl rfl rfl rfl (by kernel_rfl) func4 closed
  (of_decide_eq_true (by kernel_rfl)) (by unfold Func.isWrapper;first|(rw[if_pos (by decide +kernel)];kernel_rfl)|(rw[if_neg (by decide +kernel)];exact⟨rfl,rfl⟩))
  (fun os started H enc _ F=>by rw[OpenClaim.pre_eq_preRow];exact lifted os started H enc F)
theorem plain (f:FuncId) (fn:Func) (hf:Tryz.pinned.checked.prog.funcNamed "jobcase/jobcasetop.TopWhole" = some f) (MD:Tryz.pinned.checked.prog.funcs[f]? = some fn):
 true=Tryz.pinned.checked.prog.looks []/\∀(j:Nat) t,fn.params[j]? = some t->Tryz.pinned.checked.prog.wantsStandIn t=false:=by
 obtain rfl:f=4:=Option.some.inj ((show prog.funcNamed "jobcase/jobcasetop.TopWhole" = some 4 by kernel_rfl).symm.trans hf) |>.symm;obtain rfl:fn=Tryz.f4:=(Option.some.inj (func4.symm.trans MD)).symm;refine⟨by kernel_rfl,fun j t ht=>?_⟩;rw[Tryz.params4]at ht
 rcases(by simpa using Array.mem_of_getElem? ht:t=22∨t=40)with rfl|rfl
 ·exact(show prog.wantsStandIn 22=false by kernel_rfl)
 ·exact(show prog.wantsStandIn 40=false by kernel_rfl)
end Go.Proofs.YtphcnmlbieokoaaGreatDoor.DoneTopWhole
namespace Go.Proofs.YtphcnmlbieokoaaGreatDoor
open List
open Go.Proofs.Tryz
theorem topWhole_holds:Rows.TopWholeCardSaid:=
 Claim7.holds_tied_plain_at .later [] _ _ _ _ DoneTopWhole.said (fun _ h=>by cases h) (by kernel_rfl) (fun _ h=>by cases h) topWhole_row_tie rfl ⟨rfl,rfl⟩ (by kernel_rfl) rfl DoneTopWhole.plain (by kernel_rfl)
end Go.Proofs.YtphcnmlbieokoaaGreatDoor
