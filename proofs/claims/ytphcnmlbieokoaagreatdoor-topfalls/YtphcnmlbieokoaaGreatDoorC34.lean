/-
  TopFalls: behind many falls, one behind the other, all still goes together; of lists of acts that are few and short, of others nothing is asked.
-/
import Derived.Test.YtphcnmlbieokoaaGreatDoorC24
import Derived.Test.YtphcnmlbieokoaaGreatDoorC33
import Derived.Test.YtphcnmlbieokoaaGreatDoorCards
import Derived.Test.YtphcnmlbieokoaaGreatDoorTie
import Derived.Carry
import Derived.Deep.DeepHandedRow
set_option maxRecDepth 100000
set_option maxHeartbeats 16000000
set_option linter.unusedVariables false
set_option linter.unusedSimpArgs false
namespace Go.Proofs.YtphcnmlbieokoaaGreatDoor.DoneTopFalls
open Go.ChangeShapes Go.WideShapes Go.ChangeAt Go.RowKit
open Go.ChangeMaps (open_string shut_string)
open List
open Go.Proofs.Tryz
theorem bm:laidOutB prog=true:=by kernel_rfl
theorem aas (H:Type) (enc:TypeId×Value->H) (W:World) (au:Nat) (args:Array Value) (ds gs:List (DataW H)) (before:List MemPlace)
 (KI:∀(j:Nat) t v,Tryz.f6.params[j]? = some t->args[j]? = some v->Value.okWide prog W .any au t v)
 (hW:DataW.Whole enc prog Tryz.f6.params.toList Rows.topFallsSpec.vars false W args.toList ds gs before) (hL:laidMetH prog Rows.topFallsRow.laid W) (gX:W.ShapedOpen prog):
 Calls prog 6 args W fun e W'=>∃v,e=.returned v/\Rows.topFallsSpec.post enc prog Tryz.f6 false true false false W args v W':=by
 have vW:=hW;obtain⟨p,q,hA0,hV,rfl,hfz,A3⟩:=hW;have hA:DataW.TrodAll enc prog W 0 (fun _=>true) true Tryz.f6.params.toList args.toList ds p:=hA0;rw[Tryz.params6]at hA KI;obtain⟨v0,vs0,d0,ds0,p0,q0,hargs,rfl,rfl,h0,r0⟩:=trodAll_cons hA;obtain⟨aaC,rfl,rfl⟩:=trodAll_nil r0;subst aaC;obtain rfl:args=#[v0]:=by cases args;simp_all
 obtain⟨rfl,rfl⟩:=trodVars_none hV;obtain⟨n0,f0,hact0⟩:=S.Zv (okWide_slice underlying22 (KI 0 22 v0 rfl rfl)) h0;clear hA0;simp only[append_nil]at vW;have aaF:∀x∈p0,x.block<W.heap.size:=fun x hx=>vW.lt x (by simp[hx])
 have hR:bF W:=QH hL gX;refine(S.TP v0 n0 f0 W hR hact0).mono fun e W' ⟨he,bel⟩=>?_
 subst he;exact⟨_,rfl,_,_,_,[],_,[],vW,trodAll_mk1 (shut_bool underlying4 _),(trodAll_cons_mk (Below.trod bm (by kernel_rfl) (of_decide_eq_true (by kernel_rfl)) h0 bel aaF) trodAll_mk0),rfl,bel.frame _,fun h=>by cases h⟩
theorem aaq (os:Os):laidMet prog Rows.topFallsRow.laid ((XA os).forCall (fun _ _=>0) ⟨#[],#[Value.slice none 0 0],[]⟩).memory:=
 laidMet_of_run' 8 (by kernel_rfl) (by kernel_rfl)
theorem aan (os:Os):laidMetH prog Rows.topFallsRow.laid ((XA os).forCall (fun _ _=>0) ⟨#[],#[Value.slice none 0 0],[]⟩).memory:=by
 rw[MakeChecks.laidMetH_plain _ _ _ (by kernel_rfl)];exact aaq os
theorem reads (os:Os) {H:Type} (enc:TypeId×Value->H):∃places,DataW.whole enc prog ((XA os).forCall (fun _ _=>0) ⟨#[],#[Value.slice none 0 0],[]⟩).memory Tryz.f6.params.toList Rows.topFallsSpec.vars false (#[Value.slice none 0 0]:Array Value).toList 8=some ([.nil],[],places):=
 ⟨[],by kernel_rfl⟩
theorem lifted (os:Os) (started:os.Started) (H:Type) (enc:TypeId×Value->H) (F:Stop.Interp):
 ReturnsInHanded {} Tryz.checked os 6 .any ((OpenSpec.ofChange Rows.topFallsSpec).preRow enc prog Tryz.f6 Rows.topFallsRow.domain false Rows.topFallsRow.laid) (((OpenSpec.ofChange Rows.topFallsSpec).at F).post enc prog Tryz.f6 false true false false):=by
 obtain⟨places,hx⟩:=reads os enc
 refine returnsInHanded_of_row (C:=Tryz.checked) (s:=OpenSpec.ofChange Rows.topFallsSpec) ZP started (by kernel_rfl) func6
  (witness_row_at (enc:=enc) (C:=Tryz.checked) false (XA os) #[Value.slice none 0 0] rfl (by kernel_rfl) (by kernel_rfl) (by kernel_rfl)
   (OpenSpec.preRow_of_cond 8 hx (by kernel_rfl) (fun k hk=>by cases hk) (by kernel_rfl) (aan os))) ?_
 intro W au args ds gs before KI hW _ _ _ hL gX _;exact aas H enc W au args ds gs before KI hW hL gX
theorem j1:(Rows.topFallsRow.inPlace==prog.inPlace 6)=true:=by kernel_rfl
theorem j2:(Rows.topFallsRow.unfollowed==prog.unfollowed 6)=true:=by kernel_rfl
theorem j3:(Rows.topFallsRow.recurses==prog.recurses 6)=true:=by kernel_rfl
theorem j4:(Rows.topFallsRow.named==prog.varsNamed 6)=true:=by kernel_rfl
theorem closed:joinedFacts prog 6 Tryz.f6 Rows.topFallsSpec Rows.topFallsRow=true:=by
 unfold joinedFacts;rw[j1,j2,j3,j4]
 kernel_rfl
theorem said:Rows.TopFallsSaid:=
 OpenClaim.holds_of_cond 6 Tryz.f6 rfl rfl rfl rfl rfl rfl rfl ⟨rfl,rfl,rfl,rfl,rfl⟩ rfl rfl rfl rfl rfl (by kernel_rfl) func6 closed
  (of_decide_eq_true (by kernel_rfl)) (by unfold Func.isWrapper;first|(rw[if_pos (by decide +kernel)];kernel_rfl)|(rw[if_neg (by decide +kernel)];exact⟨rfl,rfl⟩))
  (fun os started H enc _ F=>by rw[OpenClaim.pre_eq_preRow];exact lifted os started H enc F)
theorem plain (f:FuncId) (fn:Func) (hf:Tryz.pinned.checked.prog.funcNamed "jobcase/jobcasetop.TopFalls" = some f) (MD:Tryz.pinned.checked.prog.funcs[f]? = some fn):
 true=Tryz.pinned.checked.prog.looks []/\∀(j:Nat) t,fn.params[j]? = some t->Tryz.pinned.checked.prog.wantsStandIn t=false:=by
 obtain rfl:f=6:=Option.some.inj ((show prog.funcNamed "jobcase/jobcasetop.TopFalls" = some 6 by kernel_rfl).symm.trans hf) |>.symm;obtain rfl:fn=Tryz.f6:=(Option.some.inj (func6.symm.trans MD)).symm;refine⟨by kernel_rfl,fun j t ht=>?_⟩;rw[Tryz.params6]at ht;obtain rfl:t=22:=by simpa using Array.mem_of_getElem? ht
 exact(show prog.wantsStandIn 22=false by kernel_rfl)
end Go.Proofs.YtphcnmlbieokoaaGreatDoor.DoneTopFalls
namespace Go.Proofs.YtphcnmlbieokoaaGreatDoor
open List
open Go.Proofs.Tryz
theorem topFalls_holds:Rows.TopFallsCardSaid:=
 Claim7.holds_tied_plain_at .later [] _ _ _ _ DoneTopFalls.said (fun _ h=>by cases h) (by kernel_rfl) (fun _ h=>by cases h) topFalls_row_tie rfl ⟨rfl,rfl⟩ (by kernel_rfl) rfl DoneTopFalls.plain (by kernel_rfl)
end Go.Proofs.YtphcnmlbieokoaaGreatDoor
