/-
  TopOpen: who opens the disk anew has the same, whatever acts a mount has played; of lists of acts that are few and short, of others nothing is asked.
-/
import Derived.Test.YtphcnmlbieokoaaGreatDoorC24
import Derived.Test.YtphcnmlbieokoaaGreatDoorC25
import Derived.Test.YtphcnmlbieokoaaGreatDoorCards
import Derived.Test.YtphcnmlbieokoaaGreatDoorTie
import Derived.Carry
import Derived.Deep.DeepHandedRow
set_option maxRecDepth 100000
set_option maxHeartbeats 16000000
set_option linter.unusedVariables false
set_option linter.unusedSimpArgs false
namespace Go.Proofs.YtphcnmlbieokoaaGreatDoor.DoneTopOpen
open Go.ChangeShapes Go.WideShapes Go.ChangeAt Go.RowKit
open Go.ChangeMaps (open_string shut_string)
open List
open Go.Proofs.Tryz
theorem bm:laidOutB prog=true:=by kernel_rfl
theorem aas (H:Type) (enc:TypeId×Value->H) (W:World) (au:Nat) (args:Array Value) (ds gs:List (DataW H)) (before:List MemPlace)
 (KI:∀(j:Nat) t v,Tryz.f3.params[j]? = some t->args[j]? = some v->Value.okWide prog W .any au t v)
 (hW:DataW.Whole enc prog Tryz.f3.params.toList Rows.topOpenSpec.vars false W args.toList ds gs before) (hL:laidMetH prog Rows.topOpenRow.laid W) (gX:W.ShapedOpen prog):
 Calls prog 3 args W fun e W'=>∃v,e=.returned v/\Rows.topOpenSpec.post enc prog Tryz.f3 false true false false W args v W':=by
 have vW:=hW;obtain⟨p,q,hA0,hV,rfl,hfz,A3⟩:=hW;have hA:DataW.TrodAll enc prog W 0 (fun _=>true) true Tryz.f3.params.toList args.toList ds p:=hA0;rw[Tryz.params3]at hA KI;obtain⟨v0,vs0,d0,ds0,p0,q0,hargs,rfl,rfl,h0,r0⟩:=trodAll_cons hA;obtain⟨aaC,rfl,rfl⟩:=trodAll_nil r0;subst aaC;obtain rfl:args=#[v0]:=by cases args;simp_all
 obtain⟨rfl,rfl⟩:=trodVars_none hV;obtain⟨n0,f0,hact0⟩:=S.Zv (okWide_slice underlying22 (KI 0 22 v0 rfl rfl)) h0;clear hA0;simp only[append_nil]at vW;have aaF:∀x∈p0,x.block<W.heap.size:=fun x hx=>vW.lt x (by simp[hx])
 have hR:bF W:=QH hL gX;refine(S.Uo v0 n0 f0 W hR hact0).mono fun e W' ⟨he,bel⟩=>?_
 subst he;exact⟨_,rfl,_,_,_,[],_,[],vW,trodAll_mk1 (shut_bool underlying4 _),(trodAll_cons_mk (Below.trod bm (by kernel_rfl) (of_decide_eq_true (by kernel_rfl)) h0 bel aaF) trodAll_mk0),rfl,bel.frame _,fun h=>by cases h⟩
theorem aaq (os:Os):laidMet prog Rows.topOpenRow.laid ((XA os).forCall (fun _ _=>0) ⟨#[],#[Value.slice none 0 0],[]⟩).memory:=
 laidMet_of_run' 8 (by kernel_rfl) (by kernel_rfl)
theorem aan (os:Os):laidMetH prog Rows.topOpenRow.laid ((XA os).forCall (fun _ _=>0) ⟨#[],#[Value.slice none 0 0],[]⟩).memory:=by
 rw[MakeChecks.laidMetH_plain _ _ _ (by kernel_rfl)];exact aaq os
theorem reads (os:Os) {H:Type} (enc:TypeId×Value->H):∃places,DataW.whole enc prog ((XA os).forCall (fun _ _=>0) ⟨#[],#[Value.slice none 0 0],[]⟩).memory Tryz.f3.params.toList Rows.topOpenSpec.vars false (#[Value.slice none 0 0]:Array Value).toList 8=some ([.nil],[],places):=
 ⟨[],by kernel_rfl⟩
theorem lifted (os:Os) (started:os.Started) (H:Type) (enc:TypeId×Value->H) (F:Stop.Interp):
 ReturnsInHanded {} Tryz.checked os 3 .any ((OpenSpec.ofChange Rows.topOpenSpec).preRow enc prog Tryz.f3 Rows.topOpenRow.domain false Rows.topOpenRow.laid) (((OpenSpec.ofChange Rows.topOpenSpec).at F).post enc prog Tryz.f3 false true false false):=by
 obtain⟨places,hx⟩:=reads os enc
 refine returnsInHanded_of_row (C:=Tryz.checked) (s:=OpenSpec.ofChange Rows.topOpenSpec) ZP started (by kernel_rfl) func3
  (witness_row_at (enc:=enc) (C:=Tryz.checked) false (XA os) #[Value.slice none 0 0] rfl (by kernel_rfl) (by kernel_rfl) (by kernel_rfl)
   (OpenSpec.preRow_of_cond 8 hx (by kernel_rfl) (fun k hk=>by cases hk) (by kernel_rfl) (aan os))) ?_
 intro W au args ds gs before KI hW _ _ _ hL gX _;exact aas H enc W au args ds gs before KI hW hL gX
theorem j1:(Rows.topOpenRow.inPlace==prog.inPlace 3)=true:=by kernel_rfl
theorem j2:(Rows.topOpenRow.unfollowed==prog.unfollowed 3)=true:=by kernel_rfl
theorem j3:(Rows.topOpenRow.recurses==prog.recurses 3)=true:=by kernel_rfl
theorem j4:(Rows.topOpenRow.named==prog.varsNamed 3)=true:=by kernel_rfl
theorem closed:joinedFacts prog 3 Tryz.f3 Rows.topOpenSpec Rows.topOpenRow=true:=by
 unfold joinedFacts;rw[j1,j2,j3,j4]
 kernel_rfl
theorem said:Rows.TopOpenSaid:=
 OpenClaim.holds_of_cond 3 Tryz.f3 rfl rfl rfl rfl rfl rfl rfl ⟨rfl,rfl,rfl,rfl,rfl⟩ rfl rfl rfl rfl rfl (by kernel_rfl) func3 closed
  (of_decide_eq_true (by kernel_rfl)) (by unfold Func.isWrapper;first|(rw[if_pos (by decide +kernel)];kernel_rfl)|(rw[if_neg (by decide +kernel)];exact⟨rfl,rfl⟩))
  (fun os started H enc _ F=>by rw[OpenClaim.pre_eq_preRow];exact lifted os started H enc F)
theorem plain (f:FuncId) (fn:Func) (hf:Tryz.pinned.checked.prog.funcNamed "jobcase/jobcasetop.TopOpen" = some f) (MD:Tryz.pinned.checked.prog.funcs[f]? = some fn):
 true=Tryz.pinned.checked.prog.looks []/\∀(j:Nat) t,fn.params[j]? = some t->Tryz.pinned.checked.prog.wantsStandIn t=false:=by
 obtain rfl:f=3:=Option.some.inj ((show prog.funcNamed "jobcase/jobcasetop.TopOpen" = some 3 by kernel_rfl).symm.trans hf) |>.symm;obtain rfl:fn=Tryz.f3:=(Option.some.inj (func3.symm.trans MD)).symm;refine⟨by kernel_rfl,fun j t ht=>?_⟩;rw[Tryz.params3]at ht;obtain rfl:t=22:=by simpa using Array.mem_of_getElem? ht
 exact(show prog.wantsStandIn 22=false by kernel_rfl)
end Go.Proofs.YtphcnmlbieokoaaGreatDoor.DoneTopOpen
namespace Go.Proofs.YtphcnmlbieokoaaGreatDoor
open List
open Go.Proofs.Tryz
theorem topOpen_holds:Rows.TopOpenCardSaid:=
 Claim7.holds_tied_plain_at .later [] _ _ _ _ DoneTopOpen.said (fun _ h=>by cases h) (by kernel_rfl) (fun _ h=>by cases h) topOpen_row_tie rfl ⟨rfl,rfl⟩ (by kernel_rfl) rfl DoneTopOpen.plain (by kernel_rfl)
end Go.Proofs.YtphcnmlbieokoaaGreatDoor
