import Derived.Test.YtphcnmlbieokoaaGreatDoorC23
set_option maxRecDepth 100000
set_option maxHeartbeats 16000000
set_option linter.unusedVariables false
set_option linter.unusedSimpArgs false
namespace Go.Proofs.YtphcnmlbieokoaaGreatDoor.T
open Go.RowKit List Go.Proofs.Tryz
theorem Pb {w0 w:World} {fb mb:Nat} {N:List NV} {F:aC} {ar:Int} {l2:List aI} {k:Nat} (hR:bF w0) (h:aJ w0 w fb mb N F ar l2) (hG:Good k N F ar) (hk:k<800) (a:gC) (uk:Int) (cp:Option Addr) (cn cc:Nat) (hs:a.s.size<=4000000000) (ht:a.t.size<=4000000000):
 Calls prog 14 #[.pointer (some ⟨fb,0,none⟩),.agg #[.string a.aA,.string a.s,.string a.t,.int .i64 a.n,.int .u64 uk,.slice cp cn cc]] w fun e w'=>jy (oA N F ar a) w0 fb mb l2 (k+1) e w':=by
 obtain⟨B,hB⟩:=aa w.heap.size;have h1:=h.aY 40 [.string a.aA,.string a.s,.string a.t,.int .i64 a.n,.int .u64 uk,.slice cp cn cc];rw[hB]at h1;obtain⟨f1,f2,f3,f4,f5,f6,f7,f8⟩:=aaA hR h1 hG hk a hs ht;clear h hG hR
 cases Gs:a.aA.toList==[109,107,100,105,114]with
 |true=>have HC:=aq (f1 Gs);clear f1 f2 f3 f4 f5 f6 f7 f8 h1;go_enter func14,ntmps14;go_wp2_with fail;refine(an HC).mono ?_;rintro e w2 ⟨ov,rfl,uB,h2⟩;have H2:=aq h2;clear h2 HC;go_wp2_with fail;go_ret;exact an H2
 |false=>
 cases Gt:a.aA.toList==[99,114,101,97,116,101]with
 |true=>have HC:=aq (f2 Gs Gt);clear f1 f2 f3 f4 f5 f6 f7 f8 h1;go_enter func14,ntmps14;go_wp2_with fail;refine(an HC).mono ?_;rintro e w2 ⟨ov,rfl,uB,h2⟩;have H2:=aq h2;clear h2 HC;go_wp2_with fail;go_ret;exact an H2
 |false=>
 cases mg:a.aA.toList==[119,114,105,116,101]with
 |true=>have HC:=aq (f3 Gs Gt mg);clear f1 f2 f3 f4 f5 f6 f7 f8 h1;go_enter func14,ntmps14;go_wp2_with fail;refine(an HC).mono ?_;rintro e w2 ⟨ov,rfl,uB,h2⟩;have H2:=aq h2;clear h2 HC;go_wp2_with fail;go_ret;exact an H2
 |false=>
 cases uF:a.aA.toList==[108,105,110,107]with
 |true=>have HC:=aq (f4 Gs Gt mg uF);clear f1 f2 f3 f4 f5 f6 f7 f8 h1;go_enter func14,ntmps14;go_wp2_with fail;refine(an HC).mono ?_;rintro e w2 ⟨ov,rfl,uB,h2⟩;have H2:=aq h2;clear h2 HC;go_wp2_with fail;go_ret;exact an H2
 |false=>
 cases Gi:a.aA.toList==[114,109]with
 |true=>
  have HC:=aq (f5 Gs Gt mg uF Gi);clear f1 f2 f3 f4 f5 f6 f7 f8 h1
  have A8:(a.aA.toList==[114,109,100,105,114])=false:=by rw[show a.aA.toList=[114,109]by simpa using Gi];rfl
  go_enter func14,ntmps14;go_wp2_with fail;refine(an HC).mono ?_;rintro e w2 ⟨ov,rfl,uB,h2⟩;have H2:=aq h2;clear h2 HC;go_wp2_with fail;go_ret;exact an H2
 |false=>
 cases A8:a.aA.toList==[114,109,100,105,114]with
 |true=>have HC:=aq (f6 Gs Gt mg uF Gi A8);clear f1 f2 f3 f4 f5 f6 f7 f8 h1;go_enter func14,ntmps14;go_wp2_with fail;refine(an HC).mono ?_;rintro e w2 ⟨ov,rfl,uB,h2⟩;have H2:=aq h2;clear h2 HC;go_wp2_with fail;go_ret;exact an H2
 |false=>
 cases zP:a.aA.toList==[109,118]with
 |true=>have HC:=aq (f7 Gs Gt mg uF Gi A8 zP);clear f1 f2 f3 f4 f5 f6 f7 f8 h1;go_enter func14,ntmps14;go_wp2_with fail;refine(an HC).mono ?_;rintro e w2 ⟨ov,rfl,uB,h2⟩;have H2:=aq h2;clear h2 HC;go_wp2_with fail;go_ret;exact an H2
 |false=>
 have H1:=aq (f8 Gs Gt mg uF Gi A8 zP _ h1);clear f1 f2 f3 f4 f5 f6 f7 f8 h1;go_enter func14,ntmps14;go_wp2_with fail;go_ret;exact an H1
end Go.Proofs.YtphcnmlbieokoaaGreatDoor.T
namespace Go.Proofs.YtphcnmlbieokoaaGreatDoor.T
open Go.RowKit
open List
open Go.Proofs.Tryz
theorem JA {W w:World} {B:Nat} {q:gC} {u:Int} {p:Option Addr} {n c:Nat} (hq:q.ch=.slice p n c) (mw:iP W q.ch) (hb:Below W.heap.size W w) (h:w.heap[B]? = some (.cells #[.string q.aA,.string q.s,.string q.t,.int .i64 q.n,.int .u64 u,.slice p n c] 40 (0,0))):
 jz w (.slice (some ⟨B,0,none⟩) 1 1) 1 (fun _=>q):=by
 have hc:∀j v,(#[Value.string q.aA,.string q.s,.string q.t,.int .i64 q.n,.int .u64 u,.slice p n c]:Array Value)[j]? = some v->w.cell? ⟨B,j,none⟩=some v:=fun j v hv=>by rw[cell_of_row w B j _ 40 (0,0) h];exact hv
 refine .inr ⟨B,0,1,rfl,by decide,(Array.getElem?_eq_some_iff.1 h).1,fun j hj=>?_⟩;obtain rfl:j=0:=by omega
 refine⟨hc 0 _ rfl,hc 1 _ rfl,hc 2 _ rfl,hc 3 _ rfl,⟨u,hc 4 _ rfl⟩,?_,mw.later hb⟩;rw[hq];exact hc 5 _ rfl
end Go.Proofs.YtphcnmlbieokoaaGreatDoor.T
namespace Go.Proofs.YtphcnmlbieokoaaGreatDoor.S
open Go.RowKit Go.Lib
open List
open Go.Proofs.Tryz
abbrev uP (B:Nat) (q:T.gC) (u:Int) (p:Option Addr) (n c:Nat):T.aI:=.cell B 40 [.string q.aA,.string q.s,.string q.t,.int .i64 q.n,.int .u64 u,.slice p n c]
theorem lP {w0 w:World} {l:List T.aI} {B:Nat} {q:T.gC} {u:Int} {p:Option Addr} {n c:Nat} (h:T.H0 w0 w l) (hm:uP B q u p n c∈l):
 w.cell? ⟨B,0,none⟩=some (.string q.aA)/\w.cell? ⟨B,1,none⟩=some (.string q.s)/\w.cell? ⟨B,2,none⟩=some (.string q.t)/\w.cell? ⟨B,3,none⟩=some (.int .i64 q.n)/\w.cell? ⟨B,4,none⟩=some (.int .u64 u)/\w.cell? ⟨B,5,none⟩=some (.slice p n c):=
 ⟨T.aw.cellAt h hm (j:=0) rfl,T.aw.cellAt h hm (j:=1) rfl,T.aw.cellAt h hm (j:=2) rfl,T.aw.cellAt h hm (j:=3) rfl,T.aw.cellAt h hm (j:=4) rfl,T.aw.cellAt h hm (j:=5) rfl⟩
def TK (w0 w':World) (db mt:Nat) (d:DK) (k f1:Nat) (N:List T.NV) (F:T.aC) (ar:Int) (gb gm kf:Nat) (R:Option Int->List T.NV->T.aC->Int->Prop) (l:List T.aI) (e:Ending):Prop:=
 ∃o N1 F1 n1 B6,e=.returned (Go.Proofs.YtphcnmlbieokoaaGreatDoor.bH o)/\R o N1 F1 n1/\T.Good kf N1 F1 n1/\T.fG F1 B6/\jZ w0 w' db mt d k f1 N F ar (T.gR gb gm N1 n1 B6 l)
theorem zC {w0 w:World} {db mt:Nat} {d:DK} {k f1 kf:Nat} {N Nf:List T.NV} {F Ff:T.aC} {ar nf:Int} {l QA:List T.aI} {gb gm:Nat} (hR:bF w0) (h:jZ w0 w db mt d k f1 N F ar (T.gR gb gm Nf nf QA l)) (hF:T.fG Ff QA) (hG:T.Good kf Nf Ff nf) (hk:kf<800) (q:T.gC) (u:Int) (p:Option Addr) (n c:Nat) (hs:q.s.size<=4000000000) (ht:q.t.size<=4000000000):
 Calls prog 14 #[.pointer (some ⟨gb,0,none⟩),.agg #[.string q.aA,.string q.s,.string q.t,.int .i64 q.n,.int .u64 u,.slice p n c]] w fun e w'=>TK w0 w' db mt d k f1 N F ar gb gm (kf+1) (T.oA Nf Ff nf q) l e:=by
 obtain⟨tp,k1,k2⟩:=h.back;have f4:T.aJ w0 w gb gm Nf Ff nf (l++tp):=⟨QA,hF,eD k1 (fun x=>by simp only[T.ax,T.ay];omega) (fun r hr=>by grind)⟩;refine(T.Pb hR f4 hG hk q u p n c hs ht).mono ?_;rintro e w' ⟨o,N1,F1,n1,he,⟨B6,hF1,h1⟩,hG1,hD⟩;exact⟨o,N1,F1,n1,B6,he,hD,hG1,hF1,k2 w' _ (eD h1 (fun x=>by simp only[T.ax,T.ay];omega) (fun r hr=>by grind))⟩
end Go.Proofs.YtphcnmlbieokoaaGreatDoor.S
