import Derived.Test.YtphcnmlbieokoaaGreatDoorC16
import Derived.Deep.RegionHeld3
set_option maxRecDepth 100000
set_option maxHeartbeats 16000000
set_option linter.unusedVariables false
set_option linter.unusedSimpArgs false
namespace Go.Proofs.YtphcnmlbieokoaaGreatDoor.T
open Go.RowKit List Go.Proofs.Tryz
section
section
variable {W w w':World} {B:Nat} {a b c i0 k0 p0 l0 t0:Value}
abbrev An (B:Nat) (a b c i0 k0 p0 l0 t0:Value):List aI:=[.cell (B+1) 86 [a,b,c],.cell B 52 [i0,k0,p0,l0,t0]]
theorem Mb (hb:Below w.heap.size w w') (h:Hid (H0 W w (An B a b c i0 k0 p0 l0 t0))):Hid (H0 W w' (An B a b c i0 k0 p0 l0 t0)):=H0.step (an h) hb
theorem GQ (h:Hid (H0 W w (An B a b c i0 k0 p0 l0 t0))):w.cell? ⟨B,0,none⟩=some i0/\w.cell? ⟨B,1,none⟩=some k0/\w.cell? ⟨B,2,none⟩=some p0/\w.cell? ⟨B,3,none⟩=some l0/\w.cell? ⟨B,4,none⟩=some t0/\
 w.cell? ⟨B+1,0,none⟩=some a/\w.cell? ⟨B+1,1,none⟩=some b/\w.cell? ⟨B+1,2,none⟩=some c/\w.frozen? ⟨B+1,0,none⟩=false/\w.frozen? ⟨B+1,1,none⟩=false/\w.frozen? ⟨B+1,2,none⟩=false:=by
 have H:H0 W w (An B a b c i0 k0 p0 l0 t0):=an h;have h33:aI.cell B 52 [i0,k0,p0,l0,t0]∈An B a b c i0 k0 p0 l0 t0:=by simp
 have OM:aI.cell (B+1) 86 [a,b,c]∈An B a b c i0 k0 p0 l0 t0:=by simp
 exact⟨aw.cellAt H h33 rfl,aw.cellAt H h33 rfl,aw.cellAt H h33 rfl,aw.cellAt H h33 rfl,aw.cellAt H h33 rfl,aw.cellAt H OM rfl,aw.cellAt H OM rfl,aw.cellAt H OM rfl,aw.frozenAt H OM _,aw.frozenAt H OM _,aw.frozenAt H OM _⟩
theorem El (x y z:Value) (h:Hid (H0 W w (An B a b c i0 k0 p0 l0 t0))):
 (((w.setCell ⟨B+1,0,none⟩ x).setCell ⟨B+1,1,none⟩ y).setCell ⟨B+1,2,none⟩ z).heap[B+1]? = some (.cells #[x,y,z] 86 (0,0))/\Below W.heap.size W (((w.setCell ⟨B+1,0,none⟩ x).setCell ⟨B+1,1,none⟩ y).setCell ⟨B+1,2,none⟩ z):=by
 have H:H0 W w (An B a b c i0 k0 p0 l0 t0):=an h;have H1:=aw.store [] H 0 x [x,b,c] rfl;have H2:=aw.store [] H1 1 y [x,y,c] rfl;have H3:=aw.store [] H2 2 z [x,y,z] rfl;exact⟨(aw.sat H3 (.cell (B+1) 86 [x,y,z]) (by simp)).2,H0.below H3⟩
end
theorem Cr (i:Nat) (k:Int) (p l:Nat) (aL:ByteArray) (hi:i<100) (hp:p<100) (hl:l<100) (ht:aL.size<=100000) (W:World):
 Calls prog 45 #[.agg #[.int .i64 i,.int .i64 k,.int .i64 p,.int .i64 l,.string aL]] W fun e w'=>
  e=.returned (.agg #[.string (⟨#[110]⟩++bJ i),.string (((⟨#[if k=1 then 100 else 102]⟩++bJ p)++bJ l)++aL),.bool false])/\Below W.heap.size W w':=by
 obtain⟨sa,Dj⟩:=aa (bJ i);obtain⟨sb,Cz⟩:=aa (bJ p);obtain⟨sc,hsc⟩:=aa (bJ l);have T1:∀wx,Calls prog 44 #[.int .i64 i] wx fun e w'=>e=.returned (.string sa)/\Below wx.heap.size wx w':=fun wx=>by rw[<-Dj];exact jl i hi wx
 have T2:∀wx,Calls prog 44 #[.int .i64 p] wx fun e w'=>e=.returned (.string sb)/\Below wx.heap.size wx w':=fun wx=>by rw[<-Cz];exact jl p hp wx
 have T3:∀wx,Calls prog 44 #[.int .i64 l] wx fun e w'=>e=.returned (.string sc)/\Below wx.heap.size wx w':=fun wx=>by rw[<-hsc];exact jl l hl wx
 have HT1:=aq T1;have LQ:=aq T2;have P9:=aq T3;have a1:sa.size=3:=by rw[<-Dj];exact fy hi
 have a2:sb.size=3:=by rw[<-Cz];exact fy hp
 have a3:sc.size=3:=by rw[<-hsc];exact fy hl
 have k1:ByteArray.size ⟨#[110]⟩=1:=rfl;have k2:ByteArray.size ⟨#[100]⟩=1:=rfl;have k3:ByteArray.size ⟨#[102]⟩=1:=rfl;have a4:∀x:UInt8,((⟨#[x]⟩:ByteArray)++sb).size=4:=fun x=>by rw[ByteArray.size_append,a2];rfl
 have a5:∀x:UInt8,(((⟨#[x]⟩:ByteArray)++sb)++sc).size=7:=fun x=>by rw[ByteArray.size_append,a4,a3]
 have a6:¬9223372036854775807<7+aL.size:=by omega
 rw[Dj,Cz,hsc];clear T1 T2 T3 Dj Cz hsc;obtain⟨B,hB⟩:=aa W.heap.size;have h1:=aw.aY (aw.aY (H0.start W) (Nat.le_refl _) 52 [.int .i64 i,.int .i64 k,.int .i64 p,.int .i64 l,.string aL]) (by simp) 86 [.string ⟨#[]⟩,.string ⟨#[]⟩,.bool false];rw[World.size_alloc]at h1;obtain⟨w1,iD⟩:=aa ((W.alloc (.cells [.int .i64 i,.int .i64 k,.int .i64 p,.int .i64 l,.string aL].toArray 52)).alloc (.cells [.string ⟨#[]⟩,.string ⟨#[]⟩,.bool false].toArray 86));rw[iD]at h1;have HH:Hid (H0 W w1 (An B (.string ⟨#[]⟩) (.string ⟨#[]⟩) (.bool false) (.int .i64 i) (.int .i64 k) (.int .i64 p) (.int .i64 l) (.string aL))):=by rw[<-hB];exact aq h1
 have HD:Hid (H0 W w1.drew (An B (.string ⟨#[]⟩) (.string ⟨#[]⟩) (.bool false) (.int .i64 i) (.int .i64 k) (.int .i64 p) (.int .i64 l) (.string aL))):=by rw[<-hB];exact aq (aw.drew h1)
 obtain⟨c0,c1,c2,c3,c4,d0,d1,d2,f0,f1,f2⟩:=GQ HH;have Qa:=fun(wx wy:World) (hb:Below wx.heap.size wx wy) (h:Hid (H0 W wx (An B (.string ⟨#[]⟩) (.string ⟨#[]⟩) (.bool false) (.int .i64 i) (.int .i64 k) (.int .i64 p) (.int .i64 l) (.string aL))))=>(⟨Mb hb h,GQ (Mb hb h)⟩:_/\_)
 clear h1 hi hp hl ht
 by_cases hk:k=1
 ·subst hk;rw[if_pos rfl];go_enter func45,ntmps45;go_wp2_with fail
  go_region_held3 (fun w'=>w'.cell? ⟨B,0,none⟩=some (.int .i64 i)/\w'.cell? ⟨B,2,none⟩=some (.int .i64 p)/\w'.cell? ⟨B,3,none⟩=some (.int .i64 l)/\w'.cell? ⟨B,4,none⟩=some (.string aL)) (first|exact⟨by assumption,by assumption,by assumption,by assumption⟩|go_keep) (((first|(go_at_call_of 44 i;refine(an HT1 _).mono ?_)|(go_at_call_of 44 p;refine(an LQ _).mono ?_)|(go_at_call_of 44 l;refine(an P9 _).mono ?_));rintro e wy ⟨rfl,hb⟩;obtain⟨hy,b0,b1,b2,b3,b4,e0,e1,e2,g0,g1,g2⟩:=Qa _ _ hb (by assumption);clear hb))
  all_goals
   go_wp2_with fail
   refine bodyPost_ret (results_cell_row (p:=2) rfl _ _ (B+1) _ _ (0,0) _ rfl (El _ _ _ (by assumption)).1 underlying86 rfl (by kernel_rfl)) rfl ?_;exact⟨rfl,(El _ _ _ (by assumption)).2⟩
 ·rw[if_neg hk];have TX:(k==1)=false:=by simpa using hk
  clear hk;go_enter func45,ntmps45;go_wp2_with fail
  go_region_held3 (fun w'=>w'.cell? ⟨B,0,none⟩=some (.int .i64 i)/\w'.cell? ⟨B,2,none⟩=some (.int .i64 p)/\w'.cell? ⟨B,3,none⟩=some (.int .i64 l)/\w'.cell? ⟨B,4,none⟩=some (.string aL)) (first|exact⟨by assumption,by assumption,by assumption,by assumption⟩|go_keep) (((first|(go_at_call_of 44 i;refine(an HT1 _).mono ?_)|(go_at_call_of 44 p;refine(an LQ _).mono ?_)|(go_at_call_of 44 l;refine(an P9 _).mono ?_));rintro e wy ⟨rfl,hb⟩;obtain⟨hy,b0,b1,b2,b3,b4,e0,e1,e2,g0,g1,g2⟩:=Qa _ _ hb (by assumption);clear hb))
  all_goals
   go_wp2_with fail
   refine bodyPost_ret (results_cell_row (p:=2) rfl _ _ (B+1) _ _ (0,0) _ rfl (El _ _ _ (by assumption)).1 underlying86 rfl (by kernel_rfl)) rfl ?_;exact⟨rfl,(El _ _ _ (by assumption)).2⟩
end
section
section
variable {W w w':World} {B:Nat} {a b c n0 d0:Value}
abbrev yP (B:Nat) (a b c n0 d0:Value):List aI:=[.cell (B+1) 86 [a,b,c],.cell B 100 [n0,d0]]
theorem V5 (hb:Below w.heap.size w w') (h:Hid (H0 W w (yP B a b c n0 d0))):Hid (H0 W w' (yP B a b c n0 d0)):=H0.step (an h) hb
theorem Qh (h:Hid (H0 W w (yP B a b c n0 d0))):w.cell? ⟨B,0,none⟩=some n0/\w.cell? ⟨B,1,none⟩=some d0/\
 w.cell? ⟨B+1,0,none⟩=some a/\w.cell? ⟨B+1,1,none⟩=some b/\w.cell? ⟨B+1,2,none⟩=some c/\w.frozen? ⟨B+1,0,none⟩=false/\w.frozen? ⟨B+1,1,none⟩=false/\w.frozen? ⟨B+1,2,none⟩=false:=by
 have H:H0 W w (yP B a b c n0 d0):=an h;have h38:aI.cell B 100 [n0,d0]∈yP B a b c n0 d0:=by simp
 have OM:aI.cell (B+1) 86 [a,b,c]∈yP B a b c n0 d0:=by simp
 exact⟨aw.cellAt H h38 rfl,aw.cellAt H h38 rfl,aw.cellAt H OM rfl,aw.cellAt H OM rfl,aw.cellAt H OM rfl,aw.frozenAt H OM _,aw.frozenAt H OM _,aw.frozenAt H OM _⟩
theorem ZC (x y z:Value) (h:Hid (H0 W w (yP B a b c n0 d0))):
 (((w.setCell ⟨B+1,0,none⟩ x).setCell ⟨B+1,1,none⟩ y).setCell ⟨B+1,2,none⟩ z).heap[B+1]? = some (.cells #[x,y,z] 86 (0,0))/\Below W.heap.size W (((w.setCell ⟨B+1,0,none⟩ x).setCell ⟨B+1,1,none⟩ y).setCell ⟨B+1,2,none⟩ z):=by
 have H:H0 W w (yP B a b c n0 d0):=an h;have H1:=aw.store [] H 0 x [x,b,c] rfl;have H2:=aw.store [] H1 1 y [x,y,c] rfl;have H3:=aw.store [] H2 2 z [x,y,z] rfl;exact⟨(aw.sat H3 (.cell (B+1) 86 [x,y,z]) (by simp)).2,H0.below H3⟩
end
theorem Bt (i d:Nat) (nm:ByteArray) (hi:i<100) (hd:d<100) (hc:aR nm=none) (hk:(dP nm).size<=100000) (hn:nm.size<=100000) (W:World) (hR:bF W):
 Calls prog 47 #[.int .i64 i,.agg #[.string nm,.int .i64 d]] W fun e w'=>
  e=.returned (.agg #[.string ((⟨#[101]⟩++bJ i)++dP nm),.string (bJ d++nm),.bool false])/\Below W.heap.size W w':=by
 obtain⟨sa,Dj⟩:=aa (bJ i);obtain⟨sb,Cz⟩:=aa (bJ d);obtain⟨sk,hsk⟩:=aa (dP nm);obtain⟨B,hB⟩:=aa W.heap.size;have T1:∀wx,Calls prog 44 #[.int .i64 i] wx fun e w'=>e=.returned (.string sa)/\Below wx.heap.size wx w':=fun wx=>by rw[<-Dj];exact jl i hi wx
 have T2:∀wx,Calls prog 44 #[.int .i64 d] wx fun e w'=>e=.returned (.string sb)/\Below wx.heap.size wx w':=fun wx=>by rw[<-Cz];exact jl d hd wx
 have T3:∀wx,Hid (H0 W wx (yP B (.string ⟨#[]⟩) (.string ⟨#[]⟩) (.bool false) (.string nm) (.int .i64 d)))->Calls prog 91 #[.string nm] wx fun e w'=>e=.returned (.string sk)/\Below wx.heap.size wx w':=fun wx h=>by rw[<-hsk];exact sQ hc wx (hR.later (H0.below (an h)))
 have HT1:=aq T1;have LQ:=aq T2;have P9:=aq T3;have a1:sa.size=3:=by rw[<-Dj];exact fy hi
 have a2:sb.size=3:=by rw[<-Cz];exact fy hd
 have k1:ByteArray.size ⟨#[101]⟩=1:=rfl;have a4:((⟨#[101]⟩:ByteArray)++sa).size=4:=by rw[ByteArray.size_append,a1];rfl
 have a5:¬9223372036854775807<4+sk.size:=by rw[hsk]at hk;omega
 have a6:¬9223372036854775807<3+nm.size:=by omega
 rw[Dj,Cz,hsk];clear T1 T2 T3 Dj Cz hsk;have h1:=aw.aY (aw.aY (H0.start W) (Nat.le_refl _) 100 [.string nm,.int .i64 d]) (by simp) 86 [.string ⟨#[]⟩,.string ⟨#[]⟩,.bool false];rw[World.size_alloc]at h1;obtain⟨w1,iD⟩:=aa ((W.alloc (.cells [.string nm,.int .i64 d].toArray 100)).alloc (.cells [.string ⟨#[]⟩,.string ⟨#[]⟩,.bool false].toArray 86));rw[iD]at h1;have HH:Hid (H0 W w1 (yP B (.string ⟨#[]⟩) (.string ⟨#[]⟩) (.bool false) (.string nm) (.int .i64 d))):=by rw[<-hB];exact aq h1
 have HD:Hid (H0 W w1.drew (yP B (.string ⟨#[]⟩) (.string ⟨#[]⟩) (.bool false) (.string nm) (.int .i64 d))):=by rw[<-hB];exact aq (aw.drew h1)
 obtain⟨c0,c1,d0,d1,d2,f0,f1,f2⟩:=Qh HH;have Qa:=fun(wx wy:World) (hb:Below wx.heap.size wx wy) (h:Hid (H0 W wx (yP B (.string ⟨#[]⟩) (.string ⟨#[]⟩) (.bool false) (.string nm) (.int .i64 d))))=>(⟨V5 hb h,Qh (V5 hb h)⟩:_/\_)
 clear h1 hi hd hc hk hn hR;go_enter func47,ntmps47;go_wp2_with fail
 go_region_held3 (fun w'=>w'.cell? ⟨B,0,none⟩=some (.string nm)/\w'.cell? ⟨B,1,none⟩=some (.int .i64 d)) (first|exact⟨by assumption,by assumption⟩|go_keep) (((first|(go_at_call_of 44 i;refine(an HT1 _).mono ?_)|(go_at_call_of 44 d;refine(an LQ _).mono ?_)|(go_at_call 91;refine(an P9 _ (by assumption)).mono ?_));rintro e wy ⟨rfl,hb⟩;obtain⟨hy,b0,b1,e0,e1,e2,g0,g1,g2⟩:=Qa _ _ hb (by assumption);clear hb))
 all_goals
  go_wp2_with fail
  refine bodyPost_ret (results_cell_row (p:=4) rfl _ _ (B+1) _ _ (0,0) _ rfl (ZC _ _ _ (by assumption)).1 underlying86 rfl (by kernel_rfl)) rfl ?_;exact⟨rfl,(ZC _ _ _ (by assumption)).2⟩
end
open Go.Lib
section
def YJ (L:List aG):Prop:=∀x∈L,x.az=dP x.name/\aR x.name=none
structure Bit (L T A E:List aG) (cur:ByteArray) (b:Nat):Prop where
 keyT:YJ T
 keyA:YJ A
 keyE:YJ E
 sorted:bf T
 low:∀t∈T,¬dR cur t.az
 te:∀t∈T,t∈E
 al:∀a∈A,a∈L
 le:∀x∈L,x∈E
 seen:∀a∈A,¬dR cur a.az->a∈T
 aF:(bC L cur).length<=b
theorem Bit.done {L T A E:List aG} {cur:ByteArray} {b:Nat} (h:Bit L T A E cur b) (h0:bC L cur=[]):∀a∈A,a∈T:=fun a ha=>by
 refine h.seen a ha fun hk=>?_
 have:a∈bC L cur:=mem_filter.2 ⟨h.al a ha,by simpa using hk⟩;rw[h0]at this
 cases this
variable {w0 w:World} {fb mb:Nat} {N:List NV} {F:aC} {ar:Int} {l2:List aI}
theorem Fq (a b:List aG):iL (a++b)=iL a++iL b:=by simp[iL]
theorem bN {P:Program} {ops:Array Oper} {rest:List Oper} {o:Oper} {a:Act} {w:World} {Q:Exit->Act->World->Prop} (hgd:o.guard=none) (d x:Operand) (dT sT:TypeId) (ho:o.op=Op.call {callee:=Callee.builtin Builtin.append,args:=#[d,x],argTypes:=#[dT,sT]})
 (v u:Value) (hd:a.eval d=v) (hx:a.eval x=u) {v':Value} {w':World} (hr:(Builtin.append_ #[dT,sT] o.type #[v,u]).run P w=.ok v' w') (h:wpList P ops Q rest (a.put o.dst v') w'):wpList P ops Q (o::rest) a w:=by
 refine wpList_plain hgd fun K hK=>?_
 unfold Oper.wp;simp[execOp,ho,resolve,invoke,builtin,hd,hx,hr,Result.andThen];exact hK _ _ h
end
section
theorem Kp (u:NV) (hi:0<=u.id/\u.id<100) (hp:0<=u.up/\u.up<100) (hl:0<=u.aB/\u.aB<100) (ht:u.aL.size<=20) (W:World):
 Calls prog 45 #[.agg #[.int .i64 u.id,.int .i64 u.aA,.int .i64 u.up,.int .i64 u.aB,.string u.aL]] W fun e w'=>e=.returned (.agg #[.string (dN u).az,.string (dN u).val,.bool false])/\Below W.heap.size W w':=by
 have h:=Cr u.id.toNat u.aA u.up.toNat u.aB.toNat u.aL (by omega) (by omega) (by omega) (by omega) W;rw[Int.toNat_of_nonneg hi.1,Int.toNat_of_nonneg hp.1,Int.toNat_of_nonneg hl.1]at h;exact h
theorem Jb (i:Int) (x:aG) (hi:0<=i/\i<100) (hn:0<=x.aN/\x.aN<100) (hc:aR x.name=none) (W:World) (hR:bF W):
 Calls prog 47 #[.int .i64 i,.agg #[.string x.name,.int .i64 x.aN]] W fun e w'=>e=.returned (.agg #[.string (gU i x).az,.string (gU i x).val,.bool false])/\Below W.heap.size W w':=by
 have h:=Bt i.toNat x.aN.toNat x.name (by omega) (by omega) hc (by have:=Df hc;omega) (by have:=Dc hc;omega) W hR;rw[Int.toNat_of_nonneg hi.1,Int.toNat_of_nonneg hn.1]at h;exact h
variable {w0 w:World} {fb mb:Nat} {N:List NV} {F:aC} {ar:Int} {l2:List aI}
theorem aJ.VK {b:Nat} {c:CH} (h:aJ w0 w fb mb N F ar (.cell b 86 (iZ c)::l2)):aJ w0 w fb mb N F ar (cL (.slice (some ⟨b,0,none⟩) 1 1) [c]::l2):=by
 refine h.conv (fun x=>?_) fun hs q hq=>?_
 ·simp only[ax]
  have:(cL (.slice (some ⟨b,0,none⟩) 1 1) [c]).eI x=(aI.cell b 86 (iZ c)).eI x:=by show eR (.slice (some ⟨b,0,none⟩) 1 1) x=one b x;unfold eR one;simp[Value.ownBlock,eq_comm]
  omega
 ·rcases mem_cons.1 hq with rfl|hq
  ·obtain⟨h1,h2⟩:=hs (.cell b 86 (iZ c)) (by simp);exact⟨rfl,.inr ⟨b,1,(iZ c).toArray,rfl,h1,h2,Nat.le_refl 1,by decide,rfl,rfl⟩⟩
  ·exact hs q (by simp[hq])
theorem aJ.abE (l1:List aI) {v:Value} {R:List CH} (h:aJ w0 w fb mb N F ar (l1++cL v R::l2)) {A:Nat} {c:CH} (hc:w.heap[A]? = some (.cells (iZ c).toArray 86 (0,0))) (hn:R.length<=1000) (ty:TypeId):
 ∃v' w',(Builtin.append_ #[38,38] ty #[v,.slice (some ⟨A,0,none⟩) 1 1]).run prog w=.ok v' w'/\aJ w0 w' fb mb N F ar (l1++cL v' (R++[c])::l2):=by
 obtain⟨i0,hi,hz0,fE,fD⟩:=info_parts AS;have hv:=h.rowAt (v:=v) (e:=86) (k:=3) (n:=R.length) (xs:=gF R) (by simp[cL]);have hb:=h.low
 obtain⟨v',w',hr,ho,hg,_,ha⟩:=run_append_own_at (P:=prog) w w0.heap.size 38 ty 86 i0 _ 3 40 underlying38 hi hz0 fE fD rfl (by decide) v _ _ hv ⟨A,0,none⟩ 1 1 (iZ c) rfl (fun j u hj=>by
  rw[Addr.add_lit,Nat.zero_add,cell_of_row _ _ j _ 86 (0,0) hc]
  simpa using hj) (fun u hu=>by simp[iZ]at hu;rcases hu with rfl|rfl|rfl<;>rfl) (by unfold maxLen;omega) (by omega) hb
 refine⟨v',w',hr,?_⟩;rw[<-Bm]at ho;have e:R.length+1=(R++[c]).length:=by simp
 rw[e]at ho;exact aJ.grow l1 h hg ho (ha.imp id fun h=>⟨_,h,Nat.le_refl _⟩)
theorem zV {a b:List aI} (h:a.Perm b) (x:Nat):total a x=total b x:=by
 unfold total;exact(h.map _).sum_nat
theorem aJ.perm {l3:List aI} (h:aJ w0 w fb mb N F ar l2) (hp:l3.Perm l2):aJ w0 w fb mb N F ar l3:=
 h.conv (fun x=>Nat.le_of_eq (zV hp x)) fun hs r hr=>hs r (hp.mem_iff.1 hr)
end
section
theorem Am {F:aC} {ar:Int} {N L:List NV} (h:L.Perm N) (hm:(rowsOf F ar N).length<=1000) {R T:List CH} (he:rowsOf F ar L=R++T):R.length<=1000/\R.length+T.length<=1000:=by
 have h1:=(kj (F:=F) (ar:=ar) h).length_eq;have h2:=congrArg List.length he;rw[length_append]at h2;omega
theorem O8 {F:aC} {L:List NV} {j:Nat} {u:NV} (hu:L[j]? = some u):(L.drop j).flatMap (cY F)=dN u::((bo F u).map (gU u.id)++(L.drop (j+1)).flatMap (cY F)):=by
 obtain⟨hj,e⟩:=List.getElem?_eq_some_iff.1 hu;rw[drop_eq_getElem_cons hj,e,flatMap_cons];rfl
theorem SD {α β:Type} {L:List α} {j:Nat} {u:α} (hu:L[j]? = some u) (f:α->β):(L.drop j).map f=f u::(L.drop (j+1)).map f:=by
 obtain⟨hj,e⟩:=List.getElem?_eq_some_iff.1 hu;rw[drop_eq_getElem_cons hj,e,map_cons]
variable {w0 w:World} {fb mb:Nat} {N:List NV} {F:aC} {ar:Int} {l2:List aI}
theorem lC (hR:bF w0) (h:aJ w0 w fb mb N F ar l2) (hO:jx N F ar):
 Calls prog 19 #[.pointer (some ⟨fb,0,none⟩)] w fun e w'=>∃v R,e=.returned v/\R.Perm (rowsOf F ar N)/\R.Pairwise (fun a b=>¬dR b.az a.az)/\aJ w0 w' fb mb N F ar (cL v R::l2):=by
 have A3:=Ib h hO.fits hO.nodup hO.root;obtain⟨nx,sU⟩:∃nx:Nat,ar=(nx:Int):=⟨ar.toNat,by have:=hO.top;omega⟩
 have uw:∀wx,Calls prog 44 #[.int .i64 ar] wx fun e w'=>e=.returned (.string (gw ar).val)/\Below wx.heap.size wx w':=fun wx=>by have h1:=jl ar.toNat (by have:=hO.top;omega) wx;rw[Int.toNat_of_nonneg hO.top.1]at h1;exact h1
 have HNd:=aq A3;have YU:=aq uw;have HO:=aq hO;have HR:=aq hR;clear A3 uw hO hR h sU;go_enter func19,ntmps19;go_wp2_with fail;refine(an HNd).mono ?_;rintro e w1 ⟨v1,L,rfl,eU,tJ,h1⟩;have hlen:L.length<=16:=by rw[eU.length_eq];exact(an HO).fits.ix
 have H1:=aq h1;have HP:=aq eU;clear h1 HNd eU tJ;go_wp2_with fail;refine(an YU _).mono ?_;rintro e w2 ⟨rfl,cC⟩;have h2:=(an H1).step cC;obtain⟨B,hB⟩:=aa w2.heap.size;have h3:=h2.aY 86 (iZ (gw ar));rw[hB]at h3;obtain⟨w3,hw3⟩:=aa (w2.alloc (.cells (iZ (gw ar)).toArray 86));rw[hw3]at h3;have adS:w2.alloc (.cells #[.string ⟨#[120]⟩,.string (gw ar).val,.bool false] 86)=w3:=hw3;have h4:=h3.VK;obtain⟨nv,hnv⟩:=aa ((gw ar).val);rw[hnv]at adS;have H4:Hid (∃R,rowsOf F ar L=R++(L.drop 0).flatMap (cY F)/\aJ w0 w3 fb mb N F ar (cL (.slice (some ⟨B,0,none⟩) 1 1) R::gL v1 L::l2)):=⟨_,rfl,h4⟩
 have hrN:=h4.rowAt (v:=v1) af;obtain⟨n,hn⟩:=aa L.length;obtain⟨pN,cN,rfl⟩:=jV hrN;rw[hn]at hlen H1 H4 ⊢;have Hn:=aq hn;clear h2 h3 h4 cC H1 YU hw3 hrN hn;go_wp2_with fail
 go_loopg [5,21] (n+1) (fun k v5 v21 wr=>∃j:Nat,n-j<k/\j<=n/\v21=.int .i64 j/\Hid (∃R,rowsOf F ar L=R++(L.drop j).flatMap (cY F)/\aJ w0 wr fb mb N F ar (cL v5 R::gL (.slice pN n cN) L::l2)))
 case atStart=>exact⟨0,by omega,by omega,rfl,H4⟩
 case round=>
  obtain⟨j,hk,hj,rfl,HI⟩:=hrel;clear H4
  by_cases PX:j<n
  ·have MB:(j:Int)<(n:Int):=by omega
   have Gg:j<L.length:=by rw[an Hn];exact PX
   obtain⟨u,hu⟩:∃u,L[j]? = some u:=⟨L[j],by simp[Gg]⟩;obtain⟨R,hRe,hI⟩:=an HI;rw[O8 hu]at hRe;have Mr:=hI.rowAt (v:=.slice pN n cN) af;rw[an Hn]at Mr;obtain⟨g,aU,e1,_⟩:=aZ Mr (by omega);injection e1 with e1 _ e2;subst e1 e2;obtain⟨c0,c1,c2,c3,c4⟩:=Db Mr hu;have TS:u∈N:=(an HP).mem_iff.1 (mem_of_getElem? hu);have CC:=(an HO).ids u TS;have hnr:=fun wx=>Kp u CC ((an HO).ups u TS) ((an HO).aB u TS) ((an HO).aL u TS) wx
   have Yb:=fun wx l (hx:aJ w0 wx fb mb N F ar l)=>CF hx (an HO).fits u.id (il (by omega) (by omega))
   rw[gB (an HO).nodup TS]at Yb
   have Ya:∀(x:aG),x∈bo F u->∀wx l,aJ w0 wx fb mb N F ar l->Calls prog 47 #[.int .i64 u.id,.agg #[.string x.name,.int .i64 x.aN]] wx fun e w'=>e=.returned (.agg #[.string (gU u.id x).az,.string (gU u.id x).val,.bool false])/\aJ w0 w' fb mb N F ar l:=fun x hx wx l h=>by have h1:=(an HO).gA u TS x hx;exact(Jb u.id x CC h1.2.2 h1.2.1 wx (h.ready (an HR))).mono fun e w' ⟨he,hb⟩=>⟨he,h.step hb⟩
   obtain⟨yq,_⟩:=Am (an HP) (an HO).aF hRe;have Fj:=hI.aY 52 [.int .i64 u.id,.int .i64 u.aA,.int .i64 u.up,.int .i64 u.aB,.string u.aL];obtain⟨C,hC⟩:=aa wr.heap.size;rw[hC]at Fj;obtain⟨cn,T6⟩:=aa (dN u);have hgn:cn.gone=false:=by rw[<-T6];rfl
   rw[T6]at hRe hnr;obtain⟨w5,hw5⟩:=aa (wr.alloc (.cells [.int .i64 u.id,.int .i64 u.aA,.int .i64 u.up,.int .i64 u.aB,.string u.aL].toArray 52));rw[hw5]at Fj;have adR:wr.alloc (.cells #[.int .i64 u.id,.int .i64 u.aA,.int .i64 u.up,.int .i64 u.aB,.string u.aL] 52)=w5:=hw5;have x0:w5.cell? ⟨C,0,none⟩=some (.int .i64 u.id):=Fj.cellAt ae (j:=0) rfl;have x1:w5.cell? ⟨C,1,none⟩=some (.int .i64 u.aA):=Fj.cellAt ae (j:=1) rfl;have x2:w5.cell? ⟨C,2,none⟩=some (.int .i64 u.up):=Fj.cellAt ae (j:=2) rfl
   have x3:w5.cell? ⟨C,3,none⟩=some (.int .i64 u.aB):=Fj.cellAt ae (j:=3) rfl;have x4:w5.cell? ⟨C,4,none⟩=some (.string u.aL):=Fj.cellAt ae (j:=4) rfl;have aco:=aq Fj;have PB:=aq hRe;have HNr:=aq hnr;have HEn:=aq Yb;have HEr:=aq Ya;have Hu:=aq hu;clear hI HI Mr TS CC hnr Yb Ya hRe Fj T6 hw5 hu Gg;generalize u.id=uid at *;go_wp2_with fail;refine(an HNr _).mono ?_;rintro e w6 ⟨rfl,WL⟩;have h6:=(an aco).step WL;obtain⟨ck,cv,cg⟩:=cn;simp only at hgn;subst hgn;have h7:=h6.alloc (.cells #[.string ck,.string cv,.bool false] 86)
   obtain⟨v8,w8,lX,h8⟩:=aJ.abE [_] h7 (c:=⟨ck,cv,false⟩) (heap_alloc_new w6 _) yq 38;have y0:w8.cell? ⟨C,0,none⟩=some (.int .i64 uid):=h8.cellAt ae (j:=0) rfl;have zJ:=aq lX;have H8:=aq h8;have he8:=an HEn w8 _ h8;have HE8:=aq he8;clear h6 h7 lX h8 he8 WL HNr aco HEn x0 x1 x2 x3 x4 c0 c1 c2 c3 c4 adR hC yq
   go_wp2_with (at_builtin;refine bN rfl _ _ 38 38 rfl _ _ rfl rfl (an zJ) ?_)
   refine(an HE8).mono ?_;rintro e w9 ⟨vE,rfl,h9⟩;obtain⟨E,hE⟩:=aa (bo F u);rw[hE]at h9 PB HEr;have hrE:=h9.rowAt (v:=vE) (e:=100) (k:=2) ae
   have hEl:E.length<=1000:=by have h1:=(Am (an HP) (an HO).aF (R:=R++[⟨ck,cv,false⟩]) (T:=E.map (gU uid)++(L.drop (j+1)).flatMap (cY F)) (by rw[an PB];simp)).2;simp only[length_append,length_map]at h1;omega
   have H9:Hid (∃R1,rowsOf F ar L=R1++((E.drop 0).map (gU uid)++(L.drop (j+1)).flatMap (cY F))/\aJ w0 w9 fb mb N F ar (kL vE E::.cell C 52 [.int .i64 uid,.int .i64 u.aA,.int .i64 u.up,.int .i64 u.aB,.string u.aL]::cL v8 R1::gL (.slice (some ⟨g,0,none⟩) n cN) L::l2)):=⟨R++[(⟨ck,cv,false⟩:CH)],by rw[an PB];simp,h9⟩;obtain⟨m,hm⟩:=aa E.length;obtain⟨pE,cE,rfl⟩:=jV hrE;rw[hm]at H9 hEl ⊢;have Hm:=aq hm;clear h9 hrE hE hm HE8 PB H8 zJ y0;go_wp2_with fail
   go_loopg [5,35] (m+1) (fun k2 v5 v35 Y9=>∃i:Nat,m-i<k2/\i<=m/\v35=.int .i64 i/\Hid (∃R1,rowsOf F ar L=R1++((E.drop i).map (gU uid)++(L.drop (j+1)).flatMap (cY F))/\aJ w0 Y9 fb mb N F ar (kL (.slice pE m cE) E::.cell C 52 [.int .i64 uid,.int .i64 u.aA,.int .i64 u.up,.int .i64 u.aB,.string u.aL]::cL v5 R1::gL (.slice (some ⟨g,0,none⟩) n cN) L::l2)))
   case atStart=>exact⟨0,by omega,by omega,rfl,H9⟩
   case round=>
    obtain⟨i,ll,hi,rfl,HJ⟩:=hrel;clear H9
    by_cases him:i<m
    ·have mI:(i:Int)<(m:Int):=by omega
     have Cc:i<E.length:=by rw[an Hm];exact him
     obtain⟨x,hx⟩:∃x,E[i]? = some x:=⟨E[i],by simp[Cc]⟩;obtain⟨R1,hR1e,hJ⟩:=an HJ;rw[SD hx]at hR1e;obtain⟨J3,_⟩:=Am (an HP) (an HO).aF hR1e;have Ms:=hJ.rowAt (v:=.slice pE m cE) (e:=100) (k:=2) ae;rw[an Hm]at Ms;obtain⟨g2,cap2,e3,_⟩:=aZ Ms (by omega);injection e3 with e3 _ e4;subst e3 e4;obtain⟨d0,d1⟩:=uL Ms hx;have y0:wr.cell? ⟨C,0,none⟩=some (.int .i64 uid):=hJ.cellAt af (j:=0) rfl;have pH:=hJ.alloc (.cells #[.string x.name,.int .i64 x.aN] 100);obtain⟨D,hD⟩:=aa wr.heap.size
     obtain⟨TN,hw10⟩:=aa (wr.alloc (.cells #[.string x.name,.int .i64 x.aN] 100));have Yn:=hJ.aY 100 [.string x.name,.int .i64 x.aN];rw[hD]at Yn;have Sh:=Yn;have Wh:wr.alloc (.cells [.string x.name,.int .i64 x.aN].toArray 100)=TN:=hw10;rw[Wh]at Sh;rw[hw10]at pH;have z0:TN.cell? ⟨D,0,none⟩=some (.string x.name):=Sh.cellAt ae (j:=0) rfl;have z1:TN.cell? ⟨D,1,none⟩=some (.int .i64 x.aN):=Sh.cellAt ae (j:=1) rfl;have y1:TN.cell? ⟨C,0,none⟩=some (.int .i64 uid):=Sh.cellAt ag (j:=0) rfl
     have Ya:=an HEr x (mem_of_getElem? hx) TN _ pH;obtain⟨ce,RZ⟩:=aa (gU uid x);have Zl:ce.gone=false:=by rw[<-RZ];rfl
     rw[RZ]at Ya hR1e;obtain⟨ek,ev,eg⟩:=ce;simp only at Zl Ya;subst Zl;have ack:=aq Ya;have afD:=aq hR1e;clear hJ HJ Ms Ya hx Cc hR1e RZ pH Yn Sh Wh;go_wp2_with fail;refine(an ack).mono ?_;rintro e ZD ⟨rfl,tN⟩;have pX:=tN.alloc (.cells #[.string ek,.string ev,.bool false] 86);obtain⟨v13,L3,lX,tM⟩:=aJ.abE [_,_] pX (c:=⟨ek,ev,false⟩) (heap_alloc_new ZD _) J3 38;have zJ:=aq lX;have Qg:=aq tM;clear tN pX lX tM ack y0 y1 z0 z1 d0 d1 hw10 hD
     go_wp2_with (at_builtin;refine bN rfl _ _ 38 38 rfl _ _ rfl rfl (an zJ) ?_)
     go_roundg (m-i)
     case measure=>omega
     case rel=>exact⟨i+1,by omega,by omega,by simp,R1++[(⟨ek,ev,false⟩:CH)],by rw[an afD];simp,an Qg⟩
    ·have mI:¬(i:Int)<(m:Int):=by omega
     obtain⟨R1,hR1e,hJ⟩:=an HJ;rw[drop_eq_nil_of_le (by rw[an Hm];omega),map_nil,nil_append]at hR1e;have Y5:=aq (aJ.aD [] (aJ.aD [] hJ));have afE:=aq hR1e;clear hJ HJ hR1e;go_wp2_with fail
     go_roundg (n-j)
     case measure=>omega
     case rel=>exact⟨j+1,by omega,by omega,by simp,R1,an afE,an Y5⟩
  ·have MB:¬(j:Int)<(n:Int):=by omega
   obtain⟨R,hRe,hI⟩:=an HI;rw[drop_eq_nil_of_le (by rw[an Hn];omega),flatMap_nil,append_nil]at hRe;have dW:=hI.rowAt (e:=86) (k:=3) ae;have Wo:R.Perm (rowsOf F ar N):=by rw[<-hRe];exact kj (an HP)
   have rY:R.length<=1000:=by rw[Wo.length_eq];exact(an HO).aF
   have A5:0<R.length:=by rw[<-hRe];simp[rowsOf]
   obtain⟨gR0,cR,rfl,_⟩:=aZ dW A5;have Gr:=Ag dW rfl rY;have YV:=aq Gr;have VZ:=aq hI;have HpR:=aq Wo;obtain⟨r,hr⟩:=aa R.length;rw[hr]at YV;have Hr:=aq hr;rw[hr];clear Gr hI HI Wo rY A5 dW hRe hr;go_wp2_with fail;refine(an YV).mono ?_;rintro e w20 ⟨rfl,R',oL,hsorted,hrow',qQ⟩;have J2:R'.length=r:=by rw[oL.length_eq,an Hr]
   have T9:aJ w0 w20 fb mb N F ar (cL (.slice (some ⟨gR0,0,none⟩) r cR) R'::gL (.slice pN n cN) L::l2):=by unfold cL;rw[J2];exact aJ.grow [] (an VZ) qQ hrow' (.inl rfl)
   have H20:=aq (aJ.aD [_] T9);have Hp2:=aq (oL.trans (an HpR));have Hs:=aq hsorted;clear T9 J2 oL hrow' qQ hsorted YV VZ HpR Hr;go_wp2_with fail;go_ret;exact⟨_,R',rfl,an Hp2,an Hs,an H20⟩
end
section
def eE (L:List aG):List aG:=L.foldl da []
theorem xZ (L:List aG) (x:aG):eE (L++[x])=da (eE L) x:=by unfold eE;rw[foldl_append];rfl
variable {w0 w:World} {fb mb:Nat} {N:List NV} {F:aC} {ar:Int} {l2:List aI}
theorem Ny {tb:Nat} {L L':List aG} (h:tb∉F.map (·.1)):gK ((tb,L)::F) tb L'=(tb,L')::F:=by
 unfold gK;rw[map_cons];simp only[beq_self_eq_true,if_true]
 congr 1
 conv=>rhs;rw[<-map_id F]
 refine map_congr_left fun x hx=>?_
 have:x.1≠tb:=fun e=>h (by rw[<-e];exact mem_map.2 ⟨x,hx,rfl⟩)
 rw[if_neg (by simpa using this)];rfl
theorem QL {tb:Nat} {L:List aG} (h:aJ w0 w fb mb N ((tb,L)::F) ar l2) (it:aG) (hk:it.az.toList.isEmpty=false):
 Calls prog 116 #[.pointer (some ⟨tb,0,none⟩),.string it.az,.agg #[.string it.name,.int .i64 it.aN]] w fun e w'=>e=.returned (.tuple #[])/\aJ w0 w' fb mb N ((tb,da L it)::F) ar l2:=by
 have A3:=h.nodup;rw[map_cons,nodup_cons]at A3;obtain⟨rest,hT,jv⟩:=h.tree (tb:=tb) (by simp);have hl:aX ((tb,L)::F) tb=L:=by simp[aX]
 rw[hl]at hT;refine(tD _ _ _ w tb L it rest hT hk).mono ?_;intro e w' hE;obtain⟨he,hT'⟩:=hE;refine⟨he,?_⟩;have:=jv w' _ hT';rw[Ny A3.1]at this;exact this
theorem Lg {it:aG} (h1:it.az=dP it.name) (h2:aR it.name=none):it.az.toList.isEmpty=false:=by rw[h1];exact kR h2
theorem Ic (hR:bF w0) (h:aJ w0 w fb mb N F ar l2) (id up aB:Int) (aL:ByteArray) {v:Value} {L:List aG} (hm:kL v L∈l2) (hl:L.length<=1000) (hL:∀x∈L,x.az=dP x.name/\aR x.name=none):
 Calls prog 83 #[.agg #[.int .i64 id,.int .i64 1,.int .i64 up,.int .i64 aB,.string aL],v] w fun e w'=>∃tb,e=.returned (.agg #[.int .i64 id,.int .i64 1,.int .i64 up,.int .i64 aB,.string aL,.pointer (some ⟨tb,0,none⟩)])/\aJ w0 w' fb mb N ((tb,eE L)::F) ar l2:=by
 obtain⟨B,hB⟩:=aa w.heap.size;have h1:=(h.aY 52 [.int .i64 id,.int .i64 1,.int .i64 up,.int .i64 aB,.string aL]).aY 107 [.int .i64 0,.int .i64 0,.int .i64 0,.int .i64 0,.string ⟨#[]⟩,.pointer none];have hz:(w.alloc (.cells [.int .i64 id,.int .i64 1,.int .i64 up,.int .i64 aB,.string aL].toArray 52)).heap.size=B+1:=by simp[hB]
 rw[hz,hB]at h1;have hn:=tI h1;have HNw:=aq hn;have ym:=h.rowAt (v:=v) (e:=100) (k:=2) hm;obtain⟨p,c,rfl⟩:=jV ym
 have HKy:Hid (∀x∈L,∀wx l,(∃G,aJ w0 wx fb mb N G ar l)->Calls prog 91 #[.string x.name] wx fun e w'=>e=.returned (.string x.az)/\Below wx.heap.size wx w'):=fun x hx wx l ⟨G,hg⟩=>by rw[(hL x hx).1];exact sQ (hL x hx).2 wx (hg.ready hR)
 have HPt:Hid (∀x∈L,∀wx tb M l,aJ w0 wx fb mb N ((tb,M)::F) ar l->Calls prog 116 #[.pointer (some ⟨tb,0,none⟩),.string x.az,.agg #[.string x.name,.int .i64 x.aN]] wx fun e w'=>e=.returned (.tuple #[])/\aJ w0 w' fb mb N ((tb,da M x)::F) ar l):=fun x hx wx tb M l hg=>QL hg x (Lg (hL x hx).1 (hL x hx).2)
 obtain⟨m,qZ⟩:=aa L.length;have Hm:=aq hm;have Hmm:=aq qZ;rw[qZ]at hl hm ⊢;clear h h1 hz hn ym hL;go_enter func83,ntmps83;go_wp2_with fail;refine(an HNw).mono ?_;rintro e w2 ⟨tb,rfl,h2⟩;have H2:Hid (aJ w0 w2 fb mb N ((tb,eE (L.take 0))::F) ar (.cell (B+1) 107 [.int .i64 0,.int .i64 0,.int .i64 0,.int .i64 0,.string ⟨#[]⟩,.pointer none]::.cell B 52 [.int .i64 id,.int .i64 1,.int .i64 up,.int .i64 aB,.string aL]::l2)):=h2;clear h2 HNw hB hm qZ;go_wp2_with fail
 go_loopg [16] (m+1) (fun g vi wr=>∃i:Nat,m-i<g/\i<=m/\vi=.int .i64 i/\Hid (aJ w0 wr fb mb N ((tb,eE (L.take i))::F) ar (.cell (B+1) 107 [.int .i64 0,.int .i64 0,.int .i64 0,.int .i64 0,.string ⟨#[]⟩,.pointer none]::.cell B 52 [.int .i64 id,.int .i64 1,.int .i64 up,.int .i64 aB,.string aL]::l2)))
 case atStart=>exact⟨0,by omega,by omega,rfl,H2⟩
 case round=>
  obtain⟨i,hg,hi,rfl,HI⟩:=hrel;clear H2
  by_cases him:i<m
  ·have mI:(i:Int)<(m:Int):=by omega
   have Cc:i<L.length:=by rw[an Hmm];exact him
   obtain⟨x,hx⟩:∃x,L[i]? = some x:=⟨L[i],by simp[Cc]⟩;have Zd:=mem_of_getElem? hx;have dW:=(an HI).rowAt (v:=.slice p L.length c) (e:=100) (k:=2) (.tail _ (.tail _ (an Hm)));rw[an Hmm]at dW;obtain⟨g1,aU,e5,_⟩:=aZ dW (by omega);injection e5 with e5 _ e6;subst e5 e6;obtain⟨r0,r1⟩:=uL dW hx;have h3:=(an HI).alloc (.cells #[.string x.name,.int .i64 x.aN] 100);have hky:=fun wx (Rk:aJ w0 wx fb mb N ((tb,eE (L.take i))::F) ar (.cell (B+1) 107 [.int .i64 0,.int .i64 0,.int .i64 0,.int .i64 0,.string ⟨#[]⟩,.pointer none]::.cell B 52 [.int .i64 id,.int .i64 1,.int .i64 up,.int .i64 aB,.string aL]::l2))=>an HKy x Zd wx _ ⟨_,Rk⟩
   have pD:=fun wx (Rk:aJ w0 wx fb mb N ((tb,eE (L.take i))::F) ar (.cell (B+1) 107 [.int .i64 0,.int .i64 0,.int .i64 0,.int .i64 0,.string ⟨#[]⟩,.pointer none]::.cell B 52 [.int .i64 id,.int .i64 1,.int .i64 up,.int .i64 aB,.string aL]::l2))=>an HPt x Zd wx tb _ _ Rk
   have Mn:eE (L.take (i+1))=da (eE (L.take i)) x:=by rw[take_add_one,hx];exact xZ _ _
   obtain⟨C,hC⟩:=aa wr.heap.size;have XJ:=jR wr [.string x.name,.int .i64 x.aN] 100;obtain⟨w4,qy⟩:=aa (wr.alloc (.cells #[.string x.name,.int .i64 x.aN] 100));have hCs:C<w4.heap.size:=by rw[<-qy,World.size_alloc,hC];omega
   have y0:w4.cell? ⟨C,0,none⟩=some (.string x.name):=by rw[<-qy,<-hC];exact XJ 0 _ rfl
   have y1:w4.cell? ⟨C,1,none⟩=some (.int .i64 x.aN):=by rw[<-qy,<-hC];exact XJ 1 _ rfl
   rw[qy]at h3;rw[<-Mn]at pD;have H4:=aq h3;have HK2:=aq hky;have Ug:=aq pD;have HCs:=aq hCs;obtain⟨xn,Wg⟩:=aa x.name;obtain⟨xd,hxd⟩:=aa x.aN;obtain⟨xk,Ml⟩:=aa x.az;rw[Wg]at r0 y0 HK2 Ug qy;rw[hxd]at r1 y1 Ug qy;rw[Ml]at HK2 Ug;clear h3 hky pD dW hx Cc Zd XJ Mn Wg hxd Ml hCs;go_wp2_with fail
   go_region_with (first|(go_at_call 91;refine(an HK2 _ (aJ.drew (an H4))).mono ?_;rintro e w5 ⟨rfl,qR⟩;have h5:=(aJ.drew (an H4)).step qR;have z0:=cell_later qR (show w4.drew.cell? ⟨C,0,none⟩=some (.string xn)from y0);have z1:=cell_later qR (show w4.drew.cell? ⟨C,1,none⟩=some (.int .i64 xd)from y1);have H5:=aq h5;clear h5 qR)|(go_at_call 116;refine(an Ug _ (an H5)).mono ?_;rintro e w6 ⟨rfl,h6⟩;have H6:=aq h6;clear h6))
   all_goals
    go_wp2_with fail
    go_roundg (m-i)
    case measure=>omega
    case rel=>exact⟨i+1,by omega,by omega,by simp,an H6⟩
  ·have mI:¬(i:Int)<(m:Int):=by omega
   have h3:=an HI;rw[take_of_length_le (by rw[an Hmm];omega)]at h3;have b0:wr.cell? ⟨B,0,none⟩=some (.int .i64 id):=h3.cellAt af rfl;have b1:wr.cell? ⟨B,1,none⟩=some (.int .i64 1):=h3.cellAt af rfl;have b2:wr.cell? ⟨B,2,none⟩=some (.int .i64 up):=h3.cellAt af rfl;have b3:wr.cell? ⟨B,3,none⟩=some (.int .i64 aB):=h3.cellAt af rfl;have b4:wr.cell? ⟨B,4,none⟩=some (.string aL):=h3.cellAt af rfl;obtain⟨k0,k1,k2,k3,k4,k5,f0,f1,f2,f3,f4,f5⟩:=h3.mP (b:=B+1) ae
   have H3:=aq h3;clear h3 HI;go_wp2_with fail;have h4:=(an H3).iu [] (.int .i64 id) (.int .i64 1) (.int .i64 up) (.int .i64 aB) (.string aL) (.pointer (some ⟨tb,0,none⟩));refine bodyPost_ret (results_cell_row (p:=4) rfl _ _ (B+1) _ _ (0,0) _ rfl (h4.cw (t:=107) ae) underlying107 rfl (by kernel_rfl)) rfl ?_;exact⟨tb,rfl,(h4.aD []).aD []⟩
end
end Go.Proofs.YtphcnmlbieokoaaGreatDoor.T
