import Derived.Test.YtphcnmlbieokoaaGreatDoorC17
import Derived.Shelf.Strconv.Atoi
import Derived.Shelf.Small.Wraps
set_option maxRecDepth 100000
set_option maxHeartbeats 16000000
set_option linter.unusedVariables false
set_option linter.unusedSimpArgs false
namespace Go.Proofs.YtphcnmlbieokoaaGreatDoor.T.P
open Go.RowKit Go.Proofs.YtphcnmlbieokoaaGreatDoor.T List Go.Proofs.Tryz
open Go.Maps (Keyed)
open Go.WideElems (rd rg pl)
structure PV where
 id:Int
 val:Value
def bX (N:List PV) (i:Int):Option PV:=N.find? fun v=>v.id==i
def S3 (z:Value) (N:List PV) (i:Int):Value:=((bX N i).map PV.val).getD z
def eT (N:List PV) (v:PV):List PV:=if (bX N v.id).isSome then N.map (fun x=>if x.id==v.id then v else x)else N++[v]
structure FV (N:List PV) (D:DataW Value):Prop where
 size:Maps.size D=N.length
 look:∀i z,kg i->D.atKey (.int .i64 i) z=(match bX N i with|none=>z|some v=>.held v.val)
 nodup:(N.map PV.id).Nodup
 wf:∀v∈N,kg v.id
theorem ee {N:List PV} {i:Int} {v:PV} (h:bX N i=some v):v∈N/\v.id=i:=⟨mem_of_find?_eq_some h,by have:=find?_some h;simpa using this⟩
theorem Bo {N:List PV} {i:Int} (h:bX N i=none):∀v∈N,v.id≠i:=by
 intro v hv e;have:=find?_eq_none.1 h v hv;simp[e]at this
theorem pJ {N:List PV} (hn:(N.map PV.id).Nodup) {v:PV} (hv:v∈N):bX N v.id=some v:=by
 induction N with
 |nil=>simp at hv
 |cons x N ih=>
  simp only[map_cons,nodup_cons]at hn;unfold bX;rw[find?_cons]
  rcases mem_cons.1 hv with rfl|hv
  ·simp
  ·have dr:x.id≠v.id:=fun e=>hn.1 (by rw[e];exact mem_map.2 ⟨v,hv,rfl⟩)
   have:(x.id==v.id)=false:=by simpa using dr
   rw[this];exact ih hn.2 hv
theorem G1 (N:List PV) (v:PV):(eT N v).map PV.id=if (bX N v.id).isSome then N.map PV.id else N.map PV.id++[v.id]:=by
 unfold eT
 split
 ·rw[map_map];refine map_congr_left fun x _=>?_
  show(if (x.id==v.id)=true then v else x).id=x.id
  split
  ·rename_i h;simp at h;exact h.symm
  ·rfl
 ·simp
theorem Kk {N:List PV} (hn:(N.map PV.id).Nodup) (v:PV):((eT N v).map PV.id).Nodup:=by
 rw[G1]
 split
 ·exact hn
 ·rename_i h
  have h0:bX N v.id=none:=by cases hf:bX N v.id with|none=>rfl|some x=>rw[hf]at h;simp at h
  rw[nodup_append];refine⟨hn,by simp,fun a ha b hb=>?_⟩;simp at hb;subst hb;obtain⟨x,hx,rfl⟩:=mem_map.1 ha;exact Bo h0 x hx
theorem G0 (N:List PV) (v:PV):(eT N v).length=if (bX N v.id).isSome then N.length else N.length+1:=by
 unfold eT
 split<;>simp
theorem oS {N:List PV} {v:PV} (h:(bX N v.id).isSome=true):(N.map (fun x=>if x.id==v.id then v else x)).find? (fun x=>x.id==v.id)=some v:=by
 induction N with
 |nil=>simp[bX]at h
 |cons x N ih=>
  rw[map_cons,find?_cons]
  by_cases hx:(x.id==v.id)=true
  ·rw[if_pos hx];simp
  ·rw[if_neg hx];have sS:(x.id==v.id)=false:=by simpa using hx
   rw[sS];refine ih ?_;unfold bX at h ⊢;rw[find?_cons,sS]at h;exact h
theorem nA {N:List PV} {v:PV} {i:Int} (h:i≠v.id):(N.map (fun x=>if x.id==v.id then v else x)).find? (fun x=>x.id==i)=N.find? (fun x=>x.id==i):=by
 induction N with
 |nil=>rfl
 |cons x N ih=>
  rw[map_cons,find?_cons,find?_cons,ih]
  by_cases hx:(x.id==v.id)=true
  ·rw[if_pos hx];have h1:(v.id==i)=false:=by simpa using fun e=>h e.symm
   have h2:(x.id==i)=false:=by
    have sS:x.id=v.id:=by simpa using hx
    rw[sS];exact h1
   rw[h1,h2]
  ·rw[if_neg hx]
theorem Bn (N:List PV) (v:PV):bX (eT N v) v.id=some v:=by
 unfold eT
 split
 ·rename_i h;exact oS h
 ·rename_i h
  have h0:bX N v.id=none:=by cases hf:bX N v.id with|none=>rfl|some x=>rw[hf]at h;simp at h
  unfold bX at h0 ⊢;rw[find?_append,h0];simp
theorem ze {N:List PV} {v:PV} {i:Int} (h:i≠v.id):bX (eT N v) i=bX N i:=by
 unfold eT
 split
 ·exact nA h
 ·unfold bX;rw[find?_append];have h1:(v.id==i)=false:=by simpa using fun e=>h e.symm
  rw[find?_cons,h1];simp
theorem FV.has {N:List PV} {D:DataW Value} (h:FV N D) {i:Int} (hi:kg i):Maps.has D (.int .i64 i)=(bX N i).isSome:=by
 cases hf:bX N i with
 |none=>exact Maps.has_false_of_atKey fun z=>by rw[h.look i z hi,hf]
 |some v=>exact Maps.has_true_of_atKey (y:=.held v.val) fun z=>by rw[h.look i z hi,hf]
theorem FV.put {N:List PV} {D:DataW Value} (h:FV N D) (ht:Maps.Tidy D) {v:PV} (hi:kg v.id):FV (eT N v) (D.put (.int .i64 v.id) (.held v.val)):=by
 refine⟨?_,fun i z hw=>?_,Kk h.nodup v,fun x hx=>?_⟩
 ·rw[Maps.size_put ht,h.has hi,h.size,G0]
 ·by_cases he:i=v.id
  ·subst he;rw[Maps.atKey_put_same ht.isMap (Mj _),Bn]
  ·rw[Maps.atKey_put_other (by intro e;cases e;exact he rfl),h.look i z hw,ze he]
 ·have:x.id∈(eT N v).map PV.id:=mem_map.2 ⟨x,hx,rfl⟩;rw[G1]at this
  split at this
  ·obtain⟨y,hy,e⟩:=mem_map.1 this;rw[<-e];exact h.wf y hy
  ·rcases mem_append.1 this with h1|h1
   ·obtain⟨y,hy,e⟩:=mem_map.1 h1;rw[<-e];exact h.wf y hy
   ·simp at h1;rw[h1];exact hi
def cy (N:List PV) (o:Obj):Prop:=∃es clock,o=.map es clock/\Go.WideElems.Fit prog 3 Rv es clock/\FV N (.map ((es.toList.map (rg prog 3 Rv)).foldr DataW.insert []))
theorem fH {au:Nat} {w:World} {b:Nat} {N:List PV} (h:aI.Sat au w (.obj b (cy N))):∃D,w.ownsMap prog 3 Rv b N.length D/\FV N D:=by
 obtain⟨_,o,ho,es,clock,rfl,F,hm⟩:=h;have:=hm.size;simp[Maps.size,length_sorted]at this;exact⟨_,⟨es,clock,ho,F,by omega,rfl⟩,hm⟩
theorem ng {au:Nat} {w:World} {b n:Nat} {N:List PV} {D:DataW Value} (hb:au<=b) (h:w.ownsMap prog 3 Rv b n D) (hm:FV N D):aI.Sat au w (.obj b (cy N)):=by
 obtain⟨es,clock,ho,F,_,rfl⟩:=h;exact⟨hb,_,ho,es,clock,rfl,F,hm⟩
theorem LW (w:World):(zeroValue 151).run prog w=.ok (.pointer none) w:=by first|kernel_rfl|rfl|(simp[zeroValue,go_sem];done)
theorem Xk (w:World):(zeroValue 97).run prog w=.ok (.slice none 0 0) w:=by first|kernel_rfl|rfl|(simp[zeroValue,go_sem];done)
theorem UE {au:Nat} {w:World} {b:Nat} {N:List PV} (h:aI.Sat au w (.obj b (cy N))) {i:Int} (hi:kg i):(Instr.lookup 81 (.map (some b)) (.int .i64 i) true).run prog w=.ok (.tuple #[S3 (.pointer none) N i,.bool (bX N i).isSome]) w:=by
 obtain⟨D,ho,hm⟩:=fH h;obtain⟨v,ps,jD,hv⟩:=ho.look_ok kI underlying81 (z:=.pointer none) (LW w) (zd:=.held (.pointer none)) (zp:=[]) rfl (Iw hi);rw[jD,hm.has hi,hm.look i _ hi]at *;unfold Rv at hv;unfold S3
 cases hf:bX N i with
 |none=>rw[hf]at hv;simp at hv;rw[hv.1];rfl
 |some x=>rw[hf]at hv;simp at hv;rw[hv.1];rfl
theorem Ex {au:Nat} {w:World} {b:Nat} {N:List PV} (h:aI.Sat au w (.obj b (cy N))) {i:Int} (hi:kg i):(Instr.lookup 82 (.map (some b)) (.int .i64 i) false).run prog w=.ok (S3 (.slice none 0 0) N i) w:=by
 obtain⟨D,ho,hm⟩:=fH h;obtain⟨v,ps,jD,hv⟩:=ho.lookup kI underlying82 (z:=.slice none 0 0) (Xk w) (zd:=.held (.slice none 0 0)) (zp:=[]) rfl (Iw hi);rw[jD,hm.look i _ hi]at *;unfold Rv at hv;unfold S3
 cases hf:bX N i with
 |none=>rw[hf]at hv;simp at hv;rw[hv.1];rfl
 |some x=>rw[hf]at hv;simp at hv;rw[hv.1];rfl
theorem Q5 {au:Nat} {w:World} {b:Nat} {N:List PV} (h:aI.Sat au w (.obj b (cy N))) {i:Int} (hi:kg i):(Instr.lookup 81 (.map (some b)) (.int .i64 i) false).run prog w=.ok (S3 (.pointer none) N i) w:=by
 obtain⟨D,ho,hm⟩:=fH h;obtain⟨v,ps,jD,hv⟩:=ho.lookup kI underlying81 (z:=.pointer none) (LW w) (zd:=.held (.pointer none)) (zp:=[]) rfl (Iw hi);rw[jD,hm.look i _ hi]at *;unfold Rv at hv;unfold S3
 cases hf:bX N i with
 |none=>rw[hf]at hv;simp at hv;rw[hv.1];rfl
 |some x=>rw[hf]at hv;simp at hv;rw[hv.1];rfl
theorem Q6 {au:Nat} {w:World} {b:Nat} {N:List PV} (h:aI.Sat au w (.obj b (cy N))) (ty:TypeId):(Builtin.len_ #[81] ty #[.map (some b)]).run prog w=.ok (.int .i64 N.length) w:=by
 obtain⟨D,ho,hm⟩:=fH h;rw[ho.len underlying81 ty,hm.size]
theorem Xp {au:Nat} {w0 w:World} {K0:Nat->Nat} (l1:List aI) {b:Nat} {N:List PV} {l2:List aI} (H:aw au w0 K0 w (l1++.obj b (cy N)::l2)) (hN:N.length<=1000) (v:PV) (hi:kg v.id):
 ∃w',(Instr.mapUpdate 81 (.map (some b)) (.int .i64 v.id) v.val).run prog w=.ok () w'/\aw au w0 K0 w' (l1++.obj b (cy (eT N v))::l2):=by
 have hs:=H.sat (.obj b (cy N)) (by simp);obtain⟨D,ho,hm⟩:=fH hs;obtain⟨w',jD,ho',hg⟩:=ho.update kI underlying81 (by unfold maxLen;omega) (val:=v.val) (d:=.held v.val) (ps:=[]) (Iw hi) rfl;refine⟨w',jD,H.put l1 ((Kept.refl _ w).grown hg fun x hx _=>?_) (ng hs.1 ho' (hm.put (ho.tidy kI) hi)) (fun x _=>Nat.le_refl _) (one_le b)⟩
 cases hx
 show 0<one b b;rw[bx];decide
theorem QO {au:Nat} {w0 w:World} {K0:Nat->Nat} (l1:List aI) {b:Nat} {N:List PV} {l2:List aI} (H:aw au w0 K0 w (l1++.obj b (cy N)::l2)) (hN:N.length<=1000) (v:PV) (hi:kg v.id):
 ∃w',(Instr.mapUpdate 82 (.map (some b)) (.int .i64 v.id) v.val).run prog w=.ok () w'/\aw au w0 K0 w' (l1++.obj b (cy (eT N v))::l2):=by
 have hs:=H.sat (.obj b (cy N)) (by simp);obtain⟨D,ho,hm⟩:=fH hs;obtain⟨w',jD,ho',hg⟩:=ho.update kI underlying82 (by unfold maxLen;omega) (val:=v.val) (d:=.held v.val) (ps:=[]) (Iw hi) rfl;refine⟨w',jD,H.put l1 ((Kept.refl _ w).grown hg fun x hx _=>?_) (ng hs.1 ho' (hm.put (ho.tidy kI) hi)) (fun x _=>Nat.le_refl _) (one_le b)⟩
 cases hx
 show 0<one b b;rw[bx];decide
theorem rP {au:Nat} {w0 w:World} {K0:Nat->Nat} {rs:List aI} (H:aw au w0 K0 w rs) (hb:au<=w.heap.size):aw au w0 K0 (w.alloc (.map #[] 0)) (.obj w.heap.size (cy [])::rs):=by
 refine H.new ((Kept.refl _ w).alloc _) (ng hb (World.ownsMap_made w prog 3 Rv) ⟨rfl,fun i z _=>rfl,by simp,by simp⟩) (fun x hx=>by obtain rfl:=one_pos.1 hx;exact Nat.le_refl _) (one_le _)
end Go.Proofs.YtphcnmlbieokoaaGreatDoor.T.P
namespace Go.Proofs.YtphcnmlbieokoaaGreatDoor.T
open Go.Shelf Go.RowKit List Go.Proofs.Tryz
def lays172_ren:Go.Shelf.Ren:=⟨fun | 129=>147 | 171=>87 | 172=>76 | 205=>227 | 243=>127 | 244=>119 | 245=>120 | 246=>194 | 247=>175 | 279=>176 | 280=>177 | 281=>178 | 282=>179 | 283=>238 | 284=>239 | 285=>240 | 286=>241 | 287=>225 | 316=>226 | 317=>272 | 318=>273 | 319=>274 | 320=>275 | 321=>263 | 322=>264 | 337=>284 | 338=>285|n=>n,fun | 37=>178 | 46=>167 | 51=>214 | 53=>37 | 171=>307 | 173=>309 | 212=>339 | 213=>340 | 232=>348 | 233=>349 | 75=>30 | 76=>143 | 85=>247 | 127=>231 | 143=>327 | 145=>329 | 167=>246 | 168=>249 | 175=>288 | 210=>291 | 80=>183 | 0=>0 | 2=>2 | 3=>3 | 4=>4 | 5=>5 | 9=>9 | 20=>20 | 21=>21|n=>n,fun | 1=>0 | 3=>3 | 4=>4 | 15=>1 | 16=>2 | 17=>5 | 18=>7 | 19=>8|n=>n⟩
theorem lays172:Lays.n172 prog lays172_ren:={
 mixed:=by kernel_rfl
 f129:=ad func147
 f171:=ad func87
 f172:=ad func76
 f205:=ad func227
 f243:=ad func127
 f244:=ad func119
 f245:=ad func120
 f246:=ad func194
 f247:=ad func175
 f279:=ad func176
 f280:=ad func177
 f281:=ad func178
 f282:=ad func179
 f283:=ad func238
 f284:=ad func239
 f285:=ad func240
 f286:=ad func241
 f287:=ad func225
 f316:=ad func226
 f317:=ad func272
 f318:=ad func273
 f319:=ad func274
 f320:=ad func275
 f321:=ad func263
 f322:=ad func264
 f337:=ad func284
 f338:=ad func285
 t0:=underlying0
 a0:=isAgg0
 z0:=sizeOf0
 v0:=zeroValue0
 t2:=underlying2
 a2:=isAgg2
 z2:=sizeOf2
 v2:=zeroValue2
 t3:=underlying3
 a3:=isAgg3
 z3:=sizeOf3
 v3:=zeroValue3
 t4:=underlying4
 a4:=isAgg4
 z4:=sizeOf4
 v4:=zeroValue4
 t5:=underlying5
 a5:=isAgg5
 z5:=sizeOf5
 v5:=zeroValue5
 t9:=underlying9
 a9:=isAgg9
 z9:=sizeOf9
 v9:=zeroValue9
 t20:=underlying20
 a20:=isAgg20
 z20:=sizeOf20
 v20:=zeroValue20
 t21:=underlying21
 a21:=isAgg21
 z21:=sizeOf21
 v21:=zeroValue21
 t37:=underlying178
 a37:=isAgg178
 z37:=sizeOf178
 v37:=zeroValue178
 t46:=underlying167
 a46:=isAgg167
 z46:=sizeOf167
 v46:=zeroValue167
 t51:=underlying214
 a51:=isAgg214
 z51:=sizeOf214
 v51:=zeroValue214
 t53:=underlying37
 a53:=isAgg37
 z53:=sizeOf37
 v53:=zeroValue37
 t75:=underlying30
 a75:=isAgg30
 z75:=sizeOf30
 v75:=zeroValue30
 t76:=underlying143
 a76:=isAgg143
 z76:=sizeOf143
 v76:=zeroValue143
 t85:=underlying247
 a85:=isAgg247
 z85:=sizeOf247
 v85:=zeroValue247
 t127:=underlying231
 a127:=isAgg231
 z127:=sizeOf231
 v127:=zeroValue231
 t143:=underlying327
 a143:=isAgg327
 z143:=sizeOf327
 v143:=zeroValue327
 t145:=underlying329
 a145:=isAgg329
 z145:=sizeOf329
 v145:=zeroValue329
 t167:=underlying246
 a167:=isAgg246
 z167:=sizeOf246
 v167:=zeroValue246
 t168:=underlying249
 a168:=isAgg249
 z168:=sizeOf249
 v168:=zeroValue249
 t171:=underlying307
 a171:=isAgg307
 z171:=sizeOf307
 v171:=zeroValue307
 t173:=underlying309
 a173:=isAgg309
 z173:=sizeOf309
 v173:=zeroValue309
 t175:=underlying288
 a175:=isAgg288
 z175:=sizeOf288
 v175:=zeroValue288
 t210:=underlying291
 a210:=isAgg291
 z210:=sizeOf291
 v210:=zeroValue291
 t212:=underlying339
 a212:=isAgg339
 z212:=sizeOf339
 v212:=zeroValue339
 t213:=underlying340
 a213:=isAgg340
 z213:=sizeOf340
 t232:=underlying348
 a232:=isAgg348
 z232:=sizeOf348
 v232:=zeroValue348
 t233:=underlying349
 a233:=isAgg349
 z233:=sizeOf349
 v233:=zeroValue349
 g15:=by kernel_rfl
 g16:=by kernel_rfl
 g17:=by kernel_rfl
 g18:=by kernel_rfl
 g19:=by kernel_rfl}
theorem Pn:∀i:Fin 100,Lib.atoi (bJ i.val).data.toList=some (i.val:Int):=of_decide_eq_true (by kernel_rfl)
theorem BL (n:Nat) (hn:n<100) (w:World):Calls prog 76 #[.string (bJ n)] w fun e w'=>e=.returned (.tuple #[.int .i64 n,.nilIface])/\Below w.heap.size w w':=by
 refine(Any.strconv_Atoi lays172 (bJ n) n (by rw[fy hn];decide) (Pn ⟨n,hn⟩) w).mono ?_;rintro e w' ⟨he,h⟩;obtain⟨t,rfl⟩:=h;exact⟨he,⟨rfl,rfl,rfl,by rw[Lib.bytesWorld_size];omega,fun j hj=>Lib.bytesWorld_at_old w (lays172_ren.t 5) t j hj⟩⟩
def lays103_ren:Go.Shelf.Ren:=⟨fun | 103=>77 | 206=>180 | 210=>121|n=>n,fun | 24=>145 | 3=>3 | 4=>4 | 9=>9|n=>n,fun|n=>n⟩
theorem lays103:Lays.n103 prog lays103_ren:={
 mixed:=by kernel_rfl
 f103:=ad func77
 f206:=ad func180
 f210:=ad func121
 t3:=underlying3
 a3:=isAgg3
 z3:=sizeOf3
 v3:=zeroValue3
 t4:=underlying4
 a4:=isAgg4
 z4:=sizeOf4
 v4:=zeroValue4
 t9:=underlying9
 a9:=isAgg9
 z9:=sizeOf9
 v9:=zeroValue9
 t24:=underlying145
 a24:=isAgg145
 z24:=sizeOf145
 v24:=zeroValue145}
theorem FB (p r:ByteArray) (w:World):Calls prog 77 #[.string (p++r),.string p] w fun e w'=>e=.returned (.tuple #[.string r,.bool true])/\w'=w:=by
 have h:=Any.strings_CutPrefix lays103 (p++r) p w
 have h1:Lib.hasPrefix (p++r).data.toList p.data.toList=true:=by unfold Lib.hasPrefix;rw[gW];exact List.isPrefixOf_iff_prefix.2 (prefix_append _ _)
 have h2:(⟨(Lib.trimPrefix (p++r).data.toList p.data.toList).toArray⟩:ByteArray)=r:=by unfold Lib.trimPrefix;rw[if_pos h1,gW,drop_left]
 rw[h1,h2]at h;exact h
theorem Yr {s p:ByteArray} (hp:Lib.hasPrefix s.data.toList p.data.toList=false) (w:World):Calls prog 77 #[.string s,.string p] w fun e w'=>e=.returned (.tuple #[.string s,.bool false])/\w'=w:=by
 have h:=Any.strings_CutPrefix lays103 s p w
 have h2:(⟨(Lib.trimPrefix s.data.toList p.data.toList).toArray⟩:ByteArray)=s:=by unfold Lib.trimPrefix;rw[hp];rfl
 rw[hp,h2]at h;exact h
theorem jY (n:Nat) (hn:n<100) (r:ByteArray) (hr:r.size<=100000) (w:World):
 Calls prog 78 #[.string (bJ n++r)] w fun e w'=>e=.returned (.tuple #[.int .i64 n,.string r,.bool true])/\Below w.heap.size w w':=by
 obtain⟨s,hs⟩:=aa (bJ n++r);have hz:s.size=3+r.size:=by rw[<-hs,ByteArray.size_append,fy hn]
 have h1:s.extract 0 3=bJ n:=by
  refine kz ?_;rw[Lib.extract_data,<-hs,gW];have:(bJ n).data.toList.length=3:=by rw[<-Lib.size_eq,fy hn]
  simp[this]
 have h2:s.extract 3 s.size=r:=by
  refine kz ?_;rw[Lib.extract_to_end,<-hs,gW];have:(bJ n).data.toList.length=3:=by rw[<-Lib.size_eq,fy hn]
  rw[drop_left' this]
 have ha:=fun wx=>BL n hn wx
 rw[<-h1]at ha;rw[hs];have HA:=aq ha;have fE:¬(s.size:Int)<3:=by omega
 have fD:(3:Int)<=(s.size:Int):=by omega
 have H2:=aq h2;clear ha h1 h2 hs hn;go_enter func78,ntmps78;go_wp2_with fail;refine(an HA _).mono ?_;rintro e w2 ⟨rfl,hb⟩;have Hb:=aq hb;clear hb HA;go_wp2_with fail
 go_region
 all_goals
  go_wp2_with fail
  refine bodyPost_ret (results_tmp3 rfl _ _ _) rfl ?_;have h3:s.extract 3 (3+r.size)=r:=by rw[<-hz];exact an H2
  refine⟨?_,(an Hb).drew⟩
  show Ending.returned (.tuple #[.int .i64 n,.string (s.extract 3 (3+r.size)),.bool true])=_;rw[h3]
section
structure DN where
 iA:Nat
 id:Int
 aA:ByteArray
 up:Int
 tail:ByteArray
 named:Int
 fr:Int
def DN.pv (d:DN):P.PV:=⟨d.id,.pointer (some ⟨d.iA,0,none⟩)⟩
def DN.cells (d:DN):List Value:=[.string d.aA,.int .i64 d.up,.string d.tail,.int .i64 d.named,.int .i64 d.fr]
def DN.res (d:DN):aI:=.cell d.iA 154 d.cells
structure DE where
 aP:Int
 v:Value
 items:List aG
def DE.pv (e:DE):P.PV:=⟨e.aP,e.v⟩
def DE.res (e:DE):aI:=kL e.v e.items
def eh (db nb eb:Nat) (D:List DN) (E:List DE) (ar:Int) (l:List aI):List aI:=
 .cell db 84 [.map (some nb),.map (some eb),.int .i64 ar]::.obj nb (P.cy (D.map DN.pv))::.obj eb (P.cy (E.map DE.pv))::(D.map DN.res++(E.map DE.res++l))
variable {w0 w w':World} {db nb eb:Nat} {D:List DN} {E:List DE} {ar:Int} {l:List aI}
theorem iM (h:H0 w0 w (eh db nb eb D E ar l)):w.cell? ⟨db,0,none⟩=some (.map (some nb))/\w.cell? ⟨db,1,none⟩=some (.map (some eb))/\w.cell? ⟨db,2,none⟩=some (.int .i64 ar)/\w.frozen? ⟨db,2,none⟩=false:=by
 have hm:aI.cell db 84 [.map (some nb),.map (some eb),.int .i64 ar]∈eh db nb eb D E ar l:=.head _;exact⟨aw.cellAt h hm rfl,aw.cellAt h hm rfl,aw.cellAt h hm rfl,aw.frozenAt h hm _⟩
theorem H0.ready {rs:List aI} (hR:bF w0) (h:H0 w0 w rs):bF w:=hR.later (H0.below h)
theorem C4 {M:List P.PV} {v:P.PV} (h:v.id∉M.map P.PV.id):P.eT M v=M++[v]:=by
 unfold P.eT
 have:(P.bX M v.id).isSome=false:=by
  cases hf:P.bX M v.id with
  |none=>rfl
  |some u=>exact absurd (mem_map.2 ⟨u,(P.ee hf).1,(P.ee hf).2⟩) h
 rw[this];rfl
theorem BC (D:List DN):(D.map DN.pv).map P.PV.id=D.map DN.id:=by simp[DN.pv,Function.comp_def]
theorem uM (E:List DE):(E.map DE.pv).map P.PV.id=E.map DE.aP:=by simp[DE.pv,Function.comp_def]
theorem Vx (h:H0 w0 w (eh db nb eb D E ar l)) (hD:D.length<=1000) (d:DN) (hi:kg d.id) (hid:d.id∉D.map DN.id) (hb:d.iA=w.heap.size):
 ∃w',(Instr.mapUpdate 81 (.map (some nb)) (.int .i64 d.id) (.pointer (some ⟨d.iA,0,none⟩))).run prog (w.alloc (.cells d.cells.toArray 154))=.ok () w'/\H0 w0 w' (eh db nb eb (D++[d]) E ar l):=by
 have h1:=aw.aY h (H0.below h).size 154 d.cells;rw[<-hb]at h1
 have h2:H0 w0 (w.alloc (.cells d.cells.toArray 154)) ([.cell db 84 [.map (some nb),.map (some eb),.int .i64 ar]]++.obj nb (P.cy (D.map DN.pv))::(.obj eb (P.cy (E.map DE.pv))::((D++[d]).map DN.res++(E.map DE.res++l)))):=by
  refine aw.conv h1 (fun x=>?_) (fun r hr=>aw.sat h1 r ?_)
  ·simp only[eh,DN.res,ax,ay,map_append,map_cons,map_nil,fx];omega
  ·simp only[eh,mem_append,mem_cons,map_append,map_cons,map_nil,not_mem_nil,or_false]at hr ⊢
   rcases hr with h|h|h|(h|h)|h|h<;>simp[h,DN.res]
 obtain⟨w',jD,h3⟩:=P.Xp _ h2 (by simpa using hD) d.pv hi;refine⟨w',jD,?_⟩;rw[C4 (by rw[BC];exact hid)]at h3;unfold eh;rw[map_append];exact h3
theorem As (h:H0 w0 w (eh db nb eb D E ar l)) (hD:D.length<=1000) (i:Int) (hi:kg i) (hid:i∉D.map DN.id) (k:UInt8) (up:Nat) (yW:up<100) (tail:ByteArray) (ht:tail.size<=1000):
 Calls prog 79 #[.pointer (some ⟨db,0,none⟩),.int .i64 i,.string (⟨#[k]⟩++(bJ up++tail))] w fun e w'=>e=.returned (.bool true)/\∃iA,H0 w0 w' (eh db nb eb (D++[⟨iA,i,⟨#[k]⟩,up,tail,0,0⟩]) E ar l):=by
 obtain⟨s,hs⟩:=aa ((⟨#[k]⟩:ByteArray)++(bJ up++tail));have hz:s.size=4+tail.size:=by rw[<-hs,ByteArray.size_append,ByteArray.size_append,fy yW];show 1+(3+tail.size)=_;omega
 have h1:s.extract 0 1=⟨#[k]⟩:=by refine kz ?_;rw[Lib.extract_data,<-hs,gW];simp
 have h2:s.extract 1 s.size=bJ up++tail:=by refine kz ?_;rw[Lib.extract_to_end,<-hs,gW];simp
 have dr:(s.toList==([]:List UInt8))=false:=by
  cases hx:(s.toList==([]:List UInt8))with
  |false=>rfl
  |true=>
   exfalso;have h1:s.toList=[]:=by simpa using hx
   rw[Lib.toList_data]at h1;have h0:s.size=0:=by rw[Lib.size_eq,h1];rfl
   omega
 have hc:=fun wx=>jY up yW tail (by omega) wx
 rw[<-h2]at hc;rw[hs];have fE:(1:Int)<=(s.size:Int):=by omega
 have HC:=aq hc;have H1:=aq h;have He1:=aq h1;have afu:=aq hid;have Tq:=aq hi;clear hc h h1 h2 hs hz hid hi yW;go_enter func79,ntmps79;go_wp2_with fail;refine(an HC _).mono ?_;rintro e w2 ⟨rfl,hb⟩;have h3:H0 w0 w2 (eh db nb eb D E ar l):=H0.step (an H1) hb;obtain⟨c0,c1,c2,c3⟩:=iM h3;obtain⟨w5,fq,h5⟩:=Vx (aw.drew h3) hD ⟨w2.heap.size,i,s.extract 0 1,up,tail,0,0⟩ (an Tq) (an afu) (by simp);have vA:Sem.run prog (Instr.mapUpdate 81 (.map (some nb)) (.int .i64 i) (.pointer (some ⟨w2.heap.size,0,none⟩))) (w2.alloc (.cells #[.string (s.extract 0 1),.int .i64 up,.string tail,.int .i64 0,.int .i64 0] 154)).drew=.ok () w5:=fq
 rw[an He1]at h5;have H5:=aq h5;clear h5 h3 fq hb HC H1 c1 c2 c3;have c0a:∀o,(w2.alloc o).cell? ⟨db,0,none⟩=some (.map (some nb)):=fun o=>Lib.cell?_alloc_some o c0
 go_wp2_with fail
 go_region
 all_goals
  go_wp2_with fail
  go_ret;exact⟨rfl,_,an H5⟩
end
open Go.Lib
section
def FZ (E E':List DE) (i:Int) (it:aG):Prop:=
 (i∉E.map DE.aP/\∃v',E'=E++[⟨i,v',[it]⟩])∨∃E1 e E2 v',E=E1++e::E2/\e.aP=i/\E'=E1++⟨i,v',e.items++[it]⟩::E2
theorem O3 {A C:List P.PV} {x:P.PV} (h:((A++x::C).map P.PV.id).Nodup):P.bX (A++x::C) x.id=some x:=P.pJ h (by simp)
theorem QM {A C:List P.PV} {x y:P.PV} (h:((A++x::C).map P.PV.id).Nodup) (e:y.id=x.id):P.eT (A++x::C) y=A++y::C:=by
 unfold P.eT;rw[e,O3 h];simp only[Option.isSome_some,if_true,map_append,map_cons];rw[map_append,map_cons]at h;have h2:=nodup_append.1 h
 have hA:A.map (fun z=>if (z.id==x.id)=true then y else z)=A:=by
  conv=>rhs;rw[<-map_id A]
  refine map_congr_left fun z hz=>?_
  have:z.id≠x.id:=h2.2.2 z.id (mem_map.2 ⟨z,hz,rfl⟩) x.id (by simp);rw[if_neg (by simpa using this)];rfl
 have hC:C.map (fun z=>if (z.id==x.id)=true then y else z)=C:=by
  conv=>rhs;rw[<-map_id C]
  refine map_congr_left fun z hz=>?_
  have:z.id≠x.id:=fun e2=>(nodup_cons.1 h2.2.1).1 (by rw[<-e2];exact mem_map.2 ⟨z,hz,rfl⟩)
  rw[if_neg (by simpa using this)];rfl
 rw[hA,hC];simp
variable {w0 w w':World} {db nb eb:Nat} {D:List DN} {E:List DE} {ar:Int} {l:List aI}
theorem H0.abD (l1:List aI) {l2:List aI} {v:Value} {L:List aG} (h:H0 w0 w (l1++kL v L::l2)) {A:Nat} {it:aG} (hc:w.heap[A]? = some (.cells #[.string it.name,.int .i64 it.aN] 100 (0,0))) (hn:L.length<=1000) (ty:TypeId):
 ∃v' w',(Builtin.append_ #[97,97] ty #[v,.slice (some ⟨A,0,none⟩) 1 1]).run prog w=.ok v' w'/\H0 w0 w' (l1++kL v' (L++[it])::l2):=by
 obtain⟨i0,hi,hz0,fE,fD⟩:=info_parts Rh;have hv:w.ownsRow w0.heap.size 100 2 v L.length (iL L):=aw.sat h (kL v L) (by simp);have hb:w0.heap.size<=w.heap.size:=(H0.below h).size
 obtain⟨v',w',hr,ho,hg,_,ha⟩:=run_append_own_at (P:=prog) w w0.heap.size 97 ty 100 i0 _ 2 24 underlying97 hi hz0 fE fD rfl (by decide) v _ _ hv ⟨A,0,none⟩ 1 1 [.string it.name,.int .i64 it.aN] rfl (fun j u hj=>by
  rw[Addr.add_lit,Nat.zero_add,cell_of_row _ _ j _ 100 (0,0) hc]
  simpa using hj) (fun u hu=>by simp at hu;rcases hu with rfl|rfl<;>rfl) (by unfold maxLen;omega) (by omega) hb
 refine⟨v',w',hr,?_⟩;have e:iL L++[.string it.name,.int .i64 it.aN]=iL (L++[it]):=by rw[Fq];rfl
 rw[e]at ho;have e2:L.length+1=(L++[it]).length:=by simp
 rw[e2]at ho;exact aw.grow l1 h hg ho (ha.imp id fun h=>⟨_,h,Nat.le_refl _⟩)
theorem Yq (h:H0 w0 w (eh db nb eb D E ar l)) (hf:(E.map DE.aP).Nodup) (hE:E.length<=1000) (hI:∀e∈E,e.items.length<=1000) (i:Int) (hi:kg i) (it:aG):
 ∃v v' w5 w6,(∃p n c,v=.slice p n c)/\P.S3 (.slice none 0 0) (E.map DE.pv) i=v/\(Builtin.append_ #[97,97] 97 #[v,.slice (some ⟨w.heap.size,0,none⟩) 1 1]).run prog (w.alloc (.cells #[.string it.name,.int .i64 it.aN] 100))=.ok v' w5/\w5.cell? ⟨db,1,none⟩=some (.map (some eb))/\
  (Instr.mapUpdate 82 (.map (some eb)) (.int .i64 i) v').run prog w5=.ok () w6/\∃E',FZ E E' i it/\H0 w0 w6 (eh db nb eb D E' ar l):=by
 have ha:H0 w0 (w.alloc (.cells #[.string it.name,.int .i64 it.aN] 100)) (eh db nb eb D E ar l):=H0.step h ((Below.refl _ w).alloc (Nat.le_refl _) _)
 cases hx:P.bX (E.map DE.pv) i with
 |none=>
  have y8:i∉(E.map DE.pv).map P.PV.id:=fun hm=>by obtain⟨z,hz,e⟩:=mem_map.1 hm;exact P.Bo hx z hz e
  have h1:=aw.fJ ha 100 2
  have h2:H0 w0 (w.alloc (.cells #[.string it.name,.int .i64 it.aN] 100)) ((.cell db 84 [.map (some nb),.map (some eb),.int .i64 ar]::.obj nb (P.cy (D.map DN.pv))::.obj eb (P.cy (E.map DE.pv))::(D.map DN.res++E.map DE.res))++kL (.slice none 0 0) []::l):=by
   refine aw.conv h1 (fun x=>?_) (fun r hr=>aw.sat h1 r ?_)
   ·simp only[eh,kL,length_nil,iL,flatMap_nil,ax,ay,fx];omega
   ·simp only[eh,mem_append,mem_cons,not_mem_nil,or_false]at hr ⊢
    rcases hr with(h|h|h|h|h)|h|h<;>simp[h,kL,iL]
  obtain⟨v',w5,hr5,h5⟩:=H0.abD _ h2 (it:=it) (heap_alloc_new w _) (by simp) 97
  have h6:H0 w0 w5 ((.cell db 84 [.map (some nb),.map (some eb),.int .i64 ar]::[.obj nb (P.cy (D.map DN.pv))])++.obj eb (P.cy (E.map DE.pv))::(D.map DN.res++((E++[(⟨i,v',[it]⟩:DE)]).map DE.res++l))):=by
   refine aw.conv h5 (fun x=>?_) (fun r hr=>aw.sat h5 r ?_)
   ·simp only[DE.res,map_append,map_cons,map_nil,nil_append,ax,ay,fx];omega
   ·simp only[mem_append,mem_cons,map_append,map_cons,map_nil,not_mem_nil,or_false]at hr ⊢
    rcases hr with(h|h)|h|h|(h|h)|h<;>simp[h,DE.res]
  obtain⟨w6,hr6,h7⟩:=P.QO _ h6 (by simpa using hE) ⟨i,v'⟩ hi;refine⟨.slice none 0 0,v',w5,w6,⟨_,_,_,rfl⟩,by unfold P.S3;rw[hx];rfl,hr5,aw.cellAt h6 (b:=db) (t:=84) (vs:=[.map (some nb),.map (some eb),.int .i64 ar]) (by simp) (j:=1) rfl,hr6,_,.inl ⟨by rw[<-uM];exact y8,v',rfl⟩,?_⟩;rw[C4 (v:=⟨i,v'⟩) y8]at h7;unfold eh;rw[map_append];exact h7
 |some z=>
  obtain⟨hz,We⟩:=P.ee hx;obtain⟨e,he,rfl⟩:=mem_map.1 hz;obtain⟨E1,E2,rfl⟩:=append_of_mem he;have We:e.aP=i:=We
  have h2:H0 w0 (w.alloc (.cells #[.string it.name,.int .i64 it.aN] 100)) ((.cell db 84 [.map (some nb),.map (some eb),.int .i64 ar]::.obj nb (P.cy (D.map DN.pv))::.obj eb (P.cy ((E1++e::E2).map DE.pv))::(D.map DN.res++E1.map DE.res))++kL e.v e.items::(E2.map DE.res++l)):=by
   refine aw.conv ha (fun x=>?_) (fun r hr=>aw.sat ha r ?_)
   ·simp only[eh,DE.res,map_append,map_cons,ax,ay];omega
   ·simp only[eh,mem_append,mem_cons,map_append,map_cons]at hr ⊢
    rcases hr with(h|h|h|h|h)|h|h|h<;>simp[h,DE.res]
  have dW:w.ownsRow w0.heap.size 100 2 e.v e.items.length (iL e.items):=aw.sat h (kL e.v e.items) (by
   unfold eh;simp only[mem_cons,mem_append,map_append,map_cons];exact .inr (.inr (.inr (.inr (.inl (.inr (.inl rfl)))))))
  have KK:∃p n c,e.v=.slice p n c:=by
   rcases dW.2 with⟨h1,h2⟩|⟨g,aU,cur,h1,_⟩
   ·exact⟨none,0,0,h1⟩
   ·exact⟨_,_,aU,h1⟩
  obtain⟨v',w5,hr5,h5⟩:=H0.abD _ h2 (it:=it) (heap_alloc_new w _) (hI e (by simp)) 97
  have h6:H0 w0 w5 ((.cell db 84 [.map (some nb),.map (some eb),.int .i64 ar]::[.obj nb (P.cy (D.map DN.pv))])++.obj eb (P.cy (E1.map DE.pv++e.pv::E2.map DE.pv))::(D.map DN.res++((E1++(⟨i,v',e.items++[it]⟩:DE)::E2).map DE.res++l))):=by
   refine aw.conv h5 (fun x=>?_) (fun r hr=>aw.sat h5 r ?_)
   ·simp only[DE.res,map_append,map_cons,map_nil,nil_append,ax,ay,fx];omega
   ·simp only[mem_append,mem_cons,map_append,map_cons,map_nil,not_mem_nil,or_false]at hr ⊢
    rcases hr with(h|h)|h|h|(h|h|h)|h<;>simp[h,DE.res]
  have A3:((E1.map DE.pv++e.pv::E2.map DE.pv).map P.PV.id).Nodup:=by have:=hf;rw[<-uM]at this;simpa using this
  obtain⟨w6,hr6,h7⟩:=P.QO _ h6 (by simpa using hE) ⟨i,v'⟩ hi;refine⟨e.v,v',w5,w6,KK,by unfold P.S3;rw[hx];rfl,hr5,aw.cellAt h6 (b:=db) (t:=84) (vs:=[.map (some nb),.map (some eb),.int .i64 ar]) (by simp) (j:=1) rfl,hr6,_,.inr ⟨E1,e,E2,v',rfl,We,rfl⟩,?_⟩;rw[QM A3 (by exact We.symm)]at h7;unfold eh;rw[map_append,map_cons];exact h7
theorem yQ (hR:bF w0) (h:H0 w0 w (eh db nb eb D E ar l)) (hf:(E.map DE.aP).Nodup) (hE:E.length<=1000) (hI:∀e∈E,e.items.length<=1000) (i:Int) (hi:kg i) (d:Nat) (hd:d<100) (az nm:ByteArray) (hc:aR nm=none) (gP:nm.size<=1000):
 Calls prog 80 #[.pointer (some ⟨db,0,none⟩),.int .i64 i,.string (bJ d++nm)] w fun e w'=>e=.returned (.bool true)/\∃E',FZ E E' i ⟨az,nm,d⟩/\H0 w0 w' (eh db nb eb D E' ar l):=by
 have T6:=fun wx=>jY d hd nm (by omega) wx
 have HK:Hid (∀wx l,H0 w0 wx l->Calls prog 122 #[.string nm] wx fun e w'=>e=.returned .nilIface/\H0 w0 w' l):=fun wx l hx=>by have:=BJ nm wx (H0.ready hR hx) (by omega);rw[hc]at this;exact this.mono fun e w' ⟨he,hb⟩=>⟨he,H0.step hx hb⟩
 obtain⟨s,hs⟩:=aa (bJ d++nm);rw[hs]at T6 ⊢;have HC:=aq T6;have H1:=aq h;have HF:=aq hf;have HE:=aq hE;have HI:=aq hI;have Hi:=aq hi;clear T6 h hf hE hI hi hs hc gP hd;go_enter func80,ntmps80;go_wp2_with fail;refine(an HC _).mono ?_;rintro e w2 ⟨rfl,hb⟩;have h3:H0 w0 w2 (eh db nb eb D E ar l):=H0.step (an H1) hb;obtain⟨c0,c1,c2,c3⟩:=iM h3;obtain⟨v,v',w5,w6,⟨pv,nv,cv,uz⟩,iV,lX,c5,yW,E',hadd,h6⟩:=Yq (aw.drew h3) (an HF) (an HE) (an HI) i (an Hi) ⟨az,nm,d⟩;have rY:=P.Ex (aw.sat (aw.drew h3) (.obj eb (P.cy (E.map DE.pv))) (by simp[eh])) (an Hi)
 have h3a:H0 w0 (w2.alloc (.cells #[.string nm,.int .i64 d] 100)).drew (eh db nb eb D E ar l):=aw.drew (H0.step h3 ((Below.refl _ w2).alloc (Nat.le_refl _) _));have tm:=P.Ex (aw.sat h3a (.obj eb (P.cy (E.map DE.pv))) (by simp[eh])) (an Hi);rw[iV]at rY tm;subst uz;have aeP:Sem.run prog (Builtin.append_ #[97,97] 97 #[.slice pv nv cv,.slice (some ⟨w2.heap.size,0,none⟩) 1 1]) (w2.alloc (.cells #[.string nm,.int .i64 d] 100)).drew=.ok v' w5:=lX;have c1a:∀o,(w2.alloc o).cell? ⟨db,1,none⟩=some (.map (some eb)):=fun o=>Lib.cell?_alloc_some o c1
 have H6:=aq h6;have afz:=aq hadd;clear h6 hadd h3 h3a lX hb HC H1 c0 c2 c3 iV HF HE HI Hi;have c6:w6.cell? ⟨db,1,none⟩=some (.map (some eb)):=(iM (an H6)).2.1;have e1:w2.drew.cell? ⟨db,1,none⟩=some (.map (some eb)):=c1;go_wp2_with fail
 go_region_held_law (fun w'=>w'.cell? ⟨db,1,none⟩=some (.map (some eb))) (first|assumption|exact c1|go_keep) (refine cH rfl _ _ 97 97 rfl (.slice pv nv cv) (.slice (some ⟨w2.heap.size,0,none⟩) 1 1) (by simp[Act.eval,Act.put]) (by simp[Act.eval,Act.put]) aeP ?_)
 all_goals
  go_wp2_with fail
  refine(an HK _ _ (an H6)).mono ?_;rintro e w7 ⟨rfl,h7⟩;have H7:=aq h7;clear h7;go_wp2_with fail;go_ret;exact⟨rfl,E',an afz,an H7⟩
end
section
variable {w0 w w':World} {db nb eb:Nat} {D:List DN} {E:List DE} {ar:Int} {l:List aI}
theorem H0.perm {a b:List aI} (h:H0 w0 w a) (hp:b.Perm a):H0 w0 w b:=aw.conv h (fun x=>Nat.le_of_eq (zV hp x)) fun r hr=>aw.sat h r (hp.mem_iff.1 hr)
theorem lM {r:aI}:(eh db nb eb D E ar (r::l)).Perm (r::eh db nb eb D E ar l):=by
 have h:eh db nb eb D E ar (r::l)=(.cell db 84 [.map (some nb),.map (some eb),.int .i64 ar]::.obj nb (P.cy (D.map DN.pv))::.obj eb (P.cy (E.map DE.pv))::(D.map DN.res++E.map DE.res))++r::l:=by simp[eh]
 have h2:eh db nb eb D E ar l=(.cell db 84 [.map (some nb),.map (some eb),.int .i64 ar]::.obj nb (P.cy (D.map DN.pv))::.obj eb (P.cy (E.map DE.pv))::(D.map DN.res++E.map DE.res))++l:=by simp[eh]
 rw[h,h2];exact perm_middle
theorem jF {r:aI} (h:H0 w0 w (r::eh db nb eb D E ar l)):H0 w0 w (eh db nb eb D E ar (r::l)):=H0.perm h lM
theorem FA {r:aI} (h:H0 w0 w (eh db nb eb D E ar (r::l))):H0 w0 w (eh db nb eb D E ar l):=by
 have h1:=H0.perm h lM.symm;exact aw.conv h1 (fun x=>by simp only[ax];omega) fun q hq=>aw.sat h1 q (by simp[hq])
theorem pO {b:Nat} {a0 a1 a2:Value} (h:H0 w0 w (eh db nb eb D E ar (.cell b 86 [a0,a1,a2]::l))):w.cell? ⟨b,0,none⟩=some a0/\w.cell? ⟨b,1,none⟩=some a1:=by
 have hm:aI.cell b 86 [a0,a1,a2]∈eh db nb eb D E ar (.cell b 86 [a0,a1,a2]::l):=by simp[eh]
 exact⟨aw.cellAt h hm rfl,aw.cellAt h hm rfl⟩
theorem Vy (h:H0 w0 w (eh db nb eb D E ar l)) (n:Int):H0 w0 (w.setCell ⟨db,2,none⟩ (.int .i64 n)) (eh db nb eb D E n l):=aw.store [] h 2 (.int .i64 n) _ rfl
theorem Au (h:H0 w0 w (eh db nb eb D E ar l)) (n:Nat) (hn:n<100) (g:Bool):
 Calls prog 38 #[.pointer (some ⟨db,0,none⟩),.agg #[.string ⟨#[120]⟩,.string (bJ n),.bool g]] w fun e w'=>e=.returned (.bool true)/\H0 w0 w' (eh db nb eb D E n l):=by
 have ha:=fun wx=>BL n hn wx
 obtain⟨s,hs⟩:=aa (bJ n);rw[hs]at ha ⊢;obtain⟨B,hB⟩:=aa w.heap.size;have h1:=jF (aw.aY h (H0.below h).size 86 [.string ⟨#[120]⟩,.string s,.bool g]);rw[hB]at h1;obtain⟨w1,iD⟩:=aa (w.alloc (.cells [.string ⟨#[120]⟩,.string s,.bool g].toArray 86));rw[iD]at h1;have KH:w.alloc (.cells #[.string ⟨#[120]⟩,.string s,.bool g] 86)=w1:=iD;obtain⟨b0,b1⟩:=pO h1;have HA:=aq ha;have H1:=aq h1;clear ha h h1 hs iD;go_enter func38,ntmps38;go_wp2_with fail;refine(an HA _).mono ?_;rintro e w2 ⟨rfl,hb⟩
 have h3:=H0.step (an H1) hb;obtain⟨c0,c1,c2,c3⟩:=iM h3;have H4:=aq (FA (Vy h3 (n:Int)));clear h3 hb HA H1 b0 b1;go_wp2_with fail;go_ret;exact⟨rfl,an H4⟩
theorem vg (h:H0 w0 w (eh db nb eb D E ar l)) (hD:D.length<=1000) (v:NV) (hi:0<=v.id/\v.id<100) (hid:v.id∉D.map DN.id) (hu:0<=v.up/\v.up<100) (hl:0<=v.aB/\v.aB<100) (ht:v.aL.size<=20) (g:Bool):
 Calls prog 38 #[.pointer (some ⟨db,0,none⟩),.agg #[.string (dN v).az,.string (dN v).val,.bool g]] w fun e w'=>e=.returned (.bool true)/\∃iA,H0 w0 w' (eh db nb eb (D++[⟨iA,v.id,⟨#[if v.aA=1 then 100 else 102]⟩,v.up,bJ v.aB.toNat++v.aL,0,0⟩]) E ar l):=by
 have e1:(dN v).val=⟨#[if v.aA=1 then 100 else 102]⟩++(bJ v.up.toNat++(bJ v.aB.toNat++v.aL)):=by show((_++_)++_)++_=_;rw[ByteArray.append_assoc,ByteArray.append_assoc]
 have e2:(dN v).az=⟨#[110]⟩++bJ v.id.toNat:=rfl;obtain⟨k,hk⟩:∃k:UInt8,(if v.aA=1 then 100 else 102)=k:=⟨_,rfl⟩;rw[hk]at e1 ⊢;obtain⟨tl,uw⟩:=aa (bJ v.aB.toNat++v.aL);have Ro:tl.size<=1000:=by rw[<-uw,ByteArray.size_append,fy (by omega)];omega
 rw[uw]at e1 ⊢;have hcut:=fun wx=>FB ⟨#[110]⟩ (bJ v.id.toNat) wx
 have vC:=fun wx=>jY v.id.toNat (by omega) ⟨#[]⟩ (by decide) wx
 rw[Int.toNat_of_nonneg hi.1,show bJ v.id.toNat++⟨#[]⟩=bJ v.id.toNat from kz (by simp)]at vC;have PT:=fun(wx:World) (lx:List aI) (hx:H0 w0 wx (eh db nb eb D E ar lx))=>As hx hD v.id (il (by omega) (by omega)) hid k v.up.toNat (by omega) tl Ro
 rw[Int.toNat_of_nonneg hu.1]at PT;rw[e2]at *;rw[<-e1]at PT
 have Rl:((⟨#[110]⟩++bJ v.id.toNat:ByteArray).toList==[120])=false:=by rw[Lib.toList_data,gW];simp
 obtain⟨sk,hsk⟩:=aa ((⟨#[110]⟩++bJ v.id.toNat:ByteArray));obtain⟨si,hsi⟩:=aa (bJ v.id.toNat);obtain⟨sv,Wl⟩:=aa ((dN v).val);rw[Wl]at PT ⊢;rw[hsk]at hcut Rl ⊢;rw[hsi]at hcut vC;obtain⟨vi,hvi⟩:=aa v.id;rw[hvi]at vC PT ⊢;obtain⟨vu,hvu⟩:=aa v.up;rw[hvu]at PT ⊢;obtain⟨B,hB⟩:=aa w.heap.size;have h1:=jF (aw.aY h (H0.below h).size 86 [.string sk,.string sv,.bool g]);rw[hB]at h1;obtain⟨w1,iD⟩:=aa (w.alloc (.cells [.string sk,.string sv,.bool g].toArray 86))
 rw[iD]at h1;have KH:w.alloc (.cells #[.string sk,.string sv,.bool g] 86)=w1:=iD;obtain⟨b0,b1⟩:=pO h1;have HC:=aq hcut;have HN:=aq vC;have HR:=aq PT;have H1:=aq h1;clear hcut vC PT h h1 iD e1 e2 hk uw Ro hsk hsi Wl hvi hvu hi hid hu hl ht;go_enter func38,ntmps38;go_wp2_with fail;refine(an HC _).mono ?_;rintro e w2 ⟨rfl,rfl⟩;go_wp2_with fail;refine(an HN _).mono ?_;rintro e w3 ⟨rfl,hb⟩;have h3:=H0.step (an H1) hb;obtain⟨b2,b3⟩:=pO h3;have Ow:=an HR _ _ h3;have W9:=aq Ow;clear h3 hb HC HN HR Ow b0 b1
 go_wp2_with fail
 refine(an W9).mono ?_;rintro e w4 ⟨rfl,iA,h4⟩;have H4:=aq (FA h4);clear h4 W9 H1;go_wp2_with fail;go_ret;exact⟨rfl,iA,an H4⟩
theorem uf (hR:bF w0) (h:H0 w0 w (eh db nb eb D E ar l)) (hf:(E.map DE.aP).Nodup) (hE:E.length<=1000) (hI:∀e∈E,e.items.length<=1000) (i:Int) (hi:0<=i/\i<100) (x:aG) (hn:0<=x.aN/\x.aN<100) (hc:aR x.name=none) (g:Bool):
 Calls prog 38 #[.pointer (some ⟨db,0,none⟩),.agg #[.string (gU i x).az,.string (gU i x).val,.bool g]] w fun e w'=>e=.returned (.bool true)/\∃E',FZ E E' i x/\H0 w0 w' (eh db nb eb D E' ar l):=by
 have e2:(gU i x).az=⟨#[101]⟩++(bJ i.toNat++dP x.name):=by show(_++_)++_=_;rw[ByteArray.append_assoc]
 have hcut:=fun wx=>FB ⟨#[101]⟩ (bJ i.toNat++dP x.name) wx
 have vC:=fun wx=>jY i.toNat (by omega) (dP x.name) (by have:=Df hc;omega) wx
 rw[Int.toNat_of_nonneg hi.1]at vC;have B7:=fun(wx:World) (lx:List aI) (hx:H0 w0 wx (eh db nb eb D E ar lx))=>yQ hR hx hf hE hI i (il (by omega) (by omega)) x.aN.toNat (by omega) x.az x.name hc (by have:=Dc hc;omega)
 rw[Int.toNat_of_nonneg hn.1]at B7;have nR:=fun wx=>Yr (s:=⟨#[101]⟩++(bJ i.toNat++dP x.name)) (p:=⟨#[110]⟩) (by unfold Lib.hasPrefix;rw[gW];simp[List.isPrefixOf]) wx
 have Rl:((⟨#[101]⟩++(bJ i.toNat++dP x.name):ByteArray).toList==[120])=false:=by rw[Lib.toList_data,gW];simp
 rw[e2];have e3:(gU i x).val=bJ x.aN.toNat++x.name:=rfl;rw[e3];obtain⟨sk,hsk⟩:=aa ((⟨#[101]⟩++(bJ i.toNat++dP x.name):ByteArray));obtain⟨si,hsi⟩:=aa ((bJ i.toNat++dP x.name));obtain⟨sv,Wl⟩:=aa (bJ x.aN.toNat++x.name);obtain⟨sy,hsy⟩:=aa (dP x.name);rw[Wl]at B7 ⊢;rw[hsk]at hcut nR Rl ⊢;rw[hsi]at hcut vC;rw[hsy]at vC;obtain⟨B,hB⟩:=aa w.heap.size;have h1:=jF (aw.aY h (H0.below h).size 86 [.string sk,.string sv,.bool g])
 rw[hB]at h1;obtain⟨w1,iD⟩:=aa (w.alloc (.cells [.string sk,.string sv,.bool g].toArray 86));rw[iD]at h1;have KH:w.alloc (.cells #[.string sk,.string sv,.bool g] 86)=w1:=iD;obtain⟨b0,b1⟩:=pO h1;have HC:=aq hcut;have Qc:=aq nR;have HN:=aq vC;have PB:=aq B7;have H1:=aq h1;clear hcut vC B7 nR h h1 iD e2 e3 hsk hsi Wl hsy hi hn hc hf hE hI;go_enter func38,ntmps38;go_wp2_with fail;refine(an Qc _).mono ?_;rintro e w2 ⟨rfl,rfl⟩;go_wp2_with fail;refine(an HC _).mono ?_;rintro e w2 ⟨rfl,rfl⟩;go_wp2_with fail
 refine(an HN _).mono ?_;rintro e w3 ⟨rfl,hb⟩;have h3:=H0.step (an H1) hb;obtain⟨b2,b3⟩:=pO h3;have Ow:=an PB _ _ h3;have W9:=aq Ow;clear h3 hb HC HN PB Ow b0 b1 Qc;go_wp2_with fail;refine(an W9).mono ?_;rintro e w4 ⟨rfl,E',hadd,h4⟩;have H4:=aq (FA h4);have Ha:=aq hadd;clear h4 W9 H1 hadd;go_wp2_with fail;go_ret;exact⟨rfl,E',an Ha,an H4⟩
end
end Go.Proofs.YtphcnmlbieokoaaGreatDoor.T
namespace Go.Proofs.YtphcnmlbieokoaaGreatDoor.T.P
open Go.RowKit Go.Proofs.YtphcnmlbieokoaaGreatDoor.T List
section
open Go.Maps (Keyed)
structure Came (N:List PV) (acc:List PV) (left:Lit->Bool):Prop where
 sub:∀u∈acc,u∈N
 nodup:(acc.map PV.id).Nodup
 left:∀i,kg i->(left (.int .i64 i)=true↔(bX N i).isSome=true/\i∉acc.map PV.id)
variable {N:List PV}
theorem Came.all {acc:List PV} {left:Lit->Bool} (h:Came N acc left) (hn:(N.map PV.id).Nodup) (hw:∀v∈N,kg v.id) (h0:∀kl,left kl=false):acc.Perm N:=by
 have nr:∀v∈N,v∈acc:=fun v hv=>by
  have h1:=h.left v.id (hw v hv);rw[h0]at h1
  have h2:v.id∈acc.map PV.id:=by apply Classical.byContradiction;intro nR;have:=h1.2 ⟨by rw[pJ hn hv];rfl,nR⟩;cases this
  obtain⟨u,hu,e⟩:=mem_map.1 h2
  have:u=v:=by have a:=pJ hn (h.sub u hu);have b:=pJ hn hv;rw[e,b]at a;exact(Option.some.inj a).symm
  rw[<-this];exact hu
 have JY:acc.Nodup:=(pairwise_map.1 h.nodup).imp fun dr e=>dr (by rw[e])
 have hnN:N.Nodup:=(pairwise_map.1 hn).imp fun dr e=>dr (by rw[e])
 exact(perm_ext_iff_of_nodup JY hnN).2 fun v=>⟨fun hv=>h.sub v hv,nr v⟩
theorem Came.more {acc:List PV} {left:Lit->Bool} (h:Came N acc left) {u:PV} (hw:kg u.id) (hu:bX N u.id=some u) (hl:left (.int .i64 u.id)=true):Came N (acc++[u]) (fun z=>left z && !z.sameKey (.int .i64 u.id)):=by
 have h1:=(h.left u.id hw).1 hl;refine⟨fun x hx=>?_,?_,fun i hi=>?_⟩
 ·rcases mem_append.1 hx with hx|hx
  ·exact h.sub x hx
  ·rw[mem_singleton.1 hx];exact(ee hu).1
 ·rw[map_append,nodup_append];refine⟨h.nodup,by simp,fun a ha b hb e=>?_⟩;simp at hb;subst hb;rw[e]at ha;exact h1.2 ha
 ·have hs:(Lit.int .i64 i).sameKey (.int .i64 u.id)=decide (i=u.id):=by
   simp[Lit.sameKey]
  simp only[hs];rw[map_append,mem_append]
  by_cases e:i=u.id
  ·subst e;simp
  ·have:=h.left i hi;simp[e,this]
theorem BK {N:List PV} {D:DataW Value} (hm:FV N D):Came N [] (Maps.has D):=⟨by simp,by simp,fun i hi=>by rw[hm.has hi];simp⟩
theorem AG {N acc:List PV} (h1:(acc.map PV.id).Nodup) (h2:∀u∈acc,u∈N):acc.length<=N.length:=by
 have:=sN h1 (m:=N.map PV.id) fun x hx=>by obtain⟨u,hu,rfl⟩:=mem_map.1 hx;exact mem_map.2 ⟨u,h2 u hu,rfl⟩
 rwa [length_map,length_map]at this
end
end Go.Proofs.YtphcnmlbieokoaaGreatDoor.T.P
namespace Go.Proofs.YtphcnmlbieokoaaGreatDoor.T
open Go.RowKit List Go.Proofs.Tryz
section
def jH (A:List (Int×aG)) (i:Int):Int:=A.foldl (fun a p=>if p.2.aN=i then p.1 else a) 0
theorem qt (A:List (Int×aG)) (p:Int×aG) (i:Int):jH (A++[p]) i=if p.2.aN=i then p.1 else jH A i:=by
 unfold jH;rw[foldl_append];rfl
theorem ud (A:List (Int×aG)) (p:Int×aG) (i:Int):b9 (A++[p]) i=b9 A i+if p.2.aN=i then 1 else 0:=by
 unfold b9;rw[countP_append,countP_cons];simp
def PN (A:List (Int×aG)) (d:DN):DN:=⟨d.iA,d.id,d.aA,d.up,d.tail,b9 A d.id,jH A d.id⟩
def mark (A:List (Int×aG)) (D:List DN):List DN:=D.map (PN A)
theorem sP (A:List (Int×aG)) (D:List DN):(mark A D).map DN.pv=D.map DN.pv:=by simp[mark,PN,DN.pv,Function.comp_def]
theorem QY {D:List DN} (h:∀d∈D,d.named=0/\d.fr=0):mark [] D=D:=by
 unfold mark
 conv=>rhs;rw[<-map_id D]
 refine map_congr_left fun d hd=>?_
 obtain⟨h1,h2⟩:=h d hd;unfold PN
 show(⟨d.iA,d.id,d.aA,d.up,d.tail,0,0⟩:DN)=d
 cases d
 simp only at h1 h2;subst h1 h2;rfl
variable {w0 w w':World} {db nb eb:Nat} {D:List DN} {E:List DE} {ar:Int} {l:List aI} {A:List (Int×aG)}
theorem Vn (hn:(D.map DN.id).Nodup) {d:DN} (hd:d∈D):P.bX (D.map DN.pv) d.id=some d.pv:=by
 have h1:((D.map DN.pv).map P.PV.id).Nodup:=by rw[BC];exact hn
 exact P.pJ h1 (mem_map.2 ⟨d,hd,rfl⟩)
theorem zD (h:H0 w0 w (eh db nb eb (mark A D) E ar l)) (hn:(D.map DN.id).Nodup) {d:DN} (hd:d∈D) (hi:kg d.id):
 (Instr.lookup 81 (.map (some nb)) (.int .i64 d.id) true).run prog w=.ok (.tuple #[.pointer (some ⟨d.iA,0,none⟩),.bool true]) w/\(Instr.lookup 81 (.map (some nb)) (.int .i64 d.id) false).run prog w=.ok (.pointer (some ⟨d.iA,0,none⟩)) w:=by
 have hs:=aw.sat h (.obj nb (P.cy ((mark A D).map DN.pv))) (by simp[eh]);have h1:=P.UE hs hi;have h2:=P.Q5 hs hi;rw[sP]at h1 h2;unfold P.S3 at h1 h2;rw[Vn hn hd]at h1 h2;exact⟨h1,h2⟩
theorem sj (h:H0 w0 w (eh db nb eb (mark A D) E ar l)) {d:DN} (hd:d∈D):
 w.cell? ⟨d.iA,0,none⟩=some (.string d.aA)/\w.cell? ⟨d.iA,1,none⟩=some (.int .i64 d.up)/\w.cell? ⟨d.iA,2,none⟩=some (.string d.tail)/\w.cell? ⟨d.iA,3,none⟩=some (.int .i64 (b9 A d.id))/\w.cell? ⟨d.iA,4,none⟩=some (.int .i64 (jH A d.id))/\w.frozen? ⟨d.iA,3,none⟩=false/\w.frozen? ⟨d.iA,4,none⟩=false:=by
 have hm:aI.cell d.iA 154 [.string d.aA,.int .i64 d.up,.string d.tail,.int .i64 (b9 A d.id),.int .i64 (jH A d.id)]∈eh db nb eb (mark A D) E ar l:=by unfold eh;simp only[mem_cons,mem_append];exact .inr (.inr (.inr (.inl (mem_map.2 ⟨PN A d,mem_map.2 ⟨d,hd,rfl⟩,rfl⟩))))
 exact⟨aw.cellAt h hm rfl,aw.cellAt h hm rfl,aw.cellAt h hm rfl,aw.cellAt h hm rfl,aw.cellAt h hm rfl,aw.frozenAt h hm _,aw.frozenAt h hm _⟩
theorem K7 (h:H0 w0 w (eh db nb eb (mark A D) E ar l)) (hn:(D.map DN.id).Nodup) {d:DN} (hd:d∈D) (hi:kg d.id) (hk:d.aA=⟨#[100]⟩):
 Calls prog 81 #[.pointer (some ⟨db,0,none⟩),.int .i64 d.id] w fun e w'=>e=.returned (.bool true)/\Below w.heap.size w w':=by
 obtain⟨c0,_,_,_⟩:=iM h;obtain⟨hl,_⟩:=zD h hn hd hi;have b0:=(sj h hd).1;rw[hk]at b0;generalize d.id=i at hl ⊢;generalize d.iA=b at hl b0;clear h hn hd hi hk;go_enter func81,ntmps81;go_wp2_with fail;go_ret;exact⟨rfl,Below.refl _ _⟩
theorem Vz (h:H0 w0 w (eh db nb eb (mark A D) E ar l)) (hn:(D.map DN.id).Nodup) {d:DN} (hd:d∈D) (p:Int×aG) (hp:p.2.aN=d.id):
 H0 w0 ((w.setCell ⟨d.iA,3,none⟩ (.int .i64 (b9 A d.id+1))).setCell ⟨d.iA,4,none⟩ (.int .i64 p.1)) (eh db nb eb (mark (A++[p]) D) E ar l):=by
 obtain⟨D1,D2,rfl⟩:=append_of_mem hd;have Mv:=nodup_append.1 (by simpa using hn:(D1.map DN.id++d.id::D2.map DN.id).Nodup)
 have e1:mark (A++[p]) D1=mark A D1:=map_congr_left fun x hx=>by have:x.id≠d.id:=Mv.2.2 x.id (mem_map.2 ⟨x,hx,rfl⟩) d.id (by simp);unfold PN;rw[ud,qt,if_neg (by rw[hp];exact fun e=>this e.symm),if_neg (by rw[hp];exact fun e=>this e.symm)];rfl
 have e2:mark (A++[p]) D2=mark A D2:=map_congr_left fun x hx=>by
  have:x.id≠d.id:=fun e=>(nodup_cons.1 Mv.2.1).1 (by rw[<-e];exact mem_map.2 ⟨x,hx,rfl⟩)
  unfold PN;rw[ud,qt,if_neg (by rw[hp];exact fun e=>this e.symm),if_neg (by rw[hp];exact fun e=>this e.symm)];rfl
 have e3:PN (A++[p]) d=⟨d.iA,d.id,d.aA,d.up,d.tail,b9 A d.id+1,p.1⟩:=by unfold PN;rw[ud,qt,if_pos hp,if_pos hp];simp
 have h1:H0 w0 w ((.cell db 84 [.map (some nb),.map (some eb),.int .i64 ar]::.obj nb (P.cy ((D1++d::D2).map DN.pv))::.obj eb (P.cy (E.map DE.pv))::(mark A D1).map DN.res)++.cell d.iA 154 [.string d.aA,.int .i64 d.up,.string d.tail,.int .i64 (b9 A d.id),.int .i64 (jH A d.id)]::((mark A D2).map DN.res++(E.map DE.res++l))):=by
  have h2:=h;unfold eh at h2;rw[sP]at h2
  have e4:(mark A (D1++d::D2)).map DN.res=(mark A D1).map DN.res++.cell d.iA 154 [.string d.aA,.int .i64 d.up,.string d.tail,.int .i64 (b9 A d.id),.int .i64 (jH A d.id)]::(mark A D2).map DN.res:=by simp[mark,DN.res,DN.cells,PN]
  rw[e4]at h2
  simpa using h2
 have h3:=aw.store _ h1 3 (.int .i64 (b9 A d.id+1)) [.string d.aA,.int .i64 d.up,.string d.tail,.int .i64 (b9 A d.id+1),.int .i64 (jH A d.id)] rfl;have h4:=aw.store _ h3 4 (.int .i64 p.1) [.string d.aA,.int .i64 d.up,.string d.tail,.int .i64 (b9 A d.id+1),.int .i64 p.1] rfl;unfold eh;rw[sP]
 have e5:(mark (A++[p]) (D1++d::D2)).map DN.res=(mark A D1).map DN.res++.cell d.iA 154 [.string d.aA,.int .i64 d.up,.string d.tail,.int .i64 (b9 A d.id+1),.int .i64 p.1]::(mark A D2).map DN.res:=by
  have:mark (A++[p]) (D1++d::D2)=mark (A++[p]) D1++PN (A++[p]) d::mark (A++[p]) D2:=by simp[mark]
  rw[this,e1,e2,e3];simp[DN.res,DN.cells]
 rw[e5]
 simpa using h4
end
section
open Go.Maps (Keyed)
variable {w0 w w':World} {db nb eb:Nat} {D:List DN} {E:List DE} {ar:Int} {l:List aI} {A:List (Int×aG)}
def cG (E:List DE):List (Int×aG):=E.flatMap fun e=>jm e.aP e.items
theorem H0.se {rs:List aI} (h:H0 w0 w rs) (hb:Below w.heap.size w w') {b:Nat} (h1:w.heap.size<=b) (h2:b<w'.heap.size):H0 w0 w' (dL b::rs):=by
 have hs:=(H0.below h).size;exact aw.new (r:=dL b) h (Kept.iH hb) ⟨by omega,_,Array.getElem?_eq_getElem h2,trivial⟩ (fun x hx=>by obtain rfl:=one_pos.1 hx;exact h1) (one_le b)
theorem H0.zS (l1:List aI) {b:Nat} {l2:List aI} (h:H0 w0 w (l1++dL b::l2)) (hg:w.grownBy w' (some b)):H0 w0 w' (l1++dL b::l2):=by
 have hs:=aw.sat h (dL b) (by simp);obtain⟨dJ,o,ho,_⟩:=hs;have eO:b<w.heap.size:=(Array.getElem?_eq_some_iff.1 ho).1;exact aw.put _ h ((Kept.refl _ w).grown hg fun x hx _=>by cases hx;show 0<one b b;rw[bx];decide) ⟨dJ,_,Array.getElem?_eq_getElem (Nat.lt_of_lt_of_le eO hg.size),trivial⟩ (fun x _=>Nat.le_refl _) (one_le b)
theorem SI {rb:Nat} (h:H0 w0 w (dL rb::eh db nb eb (mark A D) E ar l)) {d:DN} (hd:d∈D):eb≠d.iA/\rb≠d.iA/\eb≠rb:=by
 have hm:1<=total ((mark A D).map DN.res) d.iA:=by
  have h1:DN.res (PN A d)∈(mark A D).map DN.res:=mem_map.2 ⟨_,mem_map.2 ⟨d,hd,rfl⟩,rfl⟩;have h2:=gH h1 d.iA;have h3:(DN.res (PN A d)).eI d.iA=1:=by show one d.iA d.iA=1;exact bx _
  omega
 refine⟨fun e=>?_,fun e=>?_,fun e=>?_⟩
 ·have:=aw.uniq h d.iA;simp only[eh,ax,ay]at this;have h4:(aI.obj eb (P.cy (E.map DE.pv))).eI d.iA=1:=by rw[e];exact bx _
  omega
 ·have:=aw.uniq h d.iA;simp only[eh,ax,ay]at this;have h4:(dL rb).eI d.iA=1:=by rw[e];exact bx _
  omega
 ·have:=aw.uniq h rb;simp only[eh,ax,ay]at this;have h4:(aI.obj eb (P.cy (E.map DE.pv))).eI rb=1:=by rw[e];exact bx _
  have h5:(dL rb).eI rb=1:=bx _;omega
theorem wS {α β:Type} (f:α->β):∀{L:List α},(L.map f).Nodup->∀{a b:α},a∈L->b∈L->f a=f b->a=b
 |[],_,a,b,ha,_,_=>by cases ha
 |x::L,hn,a,b,ha,hb,e=>by
  rw[map_cons,nodup_cons]at hn
  rcases mem_cons.1 ha with ha|ha<;>rcases mem_cons.1 hb with hb|hb
  ·rw[ha,hb]
  ·exact absurd (mem_map.2 ⟨b,hb,by rw[<-e,ha]⟩) hn.1
  ·exact absurd (mem_map.2 ⟨a,ha,by rw[e,hb]⟩) hn.1
  ·exact wS f hn.2 ha hb e
theorem Lk {e:DE} (he:e∈E):kL e.v e.items∈eh db nb eb D E ar l:=by
 unfold eh;simp only[mem_cons,mem_append];exact .inr (.inr (.inr (.inr (.inl (mem_map.2 ⟨e,he,rfl⟩)))))
theorem Gy:∀(F:List DE),(∀e∈F,e.items.length<=1000)->(cG F).length<=F.length*1000
 |[],_=>by simp[cG]
 |e::F,h=>by
  have h1:=Gy F fun x hx=>h x (mem_cons_of_mem _ hx)
  have h2:=h e mem_cons_self;have h3:cG (e::F)=jm e.aP e.items++cG F:=rfl;rw[h3,length_append,length_cons,Nat.add_mul];have h4:(jm e.aP e.items).length=e.items.length:=by simp[jm]
  omega
theorem Uy (A:List (Int×aG)) (i:Int):b9 A i<=A.length:=countP_le_length
theorem MS {r:aI} (h:H0 w0 w (eh db nb eb D E ar (r::l))):H0 w0 w (r::eh db nb eb D E ar l):=H0.perm h lM.symm
theorem NX {A B:List (Int×aG)} (h:A.Perm B) (i:Int):b9 A i=b9 B i:=by unfold b9;exact h.countP_eq _
theorem wI {α:Type} {L:List α} {j:Nat} {x:α} (h:L[j]? = some x):L.take (j+1)=L.take j++[x]:=by rw[take_add_one,h];rfl
theorem Jg (h:H0 w0 w (eh db nb eb (mark [] D) E ar l)) (hn:(D.map DN.id).Nodup) (hD:∀d∈D,kg d.id) (hE:(E.map DE.aP).Nodup) (hE1:E.length<=1000) (hI:∀e∈E,e.items.length<=1000)
 (hf:∀e∈E,kg e.aP/\∃d∈D,d.id=e.aP/\d.aA=⟨#[100]⟩) (hx:∀e∈E,∀x∈e.items,x.aN≠1/\∃d∈D,d.id=x.aN) (hcnt:(cG E).length<=1000):
 Calls prog 39 #[.pointer (some ⟨db,0,none⟩)] w fun e w'=>e=.returned (.bool true)/\∃A,A.Perm (cG E)/\H0 w0 w' (eh db nb eb (mark A D) E ar l):=by
 obtain⟨c0,c1,_,_⟩:=iM h;obtain⟨M,ft,hm⟩:=P.fH (aw.sat h (.obj eb (P.cy (E.map DE.pv))) (by simp[eh]));rw[length_map]at ft;have TW:((E.map DE.pv).map P.PV.id).Nodup:=by rw[uM];exact hE
 have hmw:∀v∈E.map DE.pv,kg v.id:=fun v hv=>by obtain⟨e,he,rfl⟩:=mem_map.1 hv;exact(hf e he).1
 have LU:=aq (P.BK hm);have Pw:Hid (Maps.size M=E.length):=by show _=_;rw[hm.size,length_map]
 have HM:=aq hm;have H1:=aq h;have Hmn:=aq TW;have Hmw:=aq hmw;have HN:=aq hn;have HDw:=aq hD;have HI:=aq hI;have HF:=aq hf;have HX:=aq hx;clear h hn hD hE hI hf hx hm TW hmw c0;go_enter func39,ntmps39
 go_wp2_with (first|(at_range;refine wpList_range_own _ rfl _ 82 rfl 3 97 kI underlying82 Rv eb _ M rfl ft ?_;intro w1 AX oP rV)|go_in)
 go_frame
 have dJ:Below w.heap.size w w1:=(Below.refl _ w).grown oP (Nat.le_refl _) (fun j hj=>by cases hj);have h2:=H0.se (an H1) dJ (b:=w.heap.size) (Nat.le_refl _) (by omega);have H2:=aq h2;have Py:=aq AX;clear h2 dJ oP rV ft AX c1 H1;go_wp2_with fail
 go_loopg [3] (E.length+1) (fun k v3 wr=>∃(acc:List P.PV) (left:Lit->Bool) (pY:Nat),pY<k/\Hid (wr.ranges prog 3 Rv eb w.heap.size E.length M left pY)/\Hid (P.Came (E.map DE.pv) acc left)/\Hid (∃F:List DE,acc=F.map DE.pv/\(∀e∈F,e∈E)/\H0 w0 wr (dL w.heap.size::eh db nb eb (mark (cG F) D) E ar l)))
 case atStart=>exact⟨[],_,_,by have:=an Pw;omega,Py,LU,[],rfl,by simp,an H2⟩
 case round=>
  obtain⟨acc,left,pY,hk,Hrg3,HC3,VY⟩:=hrel;clear Py H2 LU Pw;have JU:=an Hrg3;obtain⟨F,hF,hFE,hI3⟩:=an VY;have M9:=aq hF;have HFE:=aq hFE;have H3:=aq hI3;clear hF hFE hI3 VY
  go_wp2_with (first|(at_next;refine wpList_next_ranges _ rfl _ rfl 3 kI Rv (Value.int .i64) id (fun az kl iI=>(by obtain⟨x,hx,_⟩:=Maps.keyOf_int_inv underlying3 iI;exact⟨x,hx⟩)) (fun v y hv=>⟨v,rfl⟩) eb w.heap.size E.length M left pY rfl JU ?_ ?_)|go_in)
  ·intro lv A5;have eU:=P.Came.all (an HC3) (an Hmn) (an Hmw) A5;rw[an M9]at eU
   have MD:(F.map DE.aP).Nodup:=by have:=eU.map P.PV.id;rw[uM,uM]at this;exact this.nodup_iff.2 (by have:=an Hmn;rw[uM]at this;exact this)
   have OD:(E.map DE.aP).Nodup:=by have:=an Hmn;rw[uM]at this;exact this
   have Sc:F.Nodup:=(pairwise_map.1 MD).imp fun dr e=>dr (by rw[e])
   have hEn:E.Nodup:=(pairwise_map.1 OD).imp fun dr e=>dr (by rw[e])
   have Sd:F.Perm E:=(perm_ext_iff_of_nodup Sc hEn).2 fun e=>⟨an HFE e,fun he=>by
    have h1:e.pv∈F.map DE.pv:=eU.mem_iff.2 (mem_map.2 ⟨e,he,rfl⟩);obtain⟨e2,he2,e3⟩:=mem_map.1 h1;have h4:e2.aP=e.aP:=congrArg P.PV.id e3;have:e2=e:=wS DE.aP OD (an HFE e2 he2) he h4;rw[<-this];exact he2⟩
   have Hp:Hid ((cG F).Perm (cG E)):=Sd.flatMap_right _;clear eU MD OD Sc hEn Sd lv A5 JU;go_wp2_with fail;go_ret;exact⟨rfl,_,an Hp,aw.conv (an H3) (fun x=>by simp only[ax];omega) fun r hr=>aw.sat (an H3) r (by simp[hr])⟩
  ·intro x c kl y1 y2 w2 FF iI lj hv iV qY eO IT ux OD;obtain⟨x',ex,J1,dE⟩:=Maps.keyOf_int_inv underlying3 iI
   cases ex
   subst J1
   have hy:y1=.held c:=by have:some ((.held c,[]):DataW Value×List MemPlace)=some (y1,y2):=hv;exact(congrArg Prod.fst (Option.some.inj this)).symm
   subst hy
   obtain⟨u,hu,T0⟩:∃u,P.bX (E.map DE.pv) x=some u/\c=u.val:=by
    have hl:=fun z=>(an HM).look x z dE
    cases hf:P.bX (E.map DE.pv) x with
    |none=>exfalso;have h1:=hl (.lit (.bool true));rw[iV,hf]at h1;cases h1
    |some u=>refine⟨u,rfl,?_⟩;have h1:=hl (.lit (.bool true));rw[iV,hf]at h1;exact DataW.held.inj h1
   subst T0;have mf:=P.Came.more (an HC3) (u:=u) (by rw[(P.ee hu).2];exact dE) (by rw[(P.ee hu).2];exact hu) (by rw[(P.ee hu).2];exact lj);obtain⟨e,he,rfl⟩:=mem_map.1 (P.ee hu).1;have hex:e.aP=x:=(P.ee hu).2;subst hex;have h3:H0 w0 w2 (dL w.heap.size::eh db nb eb (mark (cG F) D) E ar l):=H0.zS [] (an H3) IT;have WE:e.pv.val=e.v:=rfl;obtain⟨AV,d,hd,hdi,hdk⟩:=an HF e he;have PZ:=K7 (jF h3) (an HN) hd (an HDw d hd) hdk;rw[hdi]at PZ;have heb:eb<w2.heap.size:=qY.owns.lt
   have wF:w.heap.size<w2.heap.size:=qY.lt;have ym:w2.ownsRow w0.heap.size 100 2 e.v e.items.length (iL e.items):=aw.sat h3 (kL e.v e.items) (.tail _ (Lk he));obtain⟨p0,c0,uz⟩:=jV ym;obtain⟨m,hm⟩:=aa e.items.length;have Hm:=aq hm;have aem:m<=1000:=by rw[<-hm];exact an HI e he
   rw[hm]at uz
   have hAl:(cG F).length<=1000*1000:=by
    have h1:=Gy F fun x hx=>an HI x (an HFE x hx)
    have h2:=P.AG (an HC3).nodup (an HC3).sub;rw[an M9,length_map,length_map]at h2;omega
   have yM:Hid (P.Came (E.map DE.pv) (acc++[e.pv]) (fun z=>left z && !z.sameKey (.int .i64 e.aP))):=mf;have H4:=aq h3;have Zx:=aq PZ;have Tm:=aq qY;have He:=aq he;rw[WE,uz]at OD;have Hsl:=aq uz;clear iI lj hv iV qY IT ux JU mf h3 PZ HC3 Hrg3 hu dE hd hdi hdk AV he WE uz H3 ym hm;go_wp2_with fail;refine(an Zx).mono ?_;rintro e4 w4 ⟨rfl,iU⟩;have h4:=H0.step (an H4) iU;have xi:=fw (an Tm) (iU.block eb heb) (iU.block _ wF);have aa3:eb<w4.heap.size:=Nat.lt_of_lt_of_le heb iU.size;have UR:w.heap.size<w4.heap.size:=Nat.lt_of_lt_of_le wF iU.size
   have CK:=aq xi
   have H5:Hid (H0 w0 w4 (dL w.heap.size::eh db nb eb (mark (cG F++jm e.aP (e.items.take 0)) D) E ar l)):=by rw[take_zero];show H0 w0 w4 (dL w.heap.size::eh db nb eb (mark (cG F++[]) D) E ar l);rw[append_nil];exact h4
   clear h4 xi iU Zx H4 Tm heb wF;go_wp2_with fail
   go_loopg [25] (m+1) (fun k2 v25 Y9=>∃i:Nat,m-i<k2/\i<=m/\v25=.int .i64 i/\eb<Y9.heap.size/\w.heap.size<Y9.heap.size/\Hid (Y9.ranges prog 3 Rv eb w.heap.size E.length M (fun z=>left z && !z.sameKey (.int .i64 e.aP)) FF)/\Hid (H0 w0 Y9 (dL w.heap.size::eh db nb eb (mark (cG F++jm e.aP (e.items.take i)) D) E ar l)))
   case atStart=>exact⟨0,by omega,by omega,rfl,aa3,UR,CK,H5⟩
   case round=>
    obtain⟨i,ll,hi,rfl,heb5,hrb5,JF,HJ⟩:=hrel;clear H5 CK aa3 UR
    by_cases him:i<m
    ·have mI:(i:Int)<(m:Int):=by omega
     have Cc:i<e.items.length:=by rw[an Hm];exact him
     obtain⟨x,hx⟩:∃x,e.items[i]? = some x:=⟨e.items[i],by simp[Cc]⟩;obtain⟨me,d2,vG,hdi2⟩:=an HX e (an He) x (mem_of_getElem? hx);have hj:=an HJ;have dW:wr.ownsRow w0.heap.size 100 2 e.v e.items.length (iL e.items):=aw.sat hj (kL e.v e.items) (.tail _ (Lk (an He)));rw[an Hsl,an Hm]at dW;obtain⟨g,aU,e5,_⟩:=aZ dW (by omega);injection e5 with e5 _ e6;subst e5 e6;obtain⟨r0,r1⟩:=uL dW hx;have fE:(x.aN==1)=false:=by simpa using me
     have hA1:(cG F++jm e.aP (e.items.take i)).length<=1001000:=by
      rw[length_append];have:(jm e.aP (e.items.take i)).length<=i:=by simp[jm];omega
      omega
     have hrefs:=Uy (cG F++jm e.aP (e.items.take i)) d2.id;obtain⟨xn,Wg⟩:=aa x.aN;obtain⟨xs,XG⟩:=aa x.name;rw[Wg]at r1 fE hdi2;rw[XG]at r0;have OA:=H0.step hj ((Below.refl _ wr).alloc (Nat.le_refl _) (.cells #[.string xs,.int .i64 xn] 100));have yX:=(an JF).alloc (.cells #[.string xs,.int .i64 xn] 100);obtain⟨w6,hw6⟩:=aa (wr.alloc (.cells #[.string xs,.int .i64 xn] 100));have aap:wr.heap.size+1=w6.heap.size:=by rw[<-hw6,World.size_alloc]
     have x0:w6.cell? ⟨wr.heap.size,0,none⟩=some (.string xs):=by rw[<-hw6];exact jR wr [.string xs,.int .i64 xn] 100 0 _ rfl
     have x1:w6.cell? ⟨wr.heap.size,1,none⟩=some (.int .i64 xn):=by rw[<-hw6];exact jR wr [.string xs,.int .i64 xn] 100 1 _ rfl
     rw[hw6]at OA yX;have rY:=(zD (jF (aw.drew OA)) (an HN) vG (an HDw d2 vG)).1;have ju:=sj (jF OA) vG;have s3:=ju.2.2.2.1;have s4:=ju.2.2.2.2.1;have f3:=ju.2.2.2.2.2.1;have f4:=ju.2.2.2.2.2.2;have k0:=(iM (jF OA)).1;have Dq:=MS (Vz (jF OA) (an HN) vG (e.aP,x) (Wg.trans hdi2.symm))
     have Mn:cG F++jm e.aP (e.items.take (i+1))=(cG F++jm e.aP (e.items.take i))++[(e.aP,x)]:=by rw[wI hx,append_assoc];unfold jm;rw[map_append];rfl
     have lX:=SI hj vG;rw[<-Mn]at Dq;rw[hdi2]at rY;generalize jH (cG F++jm e.aP (e.items.take i)) d2.id=lf at s4;generalize b9 (cG F++jm e.aP (e.items.take i)) d2.id=rf at s3 hrefs Dq;obtain⟨b2,cC⟩:=aa d2.iA;rw[cC]at rY s3 s4 f3 f4 Dq lX;have Hm1:=aq Dq;have YL:=aq yX;have W7:=aq lX;have abM:=aq aap;have UQ:¬(9223372036854775807:Int)<(rf:Int)+1:=by omega
     have hrz2:¬((rf:Int)+1 < -9223372036854775808):=by omega
     clear hj dW OA Dq yX lX vG hdi2 hx Cc Mn HJ JF me Wg XG cC hA1 hrefs ju aap;go_wp2_with fail
     go_region
     all_goals
      go_wp2_with fail
      go_roundg (m-i)
      case measure=>omega
      case rel=>exact⟨i+1,by omega,by omega,by simp,by have:=an abM;simp;omega,by have:=an abM;simp;omega,fw (fw (an YL) (Below.heap_setCell _ ⟨b2,3,none⟩ _ eb (an W7).1) (Below.heap_setCell _ ⟨b2,3,none⟩ _ _ (an W7).2.1)) (Below.heap_setCell _ ⟨b2,4,none⟩ _ eb (an W7).1) (Below.heap_setCell _ ⟨b2,4,none⟩ _ _ (an W7).2.1),aw.drew (an Hm1)⟩
    ·have mI:¬(i:Int)<(m:Int):=by omega
     have hj:=an HJ;rw[take_of_length_le (by rw[an Hm];omega)]at hj
     have HJ2:Hid (H0 w0 wr (dL w.heap.size::eh db nb eb (mark (cG (F++[e])) D) E ar l)):=by
      have e1:cG (F++[e])=cG F++jm e.aP e.items:=by simp[cG]
      rw[e1];exact hj
     clear hj HJ;go_wp2_with fail
     go_roundg pY
     case measure=>omega
     case rel=>exact⟨acc++[e.pv],_,FF,eO,JF,yM,F++[e],by rw[an M9];simp,fun z hz=>by
      rcases mem_append.1 hz with hz|hz
      ·exact an HFE z hz
      ·rw[mem_singleton.1 hz];exact an He,an HJ2⟩
end
section
def pB (f:Int->Int):Nat->Int->Int
 | 0,i=>i
 |k+1,i=>pB f k (f i)
theorem uv (f:Int->Int):∀(k:Nat) (i:Int),pB f (k+1) i=f (pB f k i)
 | 0,_=>rfl
 |k+1,i=>by show pB f (k+1) (f i)=f (pB f k (f i));exact uv f k (f i)
variable {w0 w w':World} {db nb eb:Nat} {D:List DN} {E:List DE} {ar:Int} {l:List aI} {A:List (Int×aG)}
theorem I3 (h:H0 w0 w (eh db nb eb (mark A D) E ar l)) (hn:(D.map DN.id).Nodup) (hDl:D.length<=1000) (i:Int) (k:Nat) (hk:k<D.length) (tr:pB (jH A) k i=1)
 (mz:∀j,j<k->pB (jH A) j i≠1/\∃d∈D,d.id=pB (jH A) j i/\kg d.id/\b9 A d.id=1/\jH A d.id=d.up):
 Calls prog 123 #[.pointer (some ⟨db,0,none⟩),.int .i64 i] w fun e w'=>e=.returned (.bool true)/\Below w.heap.size w w':=by
 obtain⟨c0,_,_,_⟩:=iM h
 have hlen:∀ty,(Builtin.len_ #[81] ty #[.map (some nb)]).run prog w=.ok (.int .i64 D.length) w:=fun ty=>by have:=P.Q6 (aw.sat h (.obj nb (P.cy ((mark A D).map DN.pv))) (by simp[eh])) ty;rw[sP,length_map]at this;exact this
 have H1:=aq h;have nL:=aq mz;have HN:=aq hn;obtain⟨f,hf⟩:=aa (pB (jH A));have YR:Hid (f k i=1):=by rw[<-hf];exact tr
 have H0i:Hid (f 0 i=i):=by rw[<-hf];rfl
 obtain⟨n,nN⟩:=aa D.length;rw[nN]at hk hDl hlen;clear h mz hn tr nN;go_enter func123,ntmps123;go_wp2_with fail
 go_loopg [1,11] (n+1) (fun g v1 v11 wr=>∃j:Nat,n-j<g/\j<=k/\v11=.int .i64 j/\v1=.int .i64 (f j i)/\Hid (Below w.heap.size w wr))
 case atStart=>exact⟨0,by omega,by omega,rfl,by rw[an H0i],Below.refl _ _⟩
 case round=>
  obtain⟨j,hg,hj,rfl,rfl,HB⟩:=hrel;have MB:(j:Int)<(n:Int):=by omega
  by_cases hjk:j=k
  ·subst hjk;rw[an YR];go_wp2_with fail;go_ret;exact⟨rfl,an HB⟩
  ·obtain⟨h1,d,hd,hdi,AV,XT,hlf⟩:=an nL j (by omega);rw[hf]at h1 hdi;have hx:=H0.step (an H1) (an HB);obtain⟨k0,_,_,_⟩:=iM hx;obtain⟨_,hl⟩:=zD hx (an HN) hd AV;have ju:=sj hx hd;have s1:=ju.2.1;have s3:=ju.2.2.2.1;have s4:=ju.2.2.2.2.1;rw[XT]at s3;rw[hlf]at s4;rw[hdi]at hl;have dr:(f j i==1)=false:=by simpa using h1
   have Pz:Hid (f (j+1) i=d.up):=by show _=_;rw[<-hf,uv];rw[<-hf]at hdi;rw[<-hdi];exact hlf
   generalize d.up=du at s1 s4 Pz;generalize d.iA=b at s1 s3 s4 hl;generalize f j i=fi at dr hl;have s3':wr.cell? ⟨b,3,none⟩=some (.int .i64 1):=s3;have Qf:=HB;have hjlt:j<k:=by omega
   clear hx hd hdi AV XT hlf ju h1 s3 hjk;go_wp2_with fail
   go_region
   all_goals
    go_wp2_with fail
    go_roundg (n-j)
    case measure=>omega
    case rel=>exact⟨j+1,by omega,by omega,by simp,by rw[an Pz],(an Qf).drew⟩
end
section
open Go.Maps (Keyed)
variable {w0 w w':World} {db nb eb:Nat} {D:List DN} {E:List DE} {ar:Int} {l:List aI} {A:List (Int×aG)}
def Tj (w0:World) (db nb eb:Nat) (A:List (Int×aG)) (D:List DN) (E:List DE) (ar:Int) (nv:DN->NV):Prop:=
 ∀d∈D,(nv d).id=d.id/\∀(wx:World) (lx:List aI),H0 w0 wx (eh db nb eb (mark A D) E ar lx)->Calls prog 82 #[.pointer (some ⟨db,0,none⟩),.int .i64 d.id,.pointer (some ⟨d.iA,0,none⟩)] wx fun e w'=>
  e=.returned (.tuple #[.agg #[.int .i64 (nv d).id,.int .i64 (nv d).aA,.int .i64 (nv d).up,.int .i64 (nv d).aB,.string (nv d).aL],.bool true])/\H0 w0 w' (eh db nb eb (mark A D) E ar lx)/\Below wx.heap.size wx w'
theorem H0.QR {rs:List aI} (h:H0 w0 w rs):H0 w0 w (gL (.slice none 0 0) []::rs):=aw.fJ h 52 5
theorem H0.ae8 (l1:List aI) {l2:List aI} {v:Value} {L:List NV} (h:H0 w0 w (l1++gL v L::l2)) {X:Nat} {u:NV} (hc:w.heap[X]? = some (.cells (lp u).toArray 52 (0,0))) (hn:L.length<=1000) (ty:TypeId):
 ∃v' w',(Builtin.append_ #[89,89] ty #[v,.slice (some ⟨X,0,none⟩) 1 1]).run prog w=.ok v' w'/\H0 w0 w' (l1++gL v' (L++[u])::l2)/\w.grownBy w' v.ownBlock:=by
 obtain⟨i0,hi,hz0,fE,fD⟩:=info_parts IA;have hv:w.ownsRow w0.heap.size 52 5 v L.length (mj L):=aw.sat h (gL v L) (by simp);have hb:w0.heap.size<=w.heap.size:=(H0.below h).size
 obtain⟨v',w',hr,ho,hg,_,ha⟩:=run_append_own_at (P:=prog) w w0.heap.size 89 ty 52 i0 _ 5 48 underlying89 hi hz0 fE fD rfl (by decide) v _ _ hv ⟨X,0,none⟩ 1 1 (lp u) rfl (fun j x hj=>by
  rw[Addr.add_lit,Nat.zero_add,cell_of_row _ _ j _ 52 (0,0) hc]
  simpa using hj) (fun x hx=>by simp[lp]at hx;rcases hx with rfl|rfl|rfl|rfl|rfl<;>rfl) (by unfold maxLen;omega) (by omega) hb
 refine⟨v',w',hr,?_,hg⟩;rw[<-Bl]at ho;have e2:L.length+1=(L++[u]).length:=by simp
 rw[e2]at ho;exact aw.grow l1 h hg ho (ha.imp id fun h=>⟨_,h,Nat.le_refl _⟩)
theorem Qp {rb:Nat} {v:Value} {L:List NV} (h:H0 w0 w (gL v L::dL rb::eh db nb eb (mark A D) E ar l)):some nb≠v.ownBlock/\some rb≠v.ownBlock:=by
 constructor
 ·intro e1;have h1:=aw.uniq h nb;have h2:0<eR v nb:=dV.2 e1.symm;have h3:(aI.obj nb (P.cy ((mark A D).map DN.pv))).eI nb=1:=bx _;simp only[eh,ax,ay]at h1;have h4:(gL v L).eI nb=eR v nb:=rfl;omega
 ·intro e1;have h1:=aw.uniq h rb;have h2:0<eR v rb:=dV.2 e1.symm;have h3:(dL rb).eI rb=1:=bx _;simp only[eh,ax,ay]at h1;have h4:(gL v L).eI rb=eR v rb:=rfl;omega
theorem SH {a b:aI} (h:H0 w0 w (a::b::eh db nb eb D E ar l)):H0 w0 w (eh db nb eb D E ar (a::b::l)):=H0.perm h (lM.trans (lM.cons a))
theorem Vw {a b:aI} (h:H0 w0 w (eh db nb eb D E ar (a::b::l))):H0 w0 w (a::b::eh db nb eb D E ar l):=H0.perm h (lM.trans (lM.cons a)).symm
theorem zW (h:H0 w0 w (eh db nb eb (mark A D) E ar l)) (hn:(D.map DN.id).Nodup) (hl:D.length<=16) (sU:ar<=1000) (hD:∀d∈D,kg d.id/\1<=d.id/\d.id<ar) (r:DN) (hr:r∈D) (lu:r.id=1) (hrk:r.aA=⟨#[100]⟩) (hru:r.up=1) (nv:DN->NV) (hm:Tj w0 db nb eb A D E ar nv):
 Calls prog 40 #[.pointer (some ⟨db,0,none⟩)] w fun e w'=>∃(v:Value) (F:List DN),e=.returned (.tuple #[v,.bool true])/\F.Perm D/\H0 w0 w' (gL v (F.map nv)::eh db nb eb (mark A D) E ar l):=by
 obtain⟨c0,_,c2,_⟩:=iM h;obtain⟨lj,_⟩:=zD h hn hr (hD r hr).1;rw[lu]at lj;have ju:=sj h hr;have b0:=ju.1;have b1:=ju.2.1;rw[hrk]at b0;rw[hru]at b1;have hs:=aw.sat h (.obj nb (P.cy ((mark A D).map DN.pv))) (by simp[eh])
 have hlen:∀ty,(Builtin.len_ #[81] ty #[.map (some nb)]).run prog w=.ok (.int .i64 D.length) w:=fun ty=>by have:=P.Q6 hs ty;rw[sP,length_map]at this;exact this
 rw[sP]at hs;obtain⟨M,ft,qZ⟩:=P.fH hs;rw[length_map]at ft;have TW:((D.map DN.pv).map P.PV.id).Nodup:=by rw[BC];exact hn
 have hmw:∀v∈D.map DN.pv,kg v.id:=fun v hv=>by obtain⟨d,hd,rfl⟩:=mem_map.1 hv;exact(hD d hd).1
 obtain⟨br,Gi⟩:=aa r.iA;rw[Gi]at lj b0 b1;have fE:¬(16:Int)<(D.length:Int):=by omega
 have fD:¬(1000:Int)<ar:=by omega
 have Rj:¬16<D.length:=by omega
 have LU:=aq (P.BK qZ);have Pw:Hid (Maps.size M=D.length):=by show _=_;rw[qZ.size,length_map]
 have HM:=aq qZ;have H1:=aq h;have Hmn:=aq TW;have Hmw:=aq hmw;have HN:=aq hn;have HDw:=aq hD;have HMd:=aq hm;have afr:=aq hl;clear h hn hl hD qZ TW hmw hs ju hr lu hrk hru hm Gi;go_enter func40,ntmps40
 go_wp2_with (first|(at_range;refine wpList_range_own _ rfl _ 81 rfl 3 151 kI underlying81 Rv nb _ M rfl ft ?_;intro w1 AX oP rV)|go_in)
 try go_frame
 have dJ:Below w.heap.size w w1:=(Below.refl _ w).grown oP (Nat.le_refl _) (fun j hj=>by cases hj);have h2:=H0.QR (H0.se (an H1) dJ (b:=w.heap.size) (Nat.le_refl _) (by omega));have H2:=aq h2;have Py:=aq AX;clear h2 dJ oP rV ft AX c0 c2 H1 lj b0 b1 hlen fE fD Rj;go_wp2_with fail
 go_loopg [6] (D.length+1) (fun k v6 wr=>∃(acc:List P.PV) (left:Lit->Bool) (pY:Nat) (F:List DN) (u6:Value),u6=v6/\pY<k/\nb<wr.heap.size/\w.heap.size<wr.heap.size/\Hid (wr.ranges prog 3 Rv nb w.heap.size D.length M left pY)/\Hid (P.Came (D.map DN.pv) acc left)/\Hid (acc=F.map DN.pv/\∀d∈F,d∈D)/\Hid (H0 w0 wr (gL u6 (F.map nv)::dL w.heap.size::eh db nb eb (mark A D) E ar l)))
 case atStart=>exact⟨[],_,_,[],_,rfl,by have:=an Pw;omega,(an Py).owns.lt,(an Py).lt,Py,LU,⟨rfl,by simp⟩,an H2⟩
 case round=>
  obtain⟨acc,left,pY,F,u6,rfl,hk,Gd,wF,Hrg3,HC3,HF3,VY⟩:=hrel;clear Py H2 LU Pw;have JU:=an Hrg3
  go_wp2_with (first|(at_next;refine wpList_next_ranges _ rfl _ rfl 3 kI Rv (Value.int .i64) id (fun az kl iI=>(by obtain⟨x,hx,_⟩:=Maps.keyOf_int_inv underlying3 iI;exact⟨x,hx⟩)) (fun v y hv=>⟨v,rfl⟩) nb w.heap.size D.length M left pY rfl JU ?_ ?_)|go_in)
  ·intro lv A5;have eU:=P.Came.all (an HC3) (an Hmn) (an Hmw) A5;rw[(an HF3).1]at eU
   have MD:(F.map DN.id).Nodup:=by have:=eU.map P.PV.id;rw[BC,BC]at this;exact this.nodup_iff.2 (an HN)
   have Sc:F.Nodup:=(pairwise_map.1 MD).imp fun dr e=>dr (by rw[e])
   have hEn:D.Nodup:=(pairwise_map.1 (an HN)).imp fun dr e=>dr (by rw[e])
   have Sd:F.Perm D:=(perm_ext_iff_of_nodup Sc hEn).2 fun e=>⟨(an HF3).2 e,fun he=>by
    have h1:e.pv∈F.map DN.pv:=eU.mem_iff.2 (mem_map.2 ⟨e,he,rfl⟩);obtain⟨e2,he2,e3⟩:=mem_map.1 h1;have h4:e2.id=e.id:=congrArg P.PV.id e3;have:e2=e:=wS DN.id (an HN) ((an HF3).2 e2 he2) he h4;rw[<-this];exact he2⟩
   have Hp:=aq Sd;clear eU MD Sc hEn Sd lv A5 JU;go_wp2_with fail;refine bodyPost_ret (results_tmp2 rfl _ _ _) rfl ?_
   exact⟨u6,F,rfl,an Hp,aw.conv (an VY) (fun x=>by simp only[ax];omega) fun r hr=>aw.sat (an VY) r (by
    rcases mem_cons.1 hr with hr|hr
    ·simp[hr]
    ·simp[hr])⟩
  ·intro x c kl y1 y2 w2 FF iI lj hv iV qY eO IT ux OD;obtain⟨x',ex,J1,dE⟩:=Maps.keyOf_int_inv underlying3 iI
   cases ex
   subst J1
   have hy:y1=.held c:=by have:some ((.held c,[]):DataW Value×List MemPlace)=some (y1,y2):=hv;exact(congrArg Prod.fst (Option.some.inj this)).symm
   subst hy
   obtain⟨u,hu,T0⟩:∃u,P.bX (D.map DN.pv) x=some u/\c=u.val:=by
    have hl:=fun z=>(an HM).look x z dE
    cases hf:P.bX (D.map DN.pv) x with
    |none=>exfalso;have h1:=hl (.lit (.bool true));rw[iV,hf]at h1;cases h1
    |some u=>refine⟨u,rfl,?_⟩;have h1:=hl (.lit (.bool true));rw[iV,hf]at h1;exact DataW.held.inj h1
   subst T0;have mf:=P.Came.more (an HC3) (u:=u) (by rw[(P.ee hu).2];exact dE) (by rw[(P.ee hu).2];exact hu) (by rw[(P.ee hu).2];exact lj);obtain⟨d,hd,rfl⟩:=mem_map.1 (P.ee hu).1;have hex:d.id=x:=(P.ee hu).2;subst hex;have h3:H0 w0 w2 (gL u6 (F.map nv)::dL w.heap.size::eh db nb eb (mark A D) E ar l):=H0.zS [_] (an VY) IT;have hdv:d.pv.val=.pointer (some ⟨d.iA,0,none⟩):=rfl;rw[hdv]at OD;obtain⟨aej,hmade⟩:=an HMd d hd;have hmd:=hmade w2 _ (SH h3);have X1:nb<w2.heap.size:=qY.owns.lt
   have XV:w.heap.size<w2.heap.size:=qY.lt;obtain⟨_,Gh,vG⟩:=an HDw d hd;have fE:¬d.id<1:=by omega
   have fD:¬ar<=d.id:=by omega
   have hFl:(F.map nv).length<=1000:=by have h2:=P.AG (an HC3).nodup (an HC3).sub;rw[(an HF3).1,length_map,length_map]at h2;have:=an afr;rw[length_map];omega
   have yM:Hid (P.Came (D.map DN.pv) (acc++[d.pv]) (fun z=>left z && !z.sameKey (.int .i64 d.id))):=mf;have TB:=aq hmd;have Tm:=aq qY;have Hd:=aq hd;have D4:=aq hFl;obtain⟨bd,A8⟩:=aa d.iA;rw[A8]at OD TB;clear iI lj hv iV qY IT ux JU mf h3 hmd hmade HC3 Hrg3 hu dE hd hdv VY hFl A8 Gd wF;go_wp2_with fail;refine(an TB).mono ?_;rintro e4 w4 ⟨rfl,h4,iU⟩;have aef:nb<w4.heap.size:=Nat.lt_of_lt_of_le X1 iU.size;have UR:w.heap.size<w4.heap.size:=Nat.lt_of_lt_of_le XV iU.size;have xi:=fw (an Tm) (iU.block nb X1) (iU.block _ XV)
   obtain⟨u,hu⟩:=aa (nv d);rw[hu];have h5:=H0.step h4 ((Below.refl _ w4).alloc (Nat.le_refl _) (.cells #[.int .i64 u.id,.int .i64 u.aA,.int .i64 u.up,.int .i64 u.aB,.string u.aL] 52));have yY:=xi.alloc (.cells #[.int .i64 u.id,.int .i64 u.aA,.int .i64 u.up,.int .i64 u.aB,.string u.aL] 52);have c2:=(iM h5).2.2.1;obtain⟨w5,hw5⟩:=aa (w4.alloc (.cells #[.int .i64 u.id,.int .i64 u.aA,.int .i64 u.up,.int .i64 u.aB,.string u.aL] 52));have hx:=jR w4 [.int .i64 u.id,.int .i64 u.aA,.int .i64 u.up,.int .i64 u.aB,.string u.aL] 52
   have Zf:w5.heap.size=w4.heap.size+1:=by rw[<-hw5,World.size_alloc]
   have Ze:∀j v,[Value.int .i64 u.id,.int .i64 u.aA,.int .i64 u.up,.int .i64 u.aB,.string u.aL][j]? = some v->w5.cell? ⟨w4.heap.size,j,none⟩=some v:=fun j v hv=>by rw[<-hw5];have:=hx j v hv;rw[Addr.add_lit,Nat.zero_add]at this;exact this
   have x0:=Ze 0 _ rfl;have x1:=Ze 1 _ rfl;have x2:=Ze 2 _ rfl;have x3:=Ze 3 _ rfl;have x4:=Ze 4 _ rfl;rw[hw5]at h5 yY c2;have h6:=H0.step (Vw h5) ((Below.refl _ w5).alloc (Nat.le_refl _) (.cells #[.int .i64 u.id,.int .i64 u.aA,.int .i64 u.up,.int .i64 u.aB,.string u.aL] 52));have yX:=yY.alloc (.cells #[.int .i64 u.id,.int .i64 u.aA,.int .i64 u.up,.int .i64 u.aB,.string u.aL] 52);obtain⟨v7,w7,lX,h7,WC⟩:=H0.ae8 [] h6 (u:=u) (heap_alloc_new w5 _) (an D4) 89;have Yf:=Qp h6;have IK:=yX.kept WC Yf.1 Yf.2;have aee:nb<w7.heap.size:=IK.owns.lt
   have ad3:w.heap.size<w7.heap.size:=IK.lt
   have H7:Hid (H0 w0 w7 (gL v7 ((F++[d]).map nv)::dL w.heap.size::eh db nb eb (mark A D) E ar l)):=by show H0 _ _ _;rw[map_append,map_cons,map_nil,hu];exact h7
   have zJ:=aq lX;have aff:=aq IK;clear h4 iU xi h5 yY h6 yX h7 lX WC Yf IK hx Ze TB Tm aef UR X1 XV hu aej D4 Zf
   go_wp2_with (at_builtin;refine bN rfl _ _ 89 89 rfl _ _ rfl rfl (an zJ) ?_)
   go_roundg pY
   case measure=>omega
   case rel=>exact⟨acc++[d.pv],_,FF,F++[d],v7,rfl,eO,aee,ad3,aff,yM,⟨by rw[(an HF3).1];simp,fun z hz=>by
    rcases mem_append.1 hz with hz|hz
    ·exact(an HF3).2 z hz
    ·rw[mem_singleton.1 hz];exact an Hd⟩,H7⟩
end
end Go.Proofs.YtphcnmlbieokoaaGreatDoor.T
