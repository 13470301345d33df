import Derived.Test.YtknnnbpgkfaapaaGreatQ
import Derived.Test.YtknnnbpgkfaapaaGreatVInTurns
import Derived.Test.YtknnnbpgkfaapaaGreatVEffects
import Derived.Test.YtknnnbpgkfaapaaGreatVInChecksB
import Derived.Test.YtknnnbpgkfaapaaGreatVOwnIs
import Derived.Deep.RegionLaw
import Derived.BigRegion
import Derived.Deep.QuietTactic
import Derived.BigQuiet
set_option maxRecDepth 100000
set_option linter.unusedSimpArgs false
set_option linter.unusedVariables false
namespace Go.Proofs.YtknnnbpgkfaapaaGreat.Vm
open Go Go.RowKit
theorem run_append_t {w:World}(ty:TypeId){B:Nat}{v:Value}{out:List Rec}(hown:OwnR w B 48 v out){ad:Addr}{m c:Nat}{l:List Rec}(hc:∀ j u,(recs l)[j]?=some u->w.cell? (ad.add j)=some u)(hl:l.length=m)(hlen:out.length+m<=100000)(hB:B<=w.heap.size) :
 ∃ v' w',(Builtin.append_ #[25,25] ty #[v,.slice (some ad) m c]).run Tryz.prog w=.ok v' w'/\OwnR w' B 48 v' (out++l)/\w.grownBy w' v.ownBlock:=by
 obtain ⟨i0,hi0,hz0,hz1,hz2⟩:=info_parts info_task
 obtain ⟨v',w',hrun,hown',hg,_⟩:=run_append_own (P:=Tryz.prog) w B 25 ty 48 i0 (.agg #[.int .i64 0,.int .i64 0,.int .i64 0,.int .i64 0,.int .i64 0]) 5 40 Tryz.underlying25 hi0 hz0 hz1 hz2 rfl (by decide) v out.length (recs out) hown ad m c (recs l) (by rw [zbj,hl]) hc
  (recs_one l) (by unfold maxLen;omega) (by omega) hB
 refine ⟨v',w',hrun,?_,hg⟩
 unfold OwnR
 rw [List.length_append,hl,recs_append]
 exact hown'
theorem step_append_t {ops:Array Oper}{o:Oper}{a:Act}{w:World}{K:Act->World->Prop}{Q:Exit->Act->World->Prop}{E:Prop}(hgd:o.guard=none)(s x:Operand)
 (ho:o.op=.call { callee:=.builtin .append,args:=#[s,x],argTypes:=#[25,25] })
 {B:Nat} {v:Value} {out:List Rec} (hs:a.eval s=v) (hown:OwnR w B 48 v out) {ad:Addr} {m c:Nat} {l:List Rec} (hx:a.eval x=.slice (some ad) m c) (hc:∀ j u,(recs l)[j]?=some u->w.cell? (ad.add j)=some u) (hl:l.length=m)
 (hlen:out.length+m<=100000) (hB:B<=w.heap.size) (h:∀ v' w',OwnR w' B 48 v' (out++l)->w.grownBy w' v.ownBlock->K (a.put o.dst v') w') :
 if Region.wanted o (yielded ops a.tmps)=true then Oper.wp Tryz.prog o a w K Q else E:=by
 have hw:Region.wanted o (yielded ops a.tmps)=true:=by simp [Region.wanted,hgd]
 rw [if_pos hw]
 obtain ⟨v',w',hrun,h1,h2⟩:=run_append_t o.type hown hc hl hlen hB
 unfold Oper.wp
 simp [execOp,ho,resolve,invoke,builtin,hs,hx,Result.andThen]
 rw [hrun]
 exact h v' w' h1 h2
theorem rec_cells6 (w:World)(r:Rec)(t:TypeId):∀ j u,(recs [r])[j]?=some u->(w.alloc (.cells #[.int .i64 r.a,.int .i64 r.b,.int .i64 r.c,.int .i64 r.d,.int .i64 r.e] t)).cell? ((⟨w.heap.size,0,none⟩:Addr).add j)=some u:=by
 intro j u hj
 have hj5:j<5:=by
  have:=(List.getElem?_eq_some_iff.1 hj).1
  rw [zbj] at this
  simpa using this
 rw [Row.add,Nat.zero_add]
 match j,hj5 with
 | 0,_=>simpa [recs,recL] using hj
 | 1,_=>simpa [recs,recL] using hj
 | 2,_=>simpa [recs,recL] using hj
 | 3,_=>simpa [recs,recL] using hj
 | 4,_=>simpa [recs,recL] using hj
set_option maxHeartbeats 2000000 in
theorem order_any (B b:Nat)(h:Sh)(s:St)(x:Inp)(w:World)(m:Mine w B b h s)(hn:s.ts.length<=2000) :
 Calls Tryz.prog 104 #[.pointer (some ⟨b,0,none⟩),inpV x] w fun e w'=>e=.returned (.tuple #[])/\Turns w B b (turnO s x) w':=by
 obtain ⟨w1,hw1,t1,hx1,hz1⟩:=x_head m x
 have s2:=t1.m.cell 2
 have hn2:=t1.m.c.n2
 have HW:=qz hw1
 have HT1:=qz t1
 have HN:=qz hn
 have hltb':=t1.m.lt
 have hB1:=Nat.le_of_lt t1.m.base
 obtain ⟨t,a1,n1,c1,a2,n2,c2,a3,n3,c3⟩:=h
 obtain ⟨xk,xa,xb,xc⟩:=x
 obtain ⟨x0,x1,x2,x3⟩:=hx1
 simp only [] at x0 x1 x2 x3 hn2
 simp at s2
 have HN2:=qz hn2
 clear hn2
 obtain ⟨o,ho⟩:∃ o,o=Obj.cells #[.int .i64 xa,.int .i64 xb,.int .i64 xc,.int .i64 1,.int .i64 (-1)] 48:=⟨_,rfl⟩
 have HO:Hid (OwnR (w1.alloc o) B 48 (.slice a2 n2 c2) s.ts):=World.ownsRow.alloc t1.m.c.ts o
 have HTA:Hid (TurnsH w B b ⟨t,a1,n1,c1,a2,n2,c2,a3,n3,c3⟩ s (w1.alloc o)):=t1.trans (.calls t1.m ((zX _ _).alloc (zL _) _))
 have s2a:(w1.alloc o).cell? ⟨b,2,none⟩=some (.slice a2 n2 c2):=(World.cell?_alloc_lt w1 o ⟨b,2,none⟩ hltb').trans s2
 rw [ho] at HO HTA s2a
 clear t1 hw1 m hn ho
 go_enter Tryz.func104,Tryz.ntmps104
 go_wp2_with fail
 rw [<- HW.out]
 go_region_law (refine step_append_t (B:=B) (out:=s.ts) (l:=[⟨xa,xb,xc,1,-1⟩]) (ad:=⟨w1.heap.size,0,none⟩) (m:=1) (c:=1) rfl (.tmp 8) (.tmp 16) rfl (by simp [Act.eval,Act.put];rfl) (by exact OwnR.drew HO.out) (by simp [Act.eval,Act.put]) (rec_cells6 w1 ⟨xa,xb,xc,1,-1⟩ 48) rfl (by have:=HN.out;show s.ts.length+1<=100000;omega) (by simp;omega) ?_;intro v' w' hown' hg';obtain ⟨a',c',hs'⟩:=hown'.slice;rw [show (s.ts++[(⟨xa,xb,xc,1,-1⟩:Rec)]).length=n2+1 from by rw [List.length_append,HN2.out];rfl] at hs';subst hs';have HP:=qz (HTA.out.drew.m.putT hg' hown' (by rw [List.length_append,<- HN2.out];rfl));have hob:=(hg'.block b (by simp;omega) (zbb HTA.out.m.c.ts HTA.out.m.o (by decide)).symm).trans HTA.out.m.o;have d2:=cell_of_row w' b 2 _ _ (0,0) hob;have df:=frozen_of_row w' b 2 _ _ hob;simp at d2)
 all_goals
  go_wp2_with fail
  go_end0
  refine ⟨rfl,?_⟩
  first|exact Turns.trans HTA.out.drew.t HP.out|(trace_state;fail)
theorem own_rowZ {w:World}{B n c:Nat}{a:Option Addr}{l:List Int}(h:OwnZ w B (.slice a n c) l):RowZ .i64 w w.heap.size a n c l:=OwnZ.rowZ h
set_option maxHeartbeats 2000000 in
theorem unblock_any (B b:Nat)(h:Sh)(s:St)(x:Inp)(w:World)(m:Mine w B b h s)(hu:s.bl.Pairwise (·<·))(hn:s.bl.length<=100000)(hx:x.a∈s.bl) :
 Calls Tryz.prog 114 #[.pointer (some ⟨b,0,none⟩),inpV x] w fun e w'=>e=.returned (.tuple #[])/\Turns w B b (turnC s x) w':=by
 obtain ⟨w1,hw1,t1,hx1,hz1⟩:=x_head m x
 have s3:=t1.m.cell 3
 have hn3:=t1.m.c.n3
 obtain ⟨hlow,hat⟩:=low_place hu hx
 have HS:=qz fun n=>search_any h.a3 h.n3 h.c3 w1.heap.size s.bl x.a (w1.drewN n) (own_rowZ t1.m.c.bl) hu (by omega)
 have HD:=qz fun n=>delete_any (w:=w1.drewN n) (i:=lowZ s.bl x.a) (show OwnZ (w1.drewN n) B (.slice h.a3 h.n3 h.c3) s.bl from t1.m.c.bl) (by omega)
 have HT1:=qz t1
 have HW:=qz hw1
 have HLE:Hid (s.bl.length<=100000):=hn
 have HTD:Hid (turnC s x=⟨s.tick,s.rs,s.ts,s.bl.take (lowZ s.bl x.a)++s.bl.drop (lowZ s.bl x.a+1)⟩):=rfl
 have HDE:Hid (decide (x.a∈s.bl)=true):=decide_eq_true hx
 have HLL:Hid (lowZ s.bl x.a<s.bl.length):=hlow
 have hltb':=t1.m.lt
 obtain ⟨t,a1,n1,c1,a2,n2,c2,a3,n3,c3⟩:=h
 obtain ⟨xk,xa,xb,xc⟩:=x
 obtain ⟨x0,x1,x2,x3⟩:=hx1
 simp only [] at x0 x1 x2 x3 hn3 HS HD HDE hlow HLL
 simp at s3
 have hp:lowZ s.bl xa<=100000:=by omega
 rw [HDE.out] at HS
 generalize hpp:lowZ s.bl xa=p at HS HD hp
 have HPP:=qz hpp
 have HN3:=qz hn3
 clear t1 hw1 m hn hx hlow hat hpp hu hn3
 go_enter Tryz.func114,Tryz.ntmps114
 go_wp2_with fail
 rw [<- HW.out]
 go_quiet ((go_at_call 128;exact Calls.quiet_of (HS.out _)))
 go_wp2_with fail
 refine (HD.out nq).mono ?_
 rintro e w3 ⟨a',c',rfl,ho,hg⟩
 have t2:=HT1.out.trans (.calls HT1.out.m (zaf (zX _ _) nq))
 have hob:=(hg.block b t2.m.lt (zbb t2.m.c.bl t2.m.o (by decide)).symm).trans t2.m.o
 have d3:=cell_of_row w3 b 3 _ _ (0,0) hob
 have f3:=frozen_of_row w3 b 3 _ _ hob
 have HP:=qz (t2.m.putB hg ho (by have:=HN3.out;have:=HLL.out;rw [HPP.out] at this;simp;omega))
 have HT2:=qz t2.t
 simp at d3
 clear hg ho hob t2 HD HS HT1 s3 x0 x1 x2 x3
 go_wp2_with fail
 go_end0
 refine ⟨rfl,?_⟩
 rw [HTD.out]
 rw [HPP.out]
 exact Turns.trans HT2.out HP.out
set_option maxHeartbeats 2000000 in
theorem block_any (B b:Nat)(h:Sh)(s:St)(x:Inp)(w:World)(m:Mine w B b h s)(hu:s.bl.Pairwise (·<·))(hn:s.bl.length<=100000) :
 Calls Tryz.prog 112 #[.pointer (some ⟨b,0,none⟩),inpV x] w fun e w'=>e=.returned (.tuple #[])/\Turns w B b (turnB s x) w':=by
 obtain ⟨w1,hw1,t1,hx1,hz1⟩:=x_head m x
 have s3:=t1.m.cell 3
 have hn3:=t1.m.c.n3
 have hlow:=low_le s.bl x.a
 have HS:=qz fun n=>search_any h.a3 h.n3 h.c3 w1.heap.size s.bl x.a (w1.drewN n) (own_rowZ t1.m.c.bl) hu (by omega)
 have HT1:=qz t1
 have HW:=qz hw1
 have HTD:Hid (turnB s x=⟨s.tick,s.rs,s.ts,s.bl.take (lowZ s.bl x.a)++x.a :: s.bl.drop (lowZ s.bl x.a)⟩):=rfl
 have hltb':=t1.m.lt
 obtain ⟨t,a1,n1,c1,a2,n2,c2,a3,n3,c3⟩:=h
 obtain ⟨xk,xa,xb,xc⟩:=x
 obtain ⟨x0,x1,x2,x3⟩:=hx1
 simp only [] at x0 x1 x2 x3 hn3 HS hlow
 simp at s3
 have HIN:=qz fun (V:World) (hV:TurnsH w B b ⟨t,a1,n1,c1,a2,n2,c2,a3,n3,c3⟩ s V) (q:Nat) (hq:q=lowZ s.bl xa) (vb:Nat) (tv:TypeId) (hvb:V.heap[vb]?=some (.cells #[.int .i64 xa] tv (0,0))) (hne:∀ g,a3=some ⟨g,0,none⟩->vb≠g) =>
  insert_any (i:=q) hV.m.c.bl (Nat.le_of_lt hV.m.base) (by simp only [] at *;omega) (by simp only [] at *;omega) hvb hne
 have hp:lowZ s.bl xa<=100000:=by omega
 have hp3:lowZ s.bl xa<=n3:=by omega
 generalize hpp:lowZ s.bl xa=p at HS HIN hp hp3
 generalize decide (xa∈s.bl)=dd at HS
 have HPP:=qz hpp
 have HN3:=qz hn3
 have HLO:=qz hlow
 clear t1 hw1 m hn hlow hpp hu hn3 hp3
 go_enter Tryz.func112,Tryz.ntmps112
 go_wp2_with fail
 rw [<- HW.out]
 go_quiet ((go_at_call 128;exact Calls.quiet_of (HS.out _)))
 have t2:=HT1.out.trans (.calls HT1.out.m (zaf (zX _ _) nq))
 have y1:(w1.drewN nq).cell? ⟨w.heap.size,1,none⟩=some (.int .i64 xa):=x1
 generalize hw2:w1.drewN nq=w2 at t2 y1
 have q3:=t2.m.cell 3
 have hlt2:=t2.m.lt
 simp at q3
 obtain ⟨o,ho⟩:∃ o,o=Obj.cells #[.int .i64 xa] 3:=⟨_,rfl⟩
 have q3a:(w2.alloc o).cell? ⟨b,3,none⟩=some (.slice a3 n3 c3):=(World.cell?_alloc_lt w2 o ⟨b,3,none⟩ hlt2).trans q3
 have HTA:Hid (TurnsH w B b ⟨t,a1,n1,c1,a2,n2,c2,a3,n3,c3⟩ s ((w2.alloc o).drew)):=t2.trans (.calls t2.m (((zX _ _).alloc (zL _) _).drew))
 have HCALL:Hid (Calls Tryz.prog 129 #[.slice a3 n3 c3,.int .i64 (p:Int),.slice (some ⟨w2.heap.size,0,none⟩) 1 1] ((w2.alloc o).drew) fun e w'=>∃ a' c',e=.returned (.slice a' (n3+1) c')/\OwnZ w' B (.slice a' (n3+1) c') (s.bl.take p++xa :: s.bl.drop p)/\((w2.alloc o).drew).grownBy w' (Value.slice a3 n3 c3).ownBlock):=by
  refine HIN.out _ HTA.out p rfl w2.heap.size 3 ?_ ?_
  · rw [ho];exact heap_alloc_new w2 _
  · intro g hg
    have h1:=World.ownsRow.lt t2.m.c.bl g (by simp only [];rw [hg];rfl)
    omega
 rw [ho] at q3a HTA HCALL
 clear ho HIN HS x0 x1 x2 x3 s3 t2 hw2 HT1
 go_wp2_with fail
 go_region_law (go_simp;go_at_call 129;refine HCALL.out.mono ?_;rintro e w3 ⟨a',c',rfl,hown,hg⟩;have hob:=(hg.block b (by simp;omega) (zbb HTA.out.m.c.bl HTA.out.m.o (by decide)).symm).trans HTA.out.m.o;have d3:=cell_of_row w3 b 3 _ _ (0,0) hob;have f3:=frozen_of_row w3 b 3 _ _ hob;have HP:=qz (HTA.out.m.putB hg hown (by have:=HN3.out;have:=HLO.out;rw [HPP.out] at this;simp;omega));simp at d3;clear hown hg hob)
 all_goals
  go_wp2_with fail
  go_end0
  refine ⟨rfl,?_⟩
  rw [HTD.out,HPP.out]
  exact Turns.trans HTA.out.t HP.out
theorem fetch_find {fl:Int->Bool}{s:St}(h:RightP fl s){i:Nat}(hi:i<s.rs.length)(hb:(s.rs.getD i zr).b=1):0<=zat s.ts (s.rs.getD i zr).c:=by
 have hm:=h.mode i hi
 unfold ModeP at hm
 rcases hm with ⟨h1,_⟩|⟨_,k,_,h2,_⟩|⟨h1,_⟩|⟨h1,_⟩ <;> omega
theorem gx_head {w:World}{B b:Nat}{h:Sh}{s:St}(m:Mine w B b h s)(W H:Int)(g:ByteArray)(x:Inp) :
 ∃ w2,w2=(w.alloc (zar W H g)).alloc (inpO x 44)/\TurnsH w B b h s w2/\GridAt w2 w.heap.size W H g/\InpAt w2 (w.heap.size+1) x/\w2.heap.size=w.heap.size+2:=by
 have h1:Below w.heap.size w (w.alloc (zar W H g)):=(zX _ _).alloc (zL _) _
 have z1:(w.alloc (zar W H g)).heap.size=w.heap.size+1:=by simp
 have g1:=zbq w W H g
 generalize w.alloc (zar W H g)=u at h1 z1 g1
 have h2:Below u.heap.size u (u.alloc (inpO x 44)):=(zX _ _).alloc (zL _) _
 have x2:=inpAt_new u x 44
 rw [z1] at x2
 exact ⟨_,rfl,.calls m (h1.trans (h2.mono (by omega))),g1.below h2 (by omega),x2,by simp [z1]⟩
end Go.Proofs.YtknnnbpgkfaapaaGreat.Vm
namespace Go.Proofs.YtknnnbpgkfaapaaGreat.Vm
open Go Go.RowKit
set_option maxHeartbeats 2000000 in
theorem apply_k1 (W H:Int)(g:ByteArray)(B b:Nat)(h:Sh)(s:St)(x:Inp)(w:World)(m:Mine w B b h s)(hg:g.size<=maxLen)(hr:RightP (zac (zaa g)) s)(hn:s.bl.length<=100000)(hk:x.k=1) :
 Calls Tryz.prog 37 #[zam W H g,.pointer (some ⟨b,0,none⟩),inpV x] w fun e w'=>e=.returned (.int .i64 (codeO (zac (zaa g)) s x))/\Turns w B b (if codeO (zac (zaa g)) s x=0 then turnO s x else s) w':=by
 obtain ⟨w2,hw2,t2,hg2,hx2,hz2⟩:=gx_head m W H g x
 have HCK:Hid (∀ V,Mine V B b h s->Calls Tryz.prog 103 #[zam W H g,shV h,inpV x] V fun e w'=>e=.returned (.int .i64 (codeO (zac (zaa g)) s x))/\Below V.heap.size V w'):=fun V mV=>checkOrder_any W H g h s x V.heap.size V hg mV.stIn (zL _)
 have HCH:Hid (∀ V,Mine V B b h s->codeO (zac (zaa g)) s x=0->Calls Tryz.prog 104 #[.pointer (some ⟨b,0,none⟩),inpV x] V fun e w'=>e=.returned (.tuple #[])/\Turns V B b (turnO s x) w'):=fun V mV hz=>order_any B b h s x V mV (Nat.le_trans hr.tn (by omega))
 have HEF:=qz (effectOf_yes 1 (by omega) w2)
 rw [show chkN 1=103 from rfl,show chgN 1=104 from rfl] at HEF
 have HT2:=qz t2
 have HG2:=qz hg2
 have HX2:=qz hx2
 have HW:=qz hw2
 generalize hcd:codeO (zac (zaa g)) s x=code at HCK HCH
 generalize htn:turnO s x=after at HCH
 obtain ⟨res,hres⟩:∃ res,(if code=0 then after else s)=res:=⟨_,rfl⟩
 rw [hres]
 have HR0:Hid (code=0->res=after):=fun h=>by rw [<- hres,if_pos h]
 have HR1:Hid (code≠0->res=s):=fun h=>by rw [<- hres,if_neg h]
 clear hcd htn hr hn m hg t2 hw2 hres
 obtain ⟨g0,g1,g2⟩:=hg2
 obtain ⟨x0,x1,x2,x3⟩:=hx2
 obtain ⟨xk,xa,xb,xc⟩:=x
 obtain ⟨t,a1,n1,c1,a2,n2,c2,a3,n3,c3⟩:=h
 simp only [] at hk x0 x1 x2 x3
 subst hk
 go_enter Tryz.func37,Tryz.ntmps37
 go_wp2_with fail
 rw [<- HW.out]
 refine HEF.out.mono ?_
 rintro e w3 ⟨rfl,hb3⟩
 have t3:=HT2.out.trans (.calls HT2.out.m hb3)
 have hz3:=hb3.size
 have hba:Below w3.heap.size w3 (w3.alloc (.cells #[fnV 103,fnV 104] 104)):=(zX _ _).alloc (zL _) _
 obtain ⟨w4,hw4⟩:∃ w4,w4=w3.alloc (.cells #[fnV 103,fnV 104] 104):=⟨_,rfl⟩
 have y0:w4.cell? ⟨w3.heap.size,0,none⟩=some (fnV 103):=by rw [hw4];simp
 have y1:w4.cell? ⟨w3.heap.size,1,none⟩=some (fnV 104):=by rw [hw4];simp
 have hz4:w4.heap.size=w3.heap.size+1:=by rw [hw4];simp
 rw [<- hw4] at hba
 have t4:=t3.trans (.calls t3.m hba)
 have hb24:=hb3.trans (hba.mono hz3)
 have hg4:=HG2.out.below hb24 (by omega)
 have hx4:=HX2.out.below hb24 (by omega)
 have HW4:=qz hw4
 have HT4:=qz t4
 clear g0 g1 g2 x0 x1 x2 x3 hb3 t3 hba hb24 hw4
 obtain ⟨g0,g1,g2⟩:=hg4
 obtain ⟨x0,x1,x2,x3⟩:=hx4
 obtain ⟨s0,s1,s2,s3⟩:=t4.m.stAt
 simp only [] at x0 x1 x2 x3 s0 s1 s2 s3
 clear t4
 go_wp2_with fail
 rw [<- HW4.out]
 have k0:Kept w4 w4:=Kept.refl _
 have hcall:∀ n:Held w4,Calls Tryz.prog 103 #[zam W H g,shV ⟨t,a1,n1,c1,a2,n2,c2,a3,n3,c3⟩,inpV ⟨1,xa,xb,xc⟩] n.V fun e V'=>e=.returned (.int .i64 code)/\∃ m:Held w4,V'=m.V:=fun n=>n.call (HCK.out _ (HT4.out.m.calls n.k))
 have C1:=qz hcall
 have hne:Nonempty (Held w4):=⟨⟨w4,k0⟩⟩
 have z1:∀ n:Held w4,n.V.cell? ⟨w.heap.size,0,none⟩=some (.int .i64 W):=fun n=>n.cell g0
 have z2:∀ n:Held w4,n.V.cell? ⟨w.heap.size,1,none⟩=some (.int .i64 H):=fun n=>n.cell g1
 have z3:∀ n:Held w4,n.V.cell? ⟨w.heap.size,2,none⟩=some (.string g):=fun n=>n.cell g2
 have z4:∀ n:Held w4,n.V.cell? ⟨w.heap.size+1,0,none⟩=some (.int .i64 1):=fun n=>n.cell x0
 have z5:∀ n:Held w4,n.V.cell? ⟨w.heap.size+1,1,none⟩=some (.int .i64 xa):=fun n=>n.cell x1
 have z6:∀ n:Held w4,n.V.cell? ⟨w.heap.size+1,2,none⟩=some (.int .i64 xb):=fun n=>n.cell x2
 have z7:∀ n:Held w4,n.V.cell? ⟨w.heap.size+1,3,none⟩=some (.int .i64 xc):=fun n=>n.cell x3
 have z8:∀ n:Held w4,n.V.cell? ⟨b,0,none⟩=some (.int .i64 t):=fun n=>n.cell s0
 have z9:∀ n:Held w4,n.V.cell? ⟨b,1,none⟩=some (.slice a1 n1 c1):=fun n=>n.cell s1
 have z10:∀ n:Held w4,n.V.cell? ⟨b,2,none⟩=some (.slice a2 n2 c2):=fun n=>n.cell s2
 have z11:∀ n:Held w4,n.V.cell? ⟨b,3,none⟩=some (.slice a3 n3 c3):=fun n=>n.cell s3
 have z12:∀ n:Held w4,n.V.cell? ⟨w3.heap.size,0,none⟩=some (fnV 103):=fun n=>n.cell y0
 have z13:∀ n:Held w4,n.V.cell? ⟨w3.heap.size,1,none⟩=some (fnV 104):=fun n=>n.cell y1
 clear g0 g1 g2 x0 x1 x2 x3 s0 s1 s2 s3 y0 y1 hcall
 refine zaz k0 (by kernel_rfl) (by kernel_rfl) ?_
 repeat (go_big_quiet_step ((go_at_call 103;with_reducible exact C1.out _)))
 refine wpQuiet_nil ?_
 rintro V ⟨n,rfl⟩
 have t5:=HT4.out.trans (.calls HT4.out.m n.k)
 have HT5:=qz t5
 have q0:=z4 n
 have q1:=z5 n
 have q2:=z6 n
 have q3:=z7 n
 have q4:=z13 n
 generalize n.V=V at t5 HT5 q0 q1 q2 q3 q4
 clear z1 z2 z3 z4 z5 z6 z7 z8 z9 z10 z11 z12 z13 hne k0 n HW4
 by_cases hz:code=0
 · have HC:=qz (HCH.out V t5.m hz)
   have HZ:=qz (HR0.out hz)
   clear HR0 HR1
   subst hz
   clear t5
   go_wp2_with fail
   refine HC.out.mono ?_
   rintro e w6 ⟨rfl,t6⟩
   go_wp2_with fail
   go_ret
   exact ⟨rfl,by rw [HZ.out];exact HT5.out.t.trans t6⟩
 · have e1:(code != 0)=true:=by simpa using hz
   have HE:=qz (HR1.out hz)
   clear HR0 HR1
   clear hz t5
   go_wp2_with fail
   go_ret
   refine ⟨rfl,?_⟩
   rw [HE.out]
   exact HT5.out.t
set_option maxHeartbeats 2000000 in
theorem apply_k2 (W H:Int)(g:ByteArray)(B b:Nat)(h:Sh)(s:St)(x:Inp)(w:World)(m:Mine w B b h s)(hg:g.size<=maxLen)(hr:RightP (zac (zaa g)) s)(hn:s.bl.length<=100000)(hk:x.k=2) :
 Calls Tryz.prog 37 #[zam W H g,.pointer (some ⟨b,0,none⟩),inpV x] w fun e w'=>e=.returned (.int .i64 (codeF s x))/\Turns w B b (if codeF s x=0 then turnF s x else s) w':=by
 obtain ⟨w2,hw2,t2,hg2,hx2,hz2⟩:=gx_head m W H g x
 have HCK:Hid (∀ V,Mine V B b h s->Calls Tryz.prog 105 #[zam W H g,shV h,inpV x] V fun e w'=>e=.returned (.int .i64 (codeF s x))/\Below V.heap.size V w'):=fun V mV=>checkFault_any W H g h s x V.heap.size V mV.stIn (zL _)
 have HCH:Hid (∀ V,Mine V B b h s->codeF s x=0->Calls Tryz.prog 106 #[.pointer (some ⟨b,0,none⟩),inpV x] V fun e w'=>e=.returned (.tuple #[])/\Turns V B b (turnF s x) w'):=fun V mV hz=>fault_any B b h s x V mV (codeF_zero hz).1 (fetch_find hr (isR_nat (codeF_zero hz).1))
 have HEF:=qz (effectOf_yes 2 (by omega) w2)
 rw [show chkN 2=105 from rfl,show chgN 2=106 from rfl] at HEF
 have HT2:=qz t2
 have HG2:=qz hg2
 have HX2:=qz hx2
 have HW:=qz hw2
 generalize hcd:codeF s x=code at HCK HCH
 generalize htn:turnF s x=after at HCH
 obtain ⟨res,hres⟩:∃ res,(if code=0 then after else s)=res:=⟨_,rfl⟩
 rw [hres]
 have HR0:Hid (code=0->res=after):=fun h=>by rw [<- hres,if_pos h]
 have HR1:Hid (code≠0->res=s):=fun h=>by rw [<- hres,if_neg h]
 clear hcd htn hr hn m hg t2 hw2 hres
 obtain ⟨g0,g1,g2⟩:=hg2
 obtain ⟨x0,x1,x2,x3⟩:=hx2
 obtain ⟨xk,xa,xb,xc⟩:=x
 obtain ⟨t,a1,n1,c1,a2,n2,c2,a3,n3,c3⟩:=h
 simp only [] at hk x0 x1 x2 x3
 subst hk
 go_enter Tryz.func37,Tryz.ntmps37
 go_wp2_with fail
 rw [<- HW.out]
 refine HEF.out.mono ?_
 rintro e w3 ⟨rfl,hb3⟩
 have t3:=HT2.out.trans (.calls HT2.out.m hb3)
 have hz3:=hb3.size
 have hba:Below w3.heap.size w3 (w3.alloc (.cells #[fnV 105,fnV 106] 104)):=(zX _ _).alloc (zL _) _
 obtain ⟨w4,hw4⟩:∃ w4,w4=w3.alloc (.cells #[fnV 105,fnV 106] 104):=⟨_,rfl⟩
 have y0:w4.cell? ⟨w3.heap.size,0,none⟩=some (fnV 105):=by rw [hw4];simp
 have y1:w4.cell? ⟨w3.heap.size,1,none⟩=some (fnV 106):=by rw [hw4];simp
 have hz4:w4.heap.size=w3.heap.size+1:=by rw [hw4];simp
 rw [<- hw4] at hba
 have t4:=t3.trans (.calls t3.m hba)
 have hb24:=hb3.trans (hba.mono hz3)
 have hg4:=HG2.out.below hb24 (by omega)
 have hx4:=HX2.out.below hb24 (by omega)
 have HW4:=qz hw4
 have HT4:=qz t4
 clear g0 g1 g2 x0 x1 x2 x3 hb3 t3 hba hb24 hw4
 obtain ⟨g0,g1,g2⟩:=hg4
 obtain ⟨x0,x1,x2,x3⟩:=hx4
 obtain ⟨s0,s1,s2,s3⟩:=t4.m.stAt
 simp only [] at x0 x1 x2 x3 s0 s1 s2 s3
 clear t4
 go_wp2_with fail
 rw [<- HW4.out]
 have k0:Kept w4 w4:=Kept.refl _
 have hcall:∀ n:Held w4,Calls Tryz.prog 105 #[zam W H g,shV ⟨t,a1,n1,c1,a2,n2,c2,a3,n3,c3⟩,inpV ⟨2,xa,xb,xc⟩] n.V fun e V'=>e=.returned (.int .i64 code)/\∃ m:Held w4,V'=m.V:=fun n=>n.call (HCK.out _ (HT4.out.m.calls n.k))
 have C1:=qz hcall
 have hne:Nonempty (Held w4):=⟨⟨w4,k0⟩⟩
 have z1:∀ n:Held w4,n.V.cell? ⟨w.heap.size,0,none⟩=some (.int .i64 W):=fun n=>n.cell g0
 have z2:∀ n:Held w4,n.V.cell? ⟨w.heap.size,1,none⟩=some (.int .i64 H):=fun n=>n.cell g1
 have z3:∀ n:Held w4,n.V.cell? ⟨w.heap.size,2,none⟩=some (.string g):=fun n=>n.cell g2
 have z4:∀ n:Held w4,n.V.cell? ⟨w.heap.size+1,0,none⟩=some (.int .i64 2):=fun n=>n.cell x0
 have z5:∀ n:Held w4,n.V.cell? ⟨w.heap.size+1,1,none⟩=some (.int .i64 xa):=fun n=>n.cell x1
 have z6:∀ n:Held w4,n.V.cell? ⟨w.heap.size+1,2,none⟩=some (.int .i64 xb):=fun n=>n.cell x2
 have z7:∀ n:Held w4,n.V.cell? ⟨w.heap.size+1,3,none⟩=some (.int .i64 xc):=fun n=>n.cell x3
 have z8:∀ n:Held w4,n.V.cell? ⟨b,0,none⟩=some (.int .i64 t):=fun n=>n.cell s0
 have z9:∀ n:Held w4,n.V.cell? ⟨b,1,none⟩=some (.slice a1 n1 c1):=fun n=>n.cell s1
 have z10:∀ n:Held w4,n.V.cell? ⟨b,2,none⟩=some (.slice a2 n2 c2):=fun n=>n.cell s2
 have z11:∀ n:Held w4,n.V.cell? ⟨b,3,none⟩=some (.slice a3 n3 c3):=fun n=>n.cell s3
 have z12:∀ n:Held w4,n.V.cell? ⟨w3.heap.size,0,none⟩=some (fnV 105):=fun n=>n.cell y0
 have z13:∀ n:Held w4,n.V.cell? ⟨w3.heap.size,1,none⟩=some (fnV 106):=fun n=>n.cell y1
 clear g0 g1 g2 x0 x1 x2 x3 s0 s1 s2 s3 y0 y1 hcall
 refine zaz k0 (by kernel_rfl) (by kernel_rfl) ?_
 repeat (go_big_quiet_step ((go_at_call 105;with_reducible exact C1.out _)))
 refine wpQuiet_nil ?_
 rintro V ⟨n,rfl⟩
 have t5:=HT4.out.trans (.calls HT4.out.m n.k)
 have HT5:=qz t5
 have q0:=z4 n
 have q1:=z5 n
 have q2:=z6 n
 have q3:=z7 n
 have q4:=z13 n
 generalize n.V=V at t5 HT5 q0 q1 q2 q3 q4
 clear z1 z2 z3 z4 z5 z6 z7 z8 z9 z10 z11 z12 z13 hne k0 n HW4
 by_cases hz:code=0
 · have HC:=qz (HCH.out V t5.m hz)
   have HZ:=qz (HR0.out hz)
   clear HR0 HR1
   subst hz
   clear t5
   go_wp2_with fail
   refine HC.out.mono ?_
   rintro e w6 ⟨rfl,t6⟩
   go_wp2_with fail
   go_ret
   exact ⟨rfl,by rw [HZ.out];exact HT5.out.t.trans t6⟩
 · have e1:(code != 0)=true:=by simpa using hz
   have HE:=qz (HR1.out hz)
   clear HR0 HR1
   clear hz t5
   go_wp2_with fail
   go_ret
   refine ⟨rfl,?_⟩
   rw [HE.out]
   exact HT5.out.t
end Go.Proofs.YtknnnbpgkfaapaaGreat.Vm
namespace Go.Proofs.YtknnnbpgkfaapaaGreat.Vm
open Go Go.RowKit
set_option maxHeartbeats 2000000 in
theorem apply_k3 (W H:Int)(g:ByteArray)(B b:Nat)(h:Sh)(s:St)(x:Inp)(w:World)(m:Mine w B b h s)(hg:g.size<=maxLen)(hr:RightP (zac (zaa g)) s)(hn:s.bl.length<=100000)(hk:x.k=3) :
 Calls Tryz.prog 37 #[zam W H g,.pointer (some ⟨b,0,none⟩),inpV x] w fun e w'=>e=.returned (.int .i64 (codeR s x))/\Turns w B b (if codeR s x=0 then turnR s x else s) w':=by
 obtain ⟨w2,hw2,t2,hg2,hx2,hz2⟩:=gx_head m W H g x
 have HCK:Hid (∀ V,Mine V B b h s->Calls Tryz.prog 107 #[zam W H g,shV h,inpV x] V fun e w'=>e=.returned (.int .i64 (codeR s x))/\Below V.heap.size V w'):=fun V mV=>checkRepair_any W H g h s x V.heap.size V mV.stIn (zL _)
 have HCH:Hid (∀ V,Mine V B b h s->codeR s x=0->Calls Tryz.prog 108 #[.pointer (some ⟨b,0,none⟩),inpV x] V fun e w'=>e=.returned (.tuple #[])/\Turns V B b (turnR s x) w'):=fun V mV hz=>repair_any B b h s x V mV (codeR_zero hz).1
 have HEF:=qz (effectOf_yes 3 (by omega) w2)
 rw [show chkN 3=107 from rfl,show chgN 3=108 from rfl] at HEF
 have HT2:=qz t2
 have HG2:=qz hg2
 have HX2:=qz hx2
 have HW:=qz hw2
 generalize hcd:codeR s x=code at HCK HCH
 generalize htn:turnR s x=after at HCH
 obtain ⟨res,hres⟩:∃ res,(if code=0 then after else s)=res:=⟨_,rfl⟩
 rw [hres]
 have HR0:Hid (code=0->res=after):=fun h=>by rw [<- hres,if_pos h]
 have HR1:Hid (code≠0->res=s):=fun h=>by rw [<- hres,if_neg h]
 clear hcd htn hr hn m hg t2 hw2 hres
 obtain ⟨g0,g1,g2⟩:=hg2
 obtain ⟨x0,x1,x2,x3⟩:=hx2
 obtain ⟨xk,xa,xb,xc⟩:=x
 obtain ⟨t,a1,n1,c1,a2,n2,c2,a3,n3,c3⟩:=h
 simp only [] at hk x0 x1 x2 x3
 subst hk
 go_enter Tryz.func37,Tryz.ntmps37
 go_wp2_with fail
 rw [<- HW.out]
 refine HEF.out.mono ?_
 rintro e w3 ⟨rfl,hb3⟩
 have t3:=HT2.out.trans (.calls HT2.out.m hb3)
 have hz3:=hb3.size
 have hba:Below w3.heap.size w3 (w3.alloc (.cells #[fnV 107,fnV 108] 104)):=(zX _ _).alloc (zL _) _
 obtain ⟨w4,hw4⟩:∃ w4,w4=w3.alloc (.cells #[fnV 107,fnV 108] 104):=⟨_,rfl⟩
 have y0:w4.cell? ⟨w3.heap.size,0,none⟩=some (fnV 107):=by rw [hw4];simp
 have y1:w4.cell? ⟨w3.heap.size,1,none⟩=some (fnV 108):=by rw [hw4];simp
 have hz4:w4.heap.size=w3.heap.size+1:=by rw [hw4];simp
 rw [<- hw4] at hba
 have t4:=t3.trans (.calls t3.m hba)
 have hb24:=hb3.trans (hba.mono hz3)
 have hg4:=HG2.out.below hb24 (by omega)
 have hx4:=HX2.out.below hb24 (by omega)
 have HW4:=qz hw4
 have HT4:=qz t4
 clear g0 g1 g2 x0 x1 x2 x3 hb3 t3 hba hb24 hw4
 obtain ⟨g0,g1,g2⟩:=hg4
 obtain ⟨x0,x1,x2,x3⟩:=hx4
 obtain ⟨s0,s1,s2,s3⟩:=t4.m.stAt
 simp only [] at x0 x1 x2 x3 s0 s1 s2 s3
 clear t4
 go_wp2_with fail
 rw [<- HW4.out]
 have k0:Kept w4 w4:=Kept.refl _
 have hcall:∀ n:Held w4,Calls Tryz.prog 107 #[zam W H g,shV ⟨t,a1,n1,c1,a2,n2,c2,a3,n3,c3⟩,inpV ⟨3,xa,xb,xc⟩] n.V fun e V'=>e=.returned (.int .i64 code)/\∃ m:Held w4,V'=m.V:=fun n=>n.call (HCK.out _ (HT4.out.m.calls n.k))
 have C1:=qz hcall
 have hne:Nonempty (Held w4):=⟨⟨w4,k0⟩⟩
 have z1:∀ n:Held w4,n.V.cell? ⟨w.heap.size,0,none⟩=some (.int .i64 W):=fun n=>n.cell g0
 have z2:∀ n:Held w4,n.V.cell? ⟨w.heap.size,1,none⟩=some (.int .i64 H):=fun n=>n.cell g1
 have z3:∀ n:Held w4,n.V.cell? ⟨w.heap.size,2,none⟩=some (.string g):=fun n=>n.cell g2
 have z4:∀ n:Held w4,n.V.cell? ⟨w.heap.size+1,0,none⟩=some (.int .i64 3):=fun n=>n.cell x0
 have z5:∀ n:Held w4,n.V.cell? ⟨w.heap.size+1,1,none⟩=some (.int .i64 xa):=fun n=>n.cell x1
 have z6:∀ n:Held w4,n.V.cell? ⟨w.heap.size+1,2,none⟩=some (.int .i64 xb):=fun n=>n.cell x2
 have z7:∀ n:Held w4,n.V.cell? ⟨w.heap.size+1,3,none⟩=some (.int .i64 xc):=fun n=>n.cell x3
 have z8:∀ n:Held w4,n.V.cell? ⟨b,0,none⟩=some (.int .i64 t):=fun n=>n.cell s0
 have z9:∀ n:Held w4,n.V.cell? ⟨b,1,none⟩=some (.slice a1 n1 c1):=fun n=>n.cell s1
 have z10:∀ n:Held w4,n.V.cell? ⟨b,2,none⟩=some (.slice a2 n2 c2):=fun n=>n.cell s2
 have z11:∀ n:Held w4,n.V.cell? ⟨b,3,none⟩=some (.slice a3 n3 c3):=fun n=>n.cell s3
 have z12:∀ n:Held w4,n.V.cell? ⟨w3.heap.size,0,none⟩=some (fnV 107):=fun n=>n.cell y0
 have z13:∀ n:Held w4,n.V.cell? ⟨w3.heap.size,1,none⟩=some (fnV 108):=fun n=>n.cell y1
 clear g0 g1 g2 x0 x1 x2 x3 s0 s1 s2 s3 y0 y1 hcall
 refine zaz k0 (by kernel_rfl) (by kernel_rfl) ?_
 repeat (go_big_quiet_step ((go_at_call 107;with_reducible exact C1.out _)))
 refine wpQuiet_nil ?_
 rintro V ⟨n,rfl⟩
 have t5:=HT4.out.trans (.calls HT4.out.m n.k)
 have HT5:=qz t5
 have q0:=z4 n
 have q1:=z5 n
 have q2:=z6 n
 have q3:=z7 n
 have q4:=z13 n
 generalize n.V=V at t5 HT5 q0 q1 q2 q3 q4
 clear z1 z2 z3 z4 z5 z6 z7 z8 z9 z10 z11 z12 z13 hne k0 n HW4
 by_cases hz:code=0
 · have HC:=qz (HCH.out V t5.m hz)
   have HZ:=qz (HR0.out hz)
   clear HR0 HR1
   subst hz
   clear t5
   go_wp2_with fail
   refine HC.out.mono ?_
   rintro e w6 ⟨rfl,t6⟩
   go_wp2_with fail
   go_ret
   exact ⟨rfl,by rw [HZ.out];exact HT5.out.t.trans t6⟩
 · have e1:(code != 0)=true:=by simpa using hz
   have HE:=qz (HR1.out hz)
   clear HR0 HR1
   clear hz t5
   go_wp2_with fail
   go_ret
   refine ⟨rfl,?_⟩
   rw [HE.out]
   exact HT5.out.t
set_option maxHeartbeats 2000000 in
theorem apply_k4 (W H:Int)(g:ByteArray)(B b:Nat)(h:Sh)(s:St)(x:Inp)(w:World)(m:Mine w B b h s)(hg:g.size<=maxLen)(hr:RightP (zac (zaa g)) s)(hn:s.bl.length<=100000)(hk:x.k=4) :
 Calls Tryz.prog 37 #[zam W H g,.pointer (some ⟨b,0,none⟩),inpV x] w fun e w'=>e=.returned (.int .i64 (codeH s x))/\Turns w B b (if codeH s x=0 then turnH s x else s) w':=by
 obtain ⟨w2,hw2,t2,hg2,hx2,hz2⟩:=gx_head m W H g x
 have HCK:Hid (∀ V,Mine V B b h s->Calls Tryz.prog 109 #[zam W H g,shV h,inpV x] V fun e w'=>e=.returned (.int .i64 (codeH s x))/\Below V.heap.size V w'):=fun V mV=>checkStall_any W H g h s x V.heap.size V mV.stIn (zL _)
 have HCH:Hid (∀ V,Mine V B b h s->codeH s x=0->Calls Tryz.prog 110 #[.pointer (some ⟨b,0,none⟩),inpV x] V fun e w'=>e=.returned (.tuple #[])/\Turns V B b (turnH s x) w'):=fun V mV hz=>stall_any B b h s x V mV (codeH_zero hz).1
 have HEF:=qz (effectOf_yes 4 (by omega) w2)
 rw [show chkN 4=109 from rfl,show chgN 4=110 from rfl] at HEF
 have HT2:=qz t2
 have HG2:=qz hg2
 have HX2:=qz hx2
 have HW:=qz hw2
 generalize hcd:codeH s x=code at HCK HCH
 generalize htn:turnH s x=after at HCH
 obtain ⟨res,hres⟩:∃ res,(if code=0 then after else s)=res:=⟨_,rfl⟩
 rw [hres]
 have HR0:Hid (code=0->res=after):=fun h=>by rw [<- hres,if_pos h]
 have HR1:Hid (code≠0->res=s):=fun h=>by rw [<- hres,if_neg h]
 clear hcd htn hr hn m hg t2 hw2 hres
 obtain ⟨g0,g1,g2⟩:=hg2
 obtain ⟨x0,x1,x2,x3⟩:=hx2
 obtain ⟨xk,xa,xb,xc⟩:=x
 obtain ⟨t,a1,n1,c1,a2,n2,c2,a3,n3,c3⟩:=h
 simp only [] at hk x0 x1 x2 x3
 subst hk
 go_enter Tryz.func37,Tryz.ntmps37
 go_wp2_with fail
 rw [<- HW.out]
 refine HEF.out.mono ?_
 rintro e w3 ⟨rfl,hb3⟩
 have t3:=HT2.out.trans (.calls HT2.out.m hb3)
 have hz3:=hb3.size
 have hba:Below w3.heap.size w3 (w3.alloc (.cells #[fnV 109,fnV 110] 104)):=(zX _ _).alloc (zL _) _
 obtain ⟨w4,hw4⟩:∃ w4,w4=w3.alloc (.cells #[fnV 109,fnV 110] 104):=⟨_,rfl⟩
 have y0:w4.cell? ⟨w3.heap.size,0,none⟩=some (fnV 109):=by rw [hw4];simp
 have y1:w4.cell? ⟨w3.heap.size,1,none⟩=some (fnV 110):=by rw [hw4];simp
 have hz4:w4.heap.size=w3.heap.size+1:=by rw [hw4];simp
 rw [<- hw4] at hba
 have t4:=t3.trans (.calls t3.m hba)
 have hb24:=hb3.trans (hba.mono hz3)
 have hg4:=HG2.out.below hb24 (by omega)
 have hx4:=HX2.out.below hb24 (by omega)
 have HW4:=qz hw4
 have HT4:=qz t4
 clear g0 g1 g2 x0 x1 x2 x3 hb3 t3 hba hb24 hw4
 obtain ⟨g0,g1,g2⟩:=hg4
 obtain ⟨x0,x1,x2,x3⟩:=hx4
 obtain ⟨s0,s1,s2,s3⟩:=t4.m.stAt
 simp only [] at x0 x1 x2 x3 s0 s1 s2 s3
 clear t4
 go_wp2_with fail
 rw [<- HW4.out]
 have k0:Kept w4 w4:=Kept.refl _
 have hcall:∀ n:Held w4,Calls Tryz.prog 109 #[zam W H g,shV ⟨t,a1,n1,c1,a2,n2,c2,a3,n3,c3⟩,inpV ⟨4,xa,xb,xc⟩] n.V fun e V'=>e=.returned (.int .i64 code)/\∃ m:Held w4,V'=m.V:=fun n=>n.call (HCK.out _ (HT4.out.m.calls n.k))
 have C1:=qz hcall
 have hne:Nonempty (Held w4):=⟨⟨w4,k0⟩⟩
 have z1:∀ n:Held w4,n.V.cell? ⟨w.heap.size,0,none⟩=some (.int .i64 W):=fun n=>n.cell g0
 have z2:∀ n:Held w4,n.V.cell? ⟨w.heap.size,1,none⟩=some (.int .i64 H):=fun n=>n.cell g1
 have z3:∀ n:Held w4,n.V.cell? ⟨w.heap.size,2,none⟩=some (.string g):=fun n=>n.cell g2
 have z4:∀ n:Held w4,n.V.cell? ⟨w.heap.size+1,0,none⟩=some (.int .i64 4):=fun n=>n.cell x0
 have z5:∀ n:Held w4,n.V.cell? ⟨w.heap.size+1,1,none⟩=some (.int .i64 xa):=fun n=>n.cell x1
 have z6:∀ n:Held w4,n.V.cell? ⟨w.heap.size+1,2,none⟩=some (.int .i64 xb):=fun n=>n.cell x2
 have z7:∀ n:Held w4,n.V.cell? ⟨w.heap.size+1,3,none⟩=some (.int .i64 xc):=fun n=>n.cell x3
 have z8:∀ n:Held w4,n.V.cell? ⟨b,0,none⟩=some (.int .i64 t):=fun n=>n.cell s0
 have z9:∀ n:Held w4,n.V.cell? ⟨b,1,none⟩=some (.slice a1 n1 c1):=fun n=>n.cell s1
 have z10:∀ n:Held w4,n.V.cell? ⟨b,2,none⟩=some (.slice a2 n2 c2):=fun n=>n.cell s2
 have z11:∀ n:Held w4,n.V.cell? ⟨b,3,none⟩=some (.slice a3 n3 c3):=fun n=>n.cell s3
 have z12:∀ n:Held w4,n.V.cell? ⟨w3.heap.size,0,none⟩=some (fnV 109):=fun n=>n.cell y0
 have z13:∀ n:Held w4,n.V.cell? ⟨w3.heap.size,1,none⟩=some (fnV 110):=fun n=>n.cell y1
 clear g0 g1 g2 x0 x1 x2 x3 s0 s1 s2 s3 y0 y1 hcall
 refine zaz k0 (by kernel_rfl) (by kernel_rfl) ?_
 repeat (go_big_quiet_step ((go_at_call 109;with_reducible exact C1.out _)))
 refine wpQuiet_nil ?_
 rintro V ⟨n,rfl⟩
 have t5:=HT4.out.trans (.calls HT4.out.m n.k)
 have HT5:=qz t5
 have q0:=z4 n
 have q1:=z5 n
 have q2:=z6 n
 have q3:=z7 n
 have q4:=z13 n
 generalize n.V=V at t5 HT5 q0 q1 q2 q3 q4
 clear z1 z2 z3 z4 z5 z6 z7 z8 z9 z10 z11 z12 z13 hne k0 n HW4
 by_cases hz:code=0
 · have HC:=qz (HCH.out V t5.m hz)
   have HZ:=qz (HR0.out hz)
   clear HR0 HR1
   subst hz
   clear t5
   go_wp2_with fail
   refine HC.out.mono ?_
   rintro e w6 ⟨rfl,t6⟩
   go_wp2_with fail
   go_ret
   exact ⟨rfl,by rw [HZ.out];exact HT5.out.t.trans t6⟩
 · have e1:(code != 0)=true:=by simpa using hz
   have HE:=qz (HR1.out hz)
   clear HR0 HR1
   clear hz t5
   go_wp2_with fail
   go_ret
   refine ⟨rfl,?_⟩
   rw [HE.out]
   exact HT5.out.t
end Go.Proofs.YtknnnbpgkfaapaaGreat.Vm
namespace Go.Proofs.YtknnnbpgkfaapaaGreat.Vm
open Go Go.RowKit
set_option maxHeartbeats 2000000 in
theorem apply_k5 (W H:Int)(g:ByteArray)(B b:Nat)(h:Sh)(s:St)(x:Inp)(w:World)(m:Mine w B b h s)(hg:g.size<=maxLen)(hr:RightP (zac (zaa g)) s)(hn:s.bl.length<=100000)(hk:x.k=5) :
 Calls Tryz.prog 37 #[zam W H g,.pointer (some ⟨b,0,none⟩),inpV x] w fun e w'=>e=.returned (.int .i64 (codeB (zac (zaa g)) s x))/\Turns w B b (if codeB (zac (zaa g)) s x=0 then turnB s x else s) w':=by
 obtain ⟨w2,hw2,t2,hg2,hx2,hz2⟩:=gx_head m W H g x
 have HCK:Hid (∀ V,Mine V B b h s->Calls Tryz.prog 111 #[zam W H g,shV h,inpV x] V fun e w'=>e=.returned (.int .i64 (codeB (zac (zaa g)) s x))/\Below V.heap.size V w'):=fun V mV=>checkBlock_any W H g h s x V.heap.size V hg mV.stIn (zL _) (up_right hr).pairs hn
 have HCH:Hid (∀ V,Mine V B b h s->codeB (zac (zaa g)) s x=0->Calls Tryz.prog 112 #[.pointer (some ⟨b,0,none⟩),inpV x] V fun e w'=>e=.returned (.tuple #[])/\Turns V B b (turnB s x) w'):=fun V mV hz=>block_any B b h s x V mV (up_right hr).pairs hn
 have HEF:=qz (effectOf_yes 5 (by omega) w2)
 rw [show chkN 5=111 from rfl,show chgN 5=112 from rfl] at HEF
 have HT2:=qz t2
 have HG2:=qz hg2
 have HX2:=qz hx2
 have HW:=qz hw2
 generalize hcd:codeB (zac (zaa g)) s x=code at HCK HCH
 generalize htn:turnB s x=after at HCH
 obtain ⟨res,hres⟩:∃ res,(if code=0 then after else s)=res:=⟨_,rfl⟩
 rw [hres]
 have HR0:Hid (code=0->res=after):=fun h=>by rw [<- hres,if_pos h]
 have HR1:Hid (code≠0->res=s):=fun h=>by rw [<- hres,if_neg h]
 clear hcd htn hr hn m hg t2 hw2 hres
 obtain ⟨g0,g1,g2⟩:=hg2
 obtain ⟨x0,x1,x2,x3⟩:=hx2
 obtain ⟨xk,xa,xb,xc⟩:=x
 obtain ⟨t,a1,n1,c1,a2,n2,c2,a3,n3,c3⟩:=h
 simp only [] at hk x0 x1 x2 x3
 subst hk
 go_enter Tryz.func37,Tryz.ntmps37
 go_wp2_with fail
 rw [<- HW.out]
 refine HEF.out.mono ?_
 rintro e w3 ⟨rfl,hb3⟩
 have t3:=HT2.out.trans (.calls HT2.out.m hb3)
 have hz3:=hb3.size
 have hba:Below w3.heap.size w3 (w3.alloc (.cells #[fnV 111,fnV 112] 104)):=(zX _ _).alloc (zL _) _
 obtain ⟨w4,hw4⟩:∃ w4,w4=w3.alloc (.cells #[fnV 111,fnV 112] 104):=⟨_,rfl⟩
 have y0:w4.cell? ⟨w3.heap.size,0,none⟩=some (fnV 111):=by rw [hw4];simp
 have y1:w4.cell? ⟨w3.heap.size,1,none⟩=some (fnV 112):=by rw [hw4];simp
 have hz4:w4.heap.size=w3.heap.size+1:=by rw [hw4];simp
 rw [<- hw4] at hba
 have t4:=t3.trans (.calls t3.m hba)
 have hb24:=hb3.trans (hba.mono hz3)
 have hg4:=HG2.out.below hb24 (by omega)
 have hx4:=HX2.out.below hb24 (by omega)
 have HW4:=qz hw4
 have HT4:=qz t4
 clear g0 g1 g2 x0 x1 x2 x3 hb3 t3 hba hb24 hw4
 obtain ⟨g0,g1,g2⟩:=hg4
 obtain ⟨x0,x1,x2,x3⟩:=hx4
 obtain ⟨s0,s1,s2,s3⟩:=t4.m.stAt
 simp only [] at x0 x1 x2 x3 s0 s1 s2 s3
 clear t4
 go_wp2_with fail
 rw [<- HW4.out]
 have k0:Kept w4 w4:=Kept.refl _
 have hcall:∀ n:Held w4,Calls Tryz.prog 111 #[zam W H g,shV ⟨t,a1,n1,c1,a2,n2,c2,a3,n3,c3⟩,inpV ⟨5,xa,xb,xc⟩] n.V fun e V'=>e=.returned (.int .i64 code)/\∃ m:Held w4,V'=m.V:=fun n=>n.call (HCK.out _ (HT4.out.m.calls n.k))
 have C1:=qz hcall
 have hne:Nonempty (Held w4):=⟨⟨w4,k0⟩⟩
 have z1:∀ n:Held w4,n.V.cell? ⟨w.heap.size,0,none⟩=some (.int .i64 W):=fun n=>n.cell g0
 have z2:∀ n:Held w4,n.V.cell? ⟨w.heap.size,1,none⟩=some (.int .i64 H):=fun n=>n.cell g1
 have z3:∀ n:Held w4,n.V.cell? ⟨w.heap.size,2,none⟩=some (.string g):=fun n=>n.cell g2
 have z4:∀ n:Held w4,n.V.cell? ⟨w.heap.size+1,0,none⟩=some (.int .i64 5):=fun n=>n.cell x0
 have z5:∀ n:Held w4,n.V.cell? ⟨w.heap.size+1,1,none⟩=some (.int .i64 xa):=fun n=>n.cell x1
 have z6:∀ n:Held w4,n.V.cell? ⟨w.heap.size+1,2,none⟩=some (.int .i64 xb):=fun n=>n.cell x2
 have z7:∀ n:Held w4,n.V.cell? ⟨w.heap.size+1,3,none⟩=some (.int .i64 xc):=fun n=>n.cell x3
 have z8:∀ n:Held w4,n.V.cell? ⟨b,0,none⟩=some (.int .i64 t):=fun n=>n.cell s0
 have z9:∀ n:Held w4,n.V.cell? ⟨b,1,none⟩=some (.slice a1 n1 c1):=fun n=>n.cell s1
 have z10:∀ n:Held w4,n.V.cell? ⟨b,2,none⟩=some (.slice a2 n2 c2):=fun n=>n.cell s2
 have z11:∀ n:Held w4,n.V.cell? ⟨b,3,none⟩=some (.slice a3 n3 c3):=fun n=>n.cell s3
 have z12:∀ n:Held w4,n.V.cell? ⟨w3.heap.size,0,none⟩=some (fnV 111):=fun n=>n.cell y0
 have z13:∀ n:Held w4,n.V.cell? ⟨w3.heap.size,1,none⟩=some (fnV 112):=fun n=>n.cell y1
 clear g0 g1 g2 x0 x1 x2 x3 s0 s1 s2 s3 y0 y1 hcall
 refine zaz k0 (by kernel_rfl) (by kernel_rfl) ?_
 repeat (go_big_quiet_step ((go_at_call 111;with_reducible exact C1.out _)))
 refine wpQuiet_nil ?_
 rintro V ⟨n,rfl⟩
 have t5:=HT4.out.trans (.calls HT4.out.m n.k)
 have HT5:=qz t5
 have q0:=z4 n
 have q1:=z5 n
 have q2:=z6 n
 have q3:=z7 n
 have q4:=z13 n
 generalize n.V=V at t5 HT5 q0 q1 q2 q3 q4
 clear z1 z2 z3 z4 z5 z6 z7 z8 z9 z10 z11 z12 z13 hne k0 n HW4
 by_cases hz:code=0
 · have HC:=qz (HCH.out V t5.m hz)
   have HZ:=qz (HR0.out hz)
   clear HR0 HR1
   subst hz
   clear t5
   go_wp2_with fail
   refine HC.out.mono ?_
   rintro e w6 ⟨rfl,t6⟩
   go_wp2_with fail
   go_ret
   exact ⟨rfl,by rw [HZ.out];exact HT5.out.t.trans t6⟩
 · have e1:(code != 0)=true:=by simpa using hz
   have HE:=qz (HR1.out hz)
   clear HR0 HR1
   clear hz t5
   go_wp2_with fail
   go_ret
   refine ⟨rfl,?_⟩
   rw [HE.out]
   exact HT5.out.t
set_option maxHeartbeats 2000000 in
theorem apply_k6 (W H:Int)(g:ByteArray)(B b:Nat)(h:Sh)(s:St)(x:Inp)(w:World)(m:Mine w B b h s)(hg:g.size<=maxLen)(hr:RightP (zac (zaa g)) s)(hn:s.bl.length<=100000)(hk:x.k=6) :
 Calls Tryz.prog 37 #[zam W H g,.pointer (some ⟨b,0,none⟩),inpV x] w fun e w'=>e=.returned (.int .i64 (codeC (zac (zaa g)) s x))/\Turns w B b (if codeC (zac (zaa g)) s x=0 then turnC s x else s) w':=by
 obtain ⟨w2,hw2,t2,hg2,hx2,hz2⟩:=gx_head m W H g x
 have HCK:Hid (∀ V,Mine V B b h s->Calls Tryz.prog 113 #[zam W H g,shV h,inpV x] V fun e w'=>e=.returned (.int .i64 (codeC (zac (zaa g)) s x))/\Below V.heap.size V w'):=fun V mV=>checkClear_any W H g h s x V.heap.size V hg mV.stIn (zL _) (up_right hr).pairs hn
 have HCH:Hid (∀ V,Mine V B b h s->codeC (zac (zaa g)) s x=0->Calls Tryz.prog 114 #[.pointer (some ⟨b,0,none⟩),inpV x] V fun e w'=>e=.returned (.tuple #[])/\Turns V B b (turnC s x) w'):=fun V mV hz=>unblock_any B b h s x V mV (up_right hr).pairs hn (codeC_zero hz)
 have HEF:=qz (effectOf_yes 6 (by omega) w2)
 rw [show chkN 6=113 from rfl,show chgN 6=114 from rfl] at HEF
 have HT2:=qz t2
 have HG2:=qz hg2
 have HX2:=qz hx2
 have HW:=qz hw2
 generalize hcd:codeC (zac (zaa g)) s x=code at HCK HCH
 generalize htn:turnC s x=after at HCH
 obtain ⟨res,hres⟩:∃ res,(if code=0 then after else s)=res:=⟨_,rfl⟩
 rw [hres]
 have HR0:Hid (code=0->res=after):=fun h=>by rw [<- hres,if_pos h]
 have HR1:Hid (code≠0->res=s):=fun h=>by rw [<- hres,if_neg h]
 clear hcd htn hr hn m hg t2 hw2 hres
 obtain ⟨g0,g1,g2⟩:=hg2
 obtain ⟨x0,x1,x2,x3⟩:=hx2
 obtain ⟨xk,xa,xb,xc⟩:=x
 obtain ⟨t,a1,n1,c1,a2,n2,c2,a3,n3,c3⟩:=h
 simp only [] at hk x0 x1 x2 x3
 subst hk
 go_enter Tryz.func37,Tryz.ntmps37
 go_wp2_with fail
 rw [<- HW.out]
 refine HEF.out.mono ?_
 rintro e w3 ⟨rfl,hb3⟩
 have t3:=HT2.out.trans (.calls HT2.out.m hb3)
 have hz3:=hb3.size
 have hba:Below w3.heap.size w3 (w3.alloc (.cells #[fnV 113,fnV 114] 104)):=(zX _ _).alloc (zL _) _
 obtain ⟨w4,hw4⟩:∃ w4,w4=w3.alloc (.cells #[fnV 113,fnV 114] 104):=⟨_,rfl⟩
 have y0:w4.cell? ⟨w3.heap.size,0,none⟩=some (fnV 113):=by rw [hw4];simp
 have y1:w4.cell? ⟨w3.heap.size,1,none⟩=some (fnV 114):=by rw [hw4];simp
 have hz4:w4.heap.size=w3.heap.size+1:=by rw [hw4];simp
 rw [<- hw4] at hba
 have t4:=t3.trans (.calls t3.m hba)
 have hb24:=hb3.trans (hba.mono hz3)
 have hg4:=HG2.out.below hb24 (by omega)
 have hx4:=HX2.out.below hb24 (by omega)
 have HW4:=qz hw4
 have HT4:=qz t4
 clear g0 g1 g2 x0 x1 x2 x3 hb3 t3 hba hb24 hw4
 obtain ⟨g0,g1,g2⟩:=hg4
 obtain ⟨x0,x1,x2,x3⟩:=hx4
 obtain ⟨s0,s1,s2,s3⟩:=t4.m.stAt
 simp only [] at x0 x1 x2 x3 s0 s1 s2 s3
 clear t4
 go_wp2_with fail
 rw [<- HW4.out]
 have k0:Kept w4 w4:=Kept.refl _
 have hcall:∀ n:Held w4,Calls Tryz.prog 113 #[zam W H g,shV ⟨t,a1,n1,c1,a2,n2,c2,a3,n3,c3⟩,inpV ⟨6,xa,xb,xc⟩] n.V fun e V'=>e=.returned (.int .i64 code)/\∃ m:Held w4,V'=m.V:=fun n=>n.call (HCK.out _ (HT4.out.m.calls n.k))
 have C1:=qz hcall
 have hne:Nonempty (Held w4):=⟨⟨w4,k0⟩⟩
 have z1:∀ n:Held w4,n.V.cell? ⟨w.heap.size,0,none⟩=some (.int .i64 W):=fun n=>n.cell g0
 have z2:∀ n:Held w4,n.V.cell? ⟨w.heap.size,1,none⟩=some (.int .i64 H):=fun n=>n.cell g1
 have z3:∀ n:Held w4,n.V.cell? ⟨w.heap.size,2,none⟩=some (.string g):=fun n=>n.cell g2
 have z4:∀ n:Held w4,n.V.cell? ⟨w.heap.size+1,0,none⟩=some (.int .i64 6):=fun n=>n.cell x0
 have z5:∀ n:Held w4,n.V.cell? ⟨w.heap.size+1,1,none⟩=some (.int .i64 xa):=fun n=>n.cell x1
 have z6:∀ n:Held w4,n.V.cell? ⟨w.heap.size+1,2,none⟩=some (.int .i64 xb):=fun n=>n.cell x2
 have z7:∀ n:Held w4,n.V.cell? ⟨w.heap.size+1,3,none⟩=some (.int .i64 xc):=fun n=>n.cell x3
 have z8:∀ n:Held w4,n.V.cell? ⟨b,0,none⟩=some (.int .i64 t):=fun n=>n.cell s0
 have z9:∀ n:Held w4,n.V.cell? ⟨b,1,none⟩=some (.slice a1 n1 c1):=fun n=>n.cell s1
 have z10:∀ n:Held w4,n.V.cell? ⟨b,2,none⟩=some (.slice a2 n2 c2):=fun n=>n.cell s2
 have z11:∀ n:Held w4,n.V.cell? ⟨b,3,none⟩=some (.slice a3 n3 c3):=fun n=>n.cell s3
 have z12:∀ n:Held w4,n.V.cell? ⟨w3.heap.size,0,none⟩=some (fnV 113):=fun n=>n.cell y0
 have z13:∀ n:Held w4,n.V.cell? ⟨w3.heap.size,1,none⟩=some (fnV 114):=fun n=>n.cell y1
 clear g0 g1 g2 x0 x1 x2 x3 s0 s1 s2 s3 y0 y1 hcall
 refine zaz k0 (by kernel_rfl) (by kernel_rfl) ?_
 repeat (go_big_quiet_step ((go_at_call 113;with_reducible exact C1.out _)))
 refine wpQuiet_nil ?_
 rintro V ⟨n,rfl⟩
 have t5:=HT4.out.trans (.calls HT4.out.m n.k)
 have HT5:=qz t5
 have q0:=z4 n
 have q1:=z5 n
 have q2:=z6 n
 have q3:=z7 n
 have q4:=z13 n
 generalize n.V=V at t5 HT5 q0 q1 q2 q3 q4
 clear z1 z2 z3 z4 z5 z6 z7 z8 z9 z10 z11 z12 z13 hne k0 n HW4
 by_cases hz:code=0
 · have HC:=qz (HCH.out V t5.m hz)
   have HZ:=qz (HR0.out hz)
   clear HR0 HR1
   subst hz
   clear t5
   go_wp2_with fail
   refine HC.out.mono ?_
   rintro e w6 ⟨rfl,t6⟩
   go_wp2_with fail
   go_ret
   exact ⟨rfl,by rw [HZ.out];exact HT5.out.t.trans t6⟩
 · have e1:(code != 0)=true:=by simpa using hz
   have HE:=qz (HR1.out hz)
   clear HR0 HR1
   clear hz t5
   go_wp2_with fail
   go_ret
   refine ⟨rfl,?_⟩
   rw [HE.out]
   exact HT5.out.t
set_option maxHeartbeats 2000000 in
theorem apply_k0 (W H:Int)(g:ByteArray)(B b:Nat)(h:Sh)(s:St)(x:Inp)(w:World)(m:Mine w B b h s)(hk:¬ (1<=x.k/\x.k<=6)) :
 Calls Tryz.prog 37 #[zam W H g,.pointer (some ⟨b,0,none⟩),inpV x] w fun e w'=>e=.returned (.int .i64 3)/\Turns w B b s w':=by
 obtain ⟨w2,hw2,t2,hg2,hx2,hz2⟩:=gx_head m W H g x
 have HEF:=qz (effectOf_no x.k hk w2)
 have HT2:=qz t2
 have HW:=qz hw2
 clear hk m t2 hw2
 obtain ⟨g0,g1,g2⟩:=hg2
 obtain ⟨x0,x1,x2,x3⟩:=hx2
 obtain ⟨xk,xa,xb,xc⟩:=x
 simp only [] at x0 x1 x2 x3 HEF
 go_enter Tryz.func37,Tryz.ntmps37
 go_wp2_with fail
 rw [<- HW.out]
 refine HEF.out.mono ?_
 rintro e w3 ⟨rfl,hb3⟩
 have HT3:=qz (HT2.out.trans (.calls HT2.out.m (hb3.alloc (o:=.cells #[.nilFunc,.nilFunc] 104) hb3.size)))
 clear g0 g1 g2 x0 x1 x2 x3 hb3
 go_wp2_with fail
 go_ret
 exact ⟨rfl,HT3.out.t⟩
theorem apply_any (W H:Int)(g:ByteArray)(B b:Nat)(h:Sh)(s:St)(x:Inp)(w:World)(m:Mine w B b h s)(hg:g.size<=maxLen)(hr:RightP (zac (zaa g)) s)(hn:s.bl.length<=100000) :
 Calls Tryz.prog 37 #[zam W H g,.pointer (some ⟨b,0,none⟩),inpV x] w fun e w'=>e=.returned (.int .i64 (zbx (zac (zaa g)) s x))/\Turns w B b (zbt (zac (zaa g)) s x) w':=by
 unfold zbt
 by_cases h1:x.k=1
 · have e1:zbx (zac (zaa g)) s x=codeO (zac (zaa g)) s x:=by unfold zbx;rw [if_pos h1]
   have e2:turnS s x=turnO s x:=by unfold turnS;rw [if_pos h1]
   rw [e1,e2]
   exact apply_k1 W H g B b h s x w m hg hr hn h1
 by_cases h2:x.k=2
 · have e1:zbx (zac (zaa g)) s x=codeF s x:=by unfold zbx;rw [if_neg h1,if_pos h2]
   have e2:turnS s x=turnF s x:=by unfold turnS;rw [if_neg h1,if_pos h2]
   rw [e1,e2]
   exact apply_k2 W H g B b h s x w m hg hr hn h2
 by_cases h3:x.k=3
 · have e1:zbx (zac (zaa g)) s x=codeR s x:=by unfold zbx;rw [if_neg h1,if_neg h2,if_pos h3]
   have e2:turnS s x=turnR s x:=by unfold turnS;rw [if_neg h1,if_neg h2,if_pos h3]
   rw [e1,e2]
   exact apply_k3 W H g B b h s x w m hg hr hn h3
 by_cases h4:x.k=4
 · have e1:zbx (zac (zaa g)) s x=codeH s x:=by unfold zbx;rw [if_neg h1,if_neg h2,if_neg h3,if_pos h4]
   have e2:turnS s x=turnH s x:=by unfold turnS;rw [if_neg h1,if_neg h2,if_neg h3,if_pos h4]
   rw [e1,e2]
   exact apply_k4 W H g B b h s x w m hg hr hn h4
 by_cases h5:x.k=5
 · have e1:zbx (zac (zaa g)) s x=codeB (zac (zaa g)) s x:=by unfold zbx;rw [if_neg h1,if_neg h2,if_neg h3,if_neg h4,if_pos h5]
   have e2:turnS s x=turnB s x:=by unfold turnS;rw [if_neg h1,if_neg h2,if_neg h3,if_neg h4,if_pos h5]
   rw [e1,e2]
   exact apply_k5 W H g B b h s x w m hg hr hn h5
 by_cases h6:x.k=6
 · have e1:zbx (zac (zaa g)) s x=codeC (zac (zaa g)) s x:=by unfold zbx;rw [if_neg h1,if_neg h2,if_neg h3,if_neg h4,if_neg h5,if_pos h6]
   have e2:turnS s x=turnC s x:=by unfold turnS;rw [if_neg h1,if_neg h2,if_neg h3,if_neg h4,if_neg h5]
   rw [e1,e2]
   exact apply_k6 W H g B b h s x w m hg hr hn h6
 have e1:zbx (zac (zaa g)) s x=3:=by unfold zbx;rw [if_neg h1,if_neg h2,if_neg h3,if_neg h4,if_neg h5,if_neg h6]
 rw [e1,if_neg (by omega)]
 exact apply_k0 W H g B b h s x w m (by omega)
theorem gsxz_head (w:World)(W H:Int)(g:ByteArray)(h:Sh)(x:Inp) :
 ∃ w4,w4=(((w.alloc (zar W H g)).alloc (shO h)).alloc (inpO x 44)).alloc (shO ⟨0,none,0,0,none,0,0,none,0,0⟩)/\Below w.heap.size w w4/\w4.heap.size=w.heap.size+4/\GridAt w4 w.heap.size W H g/\StAt w4 (w.heap.size+1) h/\InpAt w4 (w.heap.size+1+1) x /\
   StAt w4 (w.heap.size+1+1+1) ⟨0,none,0,0,none,0,0,none,0,0⟩/\∀ i,w4.frozen? ⟨w.heap.size+1+1+1,i,none⟩=false:=by
 obtain ⟨u,hu,h1,z1,g1,s1,x1⟩:=gsx_head w W H g h x
 have h3:Below u.heap.size u (u.alloc (shO ⟨0,none,0,0,none,0,0,none,0,0⟩)):=(zX _ _).alloc (zL _) _
 have x3:=zbo u ⟨0,none,0,0,none,0,0,none,0,0⟩
 have f3:∀ i,(u.alloc (shO ⟨0,none,0,0,none,0,0,none,0,0⟩)).frozen? ⟨u.heap.size,i,none⟩=false:=fun i=>by simp
 rw [z1] at x3 f3
 exact ⟨_,by rw [hu],h1.trans (h3.mono (by omega)),by simp [z1],g1.below h3 (by omega),s1.below h3 (by omega),x1.below h3 (by omega),x3,f3⟩
theorem allS_more (fl:Int->Bool):∀ (l:List Inp) (s:St) (x:Inp),allS fl s (l++[x])=zbt fl (allS fl s l) x
 | [],_,_=>rfl
 | y :: l,s,x=>allS_more fl l (zbt fl s y) x
theorem codesS_more (fl:Int->Bool):∀ (l:List Inp) (s:St) (x:Inp),zbr fl s (l++[x])=zbr fl s l++[zbx fl (allS fl s l) x]
 | [],_,_=>rfl
 | y :: l,s,x=>by
   show zbx fl s y :: zbr fl (zbt fl s y) (l++[x])=_
   rw [codesS_more fl l (zbt fl s y) x]
   rfl
theorem codesS_len (fl:Int->Bool):∀ (l:List Inp) (s:St),(zbr fl s l).length=l.length
 | [],_=>rfl
 | y :: l,s=>by
   show (zbr fl (zbt fl s y) l).length+1=l.length+1
   rw [codesS_len fl l]
theorem all_right (fl:Int->Bool):∀ (l:List Inp) (s:St),RightP fl s->RightP fl (allS fl s l)
 | [],_,h=>h
 | y :: l,s,h=>all_right fl l (zbt fl s y) (apply_right h)
theorem apply_bl (fl:Int->Bool)(s:St)(x:Inp):(zbt fl s x).bl.length<=s.bl.length+1:=by
 unfold zbt
 split
 · unfold turnS
   repeat' split
   all_goals first
    | exact Nat.le_succ _
    | (show (insZ s.bl x.a).length<=_;unfold insZ;simp;omega)
    | (show (delZ s.bl x.a).length<=_;exact Nat.le_succ_of_le (del_sub s.bl x.a).length_le)
 · exact Nat.le_succ _
theorem all_bl (fl:Int->Bool):∀ (l:List Inp) (s:St),(allS fl s l).bl.length<=s.bl.length+l.length
 | [],s=>zL _
 | y :: l,s=>by
   have h1:=all_bl fl l (zbt fl s y)
   have h2:=apply_bl fl s y
   show (allS fl (zbt fl s y) l).bl.length<=s.bl.length+(l.length+1)
   omega
theorem info_errno:(Tryz.prog.info? 40).map (fun i=>(i.zero,i.size,i.bytes))=some (some (.int .i64 0),1,8):=by kernel_rfl
def ErrsZ (w:World)(B lb:Nat)(l:List Int):Prop:=w.ownsRow B 40 1 (.slice (some ⟨lb,0,none⟩) l.length l.length) l.length (zan l)
theorem ErrsZ.set {w:World}{B lb:Nat}{l:List Int}(h:ErrsZ w B lb l)(i:Nat)(z:Int):ErrsZ (w.setCell ⟨lb,i,none⟩ (.int .i64 z)) B lb (l.set i z):=by
 have:=(World.ownsRow.stored h i (.int .i64 z)).1
 unfold ErrsZ
 rw [List.length_set,<- intsZ_set]
 exact this
theorem ErrsZ.cell {w:World}{B lb i:Nat}{l:List Int}(h:ErrsZ w B lb l)(hi:i<l.length):w.cell? ⟨lb,i,none⟩=some (.int .i64 (l.getD i 0)) :=
 (World.ownsRow.cellAt h i (by omega)).trans (by simp [zan,List.getD,hi])
theorem errs_made (w:World)(N:Nat)(hN:N<=1000000):ErrsZ (w.alloc (.cells ⟨zan (List.replicate N 0)⟩ 40)) w.heap.size w.heap.size (List.replicate N 0):=by
 have:=World.ownsRow_lit (base:=w.heap.size) (e:=40) (size:=1) w ⟨zan (List.replicate N 0)⟩ N (zL _) (by unfold maxLen;omega) (by simp [zan])
 unfold ErrsZ
 rw [List.length_replicate]
 exact this
theorem make_errs (w:World)(N:Nat)(hN:N<=1000000):(Instr.makeSlice 32 (.int .i64 (N:Int)) (.int .i64 (N:Int))).run Tryz.prog w=.ok (.slice (some ⟨w.heap.size,0,none⟩) N N) (w.alloc (.cells ⟨zan (List.replicate N 0)⟩ 40)):=by
 obtain ⟨j0,hj0,hy0,hy1,hy2⟩:=info_parts info_errno
 have hmk:=run_make (P:=Tryz.prog) w 32 40 j0 (.int .i64 0) Tryz.underlying32 hj0 hy0 .i64 .i64 N N (by omega) (Int.le_refl _) (by rw [hy2];omega) (by omega)
 simp only [Int.toNat_natCast] at hmk
 rw [hy1] at hmk
 have hmc:(madeCells (Value.int .i64 0).cells (N*1))=⟨zan (List.replicate N 0)⟩:=by
  apply Array.ext'
  simp only [Value.cells]
  rw [Nat.mul_one,toList_madeCells_one]
  simp [zan]
 rw [hmc] at hmk
 exact hmk
theorem Mine.setE {w:World}{B b B' lb:Nat}{h:Sh}{s:St}{l:List Int}(m:Mine w B b h s)(he:ErrsZ w B' lb l)(hB:B<=B')(i:Nat)(v:Value):Mine (w.setCell ⟨lb,i,none⟩ v) B b h s/\Below B w (w.setCell ⟨lb,i,none⟩ v):=by
 have hg:=zaj w lb i v
 have hlb:(some b:Option Nat)≠some lb:=fun e=>zbb he m.o (by decide) (by rw [e];rfl)
 obtain ⟨hT,o1,o2,o3,e1,e2,e3⟩:=m.c
 exact ⟨⟨(hg.block b m.lt hlb).trans m.o,m.ge,⟨hT,World.ownsRow.kept o1 hg (zbu he o1 (by decide)),World.ownsRow.kept o2 hg (zbu he o2 (by decide)),World.ownsRow.kept o3 hg (zbu he o3 (by decide)),e1,e2,e3⟩⟩,(zX _ _).setCell (p:=⟨lb,i,none⟩) (Nat.le_trans hB (World.ownsRow.lt he lb rfl).1) v⟩
theorem ErrsZ.calls {w w':World}{B lb:Nat}{l:List Int}(h:ErrsZ w B lb l)(hb:Below w.heap.size w w'):ErrsZ w' B lb l:=zbp h hb (fun k hk=>(World.ownsRow.lt h k hk).2)
noncomputable def errL (fl:Int->Bool)(s:St)(l:List Inp)(k:Nat):List Int:=zbr fl s (l.take k)++List.replicate (l.length-k) 0
theorem errL_len (fl:Int->Bool)(s:St)(l:List Inp){k:Nat}(hk:k<=l.length):(errL fl s l k).length=l.length:=by
 unfold errL
 rw [List.length_append,codesS_len,List.length_take,List.length_replicate]
 omega
theorem errL_more (fl:Int->Bool)(s:St)(l:List Inp){k:Nat}(hk:k<l.length):(errL fl s l k).set k (zbx fl (allS fl s (l.take k)) (l.getD k zx))=errL fl s l (k+1):=by
 unfold errL
 have hl:(zbr fl s (l.take k)).length=k:=by rw [codesS_len,List.length_take];omega
 rw [take_x hk,codesS_more,List.set_append_right _ _ (by omega),hl,Nat.sub_self,show l.length-k=(l.length-(k+1))+1 by omega,List.replicate_succ,List.set_cons_zero]
 simp
theorem gsz_head (w:World)(W H:Int)(g:ByteArray)(h:Sh) :
 ∃ w3,w3=((w.alloc (zar W H g)).alloc (shO h)).alloc (shO ⟨0,none,0,0,none,0,0,none,0,0⟩)/\Below w.heap.size w w3/\w3.heap.size=w.heap.size+3/\GridAt w3 w.heap.size W H g/\StAt w3 (w.heap.size+1) h /\
   StAt w3 (w.heap.size+1+1) ⟨0,none,0,0,none,0,0,none,0,0⟩/\∀ i,w3.frozen? ⟨w.heap.size+1+1,i,none⟩=false:=by
 obtain ⟨u,hu,h1,z1,g1,s1⟩:=zbv w W H g h
 have h3:Below u.heap.size u (u.alloc (shO ⟨0,none,0,0,none,0,0,none,0,0⟩)):=(zX _ _).alloc (zL _) _
 have x3:=zbo u ⟨0,none,0,0,none,0,0,none,0,0⟩
 have f3:∀ i,(u.alloc (shO ⟨0,none,0,0,none,0,0,none,0,0⟩)).frozen? ⟨u.heap.size,i,none⟩=false:=fun i=>by simp
 rw [z1] at x3 f3
 exact ⟨_,by rw [hu],h1.trans (h3.mono (by omega)),by simp [z1],g1.below h3 (by omega),s1.below h3 (by omega),x3,f3⟩
set_option maxHeartbeats 2000000 in
theorem bigAll_own (W H:Int)(g:ByteArray)(h:Sh)(s:St)(a:Option Addr)(n c:Nat)(l:List Inp)(B:Nat)(w:World)(hg:g.size<=maxLen)(hin:StIn w B h s)(hl:RowI w B a n c l)(hB:B<=w.heap.size)(hr:RightP (zac (zaa g)) s)(hn:s.bl.length<=90000)(hn2:n<=1000) :
 Calls Tryz.prog 16 #[zam W H g,shV h,.slice a n c] w fun e w'=>∃ h' cb,e=.returned (.tuple #[shV h',.slice (some ⟨cb,0,none⟩) n n])/\CopyIn w' w.heap.size h' (allS (zac (zaa g)) s l)/\ErrsZ w' w.heap.size cb (zbr (zac (zaa g)) s l)/\Below w.heap.size w w':=by
 obtain ⟨w3,hw3,hB3,hz3,hg3,hs3,hr3,hf3⟩:=gsz_head w W H g h
 have hrn:=hr.rn
 have htn:=hr.tn
 have h1:=hin.rs.1
 have h2:=hin.ts.1
 have h3:=hin.bl.1
 have HCP:=qz (copy_any h s w.heap.size w3 ((hin.mono hB).below hB3) (by omega) (by omega) (by omega) (by omega))
 have hln:=hl.1
 obtain ⟨fl,hfl⟩:∃ fl,zac (zaa g)=fl:=⟨_,rfl⟩
 have HAP:=qz fun (V:World) (b:Nat) (h':Sh) (k:Nat) (x:Inp) (m:Mine V w3.heap.size b h' (allS fl s (l.take k)))=>apply_any W H g w3.heap.size b h' (allS fl s (l.take k)) x V m hg (by rw [hfl] at hr ⊢;exact all_right fl _ _ hr) (by have:=all_bl fl (l.take k) s;rw [List.length_take] at this;omega)
 rw [hfl] at HAP ⊢
 have HW:=qz hw3
 have HB3:=qz hB3
 have HG3:=qz hg3
 have HR3:=qz hr3
 have HF3:=qz hf3
 have HL:=qz (hl.mono hB)
 have HLN:=qz hln
 have HMK:=qz fun (V:World)=>make_errs V n (by omega)
 have hc1:=hl.2.1
 have hc2:=hl.2.2.1
 unfold maxLen at hc2
 clear hw3 hB3 hg3 hr3 hf3 hr hn hin hg h1 h2 h3 hrn htn hfl hl hln
 obtain ⟨t,a1,n1,c1,a2,n2,c2,a3,n3,c3⟩:=h
 obtain ⟨s0,s1,s2,s3⟩:=hs3
 simp only [] at s0 s1 s2 s3
 go_enter Tryz.func16,Tryz.ntmps16
 go_wp2_with fail
 rw [<- HW.out]
 refine HCP.out.mono ?_
 rintro e w5 ⟨h1,rfl,hc5,hb5⟩
 have hba:Below w5.heap.size w5 (w5.alloc (shO h1)):=(zX _ _).alloc (zL _) _
 have hm6:Mine (w5.alloc (shO h1)) w3.heap.size w5.heap.size h1 s :=
  ⟨heap_alloc_new w5 _,hb5.size,⟨hc5.tick,hc5.rs.calls hba,hc5.ts.calls hba,zbp hc5.bl hba (fun k hk=>(World.ownsRow.lt hc5.bl k hk).2),hc5.n1,hc5.n2,hc5.n3⟩⟩
 have hz5:=hb5.size
 obtain ⟨w6,hw6⟩:∃ w6,w6=w5.alloc (shO h1):=⟨_,rfl⟩
 rw [<- hw6] at hba hm6
 have HW6:=qz hw6
 have HM6:=qz hm6
 have hz6:w6.heap.size=w5.heap.size+1:=by rw [hw6];simp
 have HB36:=qz (hb5.trans (hba.mono hz5))
 have hmk:(Instr.makeSlice 32 (.int .i64 (n:Int)) (.int .i64 (n:Int))).run Tryz.prog (w5.alloc (.cells #[.int .i64 h1.t,.slice h1.a1 h1.n1 h1.c1,.slice h1.a2 h1.n2 h1.c2,.slice h1.a3 h1.n3 h1.c3] 28))=.ok (.slice (some ⟨w5.heap.size+1,0,none⟩) n n) (w6.alloc (.cells ⟨zan (List.replicate n 0)⟩ 40)):=by
  have:=HMK.out w6
  rw [hz6] at this
  rw [hw6] at this ⊢
  exact this
 have hb7:Below w6.heap.size w6 (w6.alloc (.cells ⟨zan (List.replicate n 0)⟩ 40)):=(zX _ _).alloc (zL _) _
 have he7:=errs_made w6 n (by omega)
 have hz7:(w6.alloc (.cells ⟨zan (List.replicate n 0)⟩ 40)).heap.size=w5.heap.size+2:=by simp [hz6]
 generalize w6.alloc (.cells ⟨zan (List.replicate n 0)⟩ 40)=w7 at hmk hb7 he7 hz7
 rw [hz6] at he7
 have hb37:=HB36.out.trans (hb7.mono HB36.out.size)
 have HE7:Hid (ErrsZ w7 w3.heap.size (w5.heap.size+1) (errL fl s l 0)):=by
  have e:errL fl s l 0=List.replicate n 0:=by unfold errL;rw [HLN.out];simp [zbr]
  unfold Hid
  rw [e]
  refine ⟨he7.1,?_⟩
  rcases he7.2 with h|⟨g,cap,cur,hv,hb,r⟩
  · exact .inl h
  · exact .inr ⟨g,cap,cur,hv,by omega,r⟩
 have HM7:Hid (Mine w7 w3.heap.size w5.heap.size h1 (allS fl s (l.take 0))):=HM6.out.calls hb7
 have HB7:=qz hb37
 clear hw6 hba hb5 hc5 HCP hm6 HMK s0 s1 s2 s3 hb7 he7 HM6 HB36 hb37
 go_wp2_with fail
 go_loopw [19] (fun i wr=>∃ (k:Nat) (hk:Sh),k<=n/\i=.int .i64 k/\Hid (Mine wr w3.heap.size w5.heap.size hk (allS fl s (l.take k)))/\Hid (ErrsZ wr w3.heap.size (w5.heap.size+1) (errL fl s l k))/\Hid (Below w3.heap.size w3 wr)) (fun i _=>n-(intOf i).toNat)
 case atStart=>exact ⟨0,_,Nat.zero_le _,rfl,HM7,HE7,HB7⟩
 case round =>
  obtain ⟨k,hk,hkn,rfl,HM,HE,HBR⟩:=hrel
  by_cases hlt:k<n
  · obtain ⟨bi,off,rfl,hbi,hcs⟩:=HL.out.2.2.2 (by omega)
    have hbw:=HB3.out.trans (HBR.out.mono (by omega))
    obtain ⟨p1,p2,p3,p4⟩:=hcs k hlt
    have i1:=(hbw.cell (p:=⟨bi,off+k*4,none⟩) hbi).trans p1
    have i2:=(hbw.cell (p:=⟨bi,off+k*4+1,none⟩) hbi).trans p2
    have i3:=(hbw.cell (p:=⟨bi,off+k*4+2,none⟩) hbi).trans p3
    have i4:=(hbw.cell (p:=⟨bi,off+k*4+3,none⟩) hbi).trans p4
    have hzr:=HBR.out.size
    have hwr:w.heap.size<wr.heap.size:=by omega
    have hbiw:bi<wr.heap.size:=by omega
    have hg:=HG3.out.below HBR.out (by omega)
    obtain ⟨g0,g1,g2⟩:=hg
    obtain ⟨x,hx⟩:∃ x,l.getD k zx=x:=⟨_,rfl⟩
    have HX:=qz hx
    rw [hx] at i1 i2 i3 i4
    have hba:Below wr.heap.size wr (wr.alloc (inpO x 44)):=(zX _ _).alloc (zL _) _
    obtain ⟨wq,hwq⟩:∃ wq,wq=wr.alloc (inpO x 44):=⟨_,rfl⟩
    rw [<- hwq] at hba
    have HWQ:=qz hwq
    have HMQ:=qz (HM.out.calls hba)
    have HEQ:=qz (HE.out.calls hba)
    have HBQ:=qz (HBR.out.trans (hba.mono hzr))
    have HA:=qz (HAP.out wq w5.heap.size hk k x HMQ.out)
    have HCD:Hid (errL fl s l (k+1)=(errL fl s l k).set k (zbx fl (allS fl s (l.take k)) x)):=by
     unfold Hid
     rw [<- HX.out]
     exact (errL_more fl s l (by rw [HLN.out];exact hlt)).symm
    have HAD:Hid (allS fl s (l.take (k+1))=zbt fl (allS fl s (l.take k)) x):=by
     unfold Hid
     rw [take_x (by rw [HLN.out];exact hlt),allS_more,HX.out]
    have HEL:=qz (errL_len fl s l (k:=k) (by rw [HLN.out];exact hkn))
    generalize zbx fl (allS fl s (l.take k)) x=code at HA HCD
    generalize zbt fl (allS fl s (l.take k)) x=after at HA HAD
    obtain ⟨xk,xa,xb,xc⟩:=x
    simp only [] at i1 i2 i3 i4
    clear hcs p1 p2 p3 p4 hbw hba hwq hx HM HE
    go_wp2_with fail
    rw [<- HWQ.out]
    refine HA.out.mono ?_
    rintro e w8 ⟨rfl,t8⟩
    obtain ⟨h8,m8⟩:=t8.m
    have he8:ErrsZ w8 w3.heap.size (w5.heap.size+1) (errL fl s l k):=t8.p.own HEQ.out (by decide) (by decide) (by decide) (by decide)
    have hb8:=HBQ.out.trans t8.k
    have c8:=he8.cell (i:=k) (by rw [HEL.out,HLN.out];exact hlt)
    have f8:=World.ownsRow.frozenAt he8 k
    obtain ⟨m9,b9⟩:=m8.setE he8 (zL _) k (.int .i64 code)
    have HE9:Hid (ErrsZ (w8.setCell ⟨w5.heap.size+1,k,none⟩ (.int .i64 code)) w3.heap.size (w5.heap.size+1) (errL fl s l (k+1))):=by
     unfold Hid
     rw [HCD.out]
     exact he8.set k code
    have HM9:Hid (Mine (w8.setCell ⟨w5.heap.size+1,k,none⟩ (.int .i64 code)) w3.heap.size w5.heap.size h8 (allS fl s (l.take (k+1)))):=by
     unfold Hid
     rw [HAD.out]
     exact m9
    have HB9:=qz (hb8.trans b9)
    generalize (errL fl s l k).getD k 0=old at c8
    clear t8 m8 he8 hb8 m9 b9 g0 g1 g2 i1 i2 i3 i4 HA HMQ HEQ
    go_wp2_with fail
    go_roundw
    case rel=>exact ⟨k+1,h8,by omega,by go_num,HM9,HE9,HB9⟩
    case measure=>simp [intOf];omega
  · have hkk:k=n:=by omega
    subst hkk
    have hb:=HBR.out
    have hst:=HM.out.stAt
    obtain ⟨q0,q1,q2,q3⟩:=HR3.out.below hb (by omega)
    have f0:=(hb.frozen (p:=⟨w.heap.size+1+1,0,none⟩) (show w.heap.size+1+1<w3.heap.size by omega)).trans (HF3.out 0)
    have f1:=(hb.frozen (p:=⟨w.heap.size+1+1,1,none⟩) (show w.heap.size+1+1<w3.heap.size by omega)).trans (HF3.out 1)
    have f2:=(hb.frozen (p:=⟨w.heap.size+1+1,2,none⟩) (show w.heap.size+1+1<w3.heap.size by omega)).trans (HF3.out 2)
    have f3:=(hb.frozen (p:=⟨w.heap.size+1+1,3,none⟩) (show w.heap.size+1+1<w3.heap.size by omega)).trans (HF3.out 3)
    simp only [] at q0 q1 q2 q3
    obtain ⟨t',b1,m1,d1,b2,m2,d2,b3,m3,d3⟩:=hk
    obtain ⟨s0,s1,s2,s3⟩:=hst
    simp only [] at s0 s1 s2 s3
    have hsr:=zcg q0 q1 q2 q3 ⟨t',b1,m1,d1,b2,m2,d2,b3,m3,d3⟩
    have HLT:Hid (l.take k=l):=List.take_of_length_le (by rw [HLN.out];exact zL _)
    have HC:Hid (CopyIn ((((wr.setCell ⟨w.heap.size+1+1,0,none⟩ (.int .i64 t')).setCell ⟨w.heap.size+1+1,1,none⟩ (.slice b1 m1 d1)).setCell ⟨w.heap.size+1+1,2,none⟩ (.slice b2 m2 d2)).setCell ⟨w.heap.size+1+1,3,none⟩ (.slice b3 m3 d3)) w.heap.size ⟨t',b1,m1,d1,b2,m2,d2,b3,m3,d3⟩ (allS fl s l)):=by
     obtain ⟨c0,o1,o2,o3,e1,e2,e3⟩:=HM.out.c
     rw [HLT.out] at c0 o1 o2 o3 e1 e2 e3
     exact ⟨c0,OwnR.mono (zbc o1 (show w.heap.size+1+1<w3.heap.size by omega) _ _ _ _) (by omega),OwnR.mono (zbc o2 (show w.heap.size+1+1<w3.heap.size by omega) _ _ _ _) (by omega),OwnZ.mono (zbc o3 (show w.heap.size+1+1<w3.heap.size by omega) _ _ _ _) (by omega),e1,e2,e3⟩
    have HEF:Hid (ErrsZ ((((wr.setCell ⟨w.heap.size+1+1,0,none⟩ (.int .i64 t')).setCell ⟨w.heap.size+1+1,1,none⟩ (.slice b1 m1 d1)).setCell ⟨w.heap.size+1+1,2,none⟩ (.slice b2 m2 d2)).setCell ⟨w.heap.size+1+1,3,none⟩ (.slice b3 m3 d3)) w3.heap.size (w5.heap.size+1) (zbr fl s l)):=by
     have e:errL fl s l k=zbr fl s l:=by unfold errL;rw [HLT.out,HLN.out];simp
     have h9:=HE.out
     rw [e] at h9
     exact zbc h9 (show w.heap.size+1+1<w3.heap.size by omega) _ _ _ _
    have HBF:=qz (zah (HB3.out.trans (hb.mono (by omega))) (show w.heap.size<=w.heap.size+1+1 by omega) (.int .i64 t') (.slice b1 m1 d1) (.slice b2 m2 d2) (.slice b3 m3 d3))
    clear hb HM HE HBR
    go_wp2_with fail
    generalize ((((wr.setCell { block:=w.heap.size+1+1,off:=0 } (Value.int IntKind.i64 t')).setCell { block:=w.heap.size+1+1,off:=1 } (Value.slice b1 m1 d1)).setCell { block:=w.heap.size+1+1,off:=2 } (Value.slice b2 m2 d2)).setCell { block:=w.heap.size+1+1,off:=3 } (Value.slice b3 m3 d3))=V at hsr HC HBF HEF
    obtain ⟨r0,r1,r2,r3⟩:=hsr
    simp only [] at r0 r1 r2 r3
    refine bodyPost_ret (v:=.tuple #[shV ⟨t',b1,m1,d1,b2,m2,d2,b3,m3,d3⟩,.slice (some ⟨w5.heap.size+1,0,none⟩) k k]) (by simp [results,Tryz.results16,go_sem,r0,r1,r2,r3]) rfl ⟨_,_,rfl,HC.out,?_,HBF.out⟩
    refine ⟨HEF.out.1,?_⟩
    rcases HEF.out.2 with h2|⟨g',cap,cur,hv,hb,r⟩
    · exact .inl h2
    · exact .inr ⟨g',cap,cur,hv,by omega,r⟩
end Go.Proofs.YtknnnbpgkfaapaaGreat.Vm
namespace Go.Proofs.YtknnnbpgkfaapaaGreat.Vm
open Go Go.RowKit
set_option maxHeartbeats 1000000 in
theorem rcodes_same (a1 a2:Option Addr)(n1 c1 n2 c2 B1 B2:Nat)(l:List Int)(w:World)(h1:RowZ .i64 w B1 a1 n1 c1 l)(h2:RowZ .i64 w B2 a2 n2 c2 l)(hB1:B1<=w.heap.size)(hB2:B2<=w.heap.size) :
 Calls Tryz.prog 9 #[.slice a1 n1 c1,.slice a2 n2 c2] w fun e w'=>e=.returned (.bool true)/\Below w.heap.size w w':=by
 have hn:n1=n2:=h1.1.symm.trans h2.1
 subst hn
 have HC1:=qz (h1.mono hB1).cells
 have HC2:=qz (h2.mono hB2).cells
 have hnm:=Nat.le_trans h1.2.1 h1.2.2.1
 unfold maxLen at hnm
 clear h1 h2
 have e0:((n1:Int) != (n1:Int))=false:=by simp
 go_enter Tryz.func9,Tryz.ntmps9
 go_wp2_with fail
 go_loopw [5] (fun i wr=>∃ k:Nat,k<=n1/\i=.int .i64 k/\Below w.heap.size w wr) (fun i _=>n1-(intOf i).toNat)
 case atStart=>exact ⟨0,Nat.zero_le _,rfl,zX _ _⟩
 case round =>
  obtain ⟨k,hk,rfl,hbel⟩:=hrel
  by_cases hlt:k<n1
  · obtain ⟨b,off,rfl,hb,hcs⟩:=HC1.out (by omega)
    obtain ⟨b',off',rfl,hb',hcs'⟩:=HC2.out (by omega)
    have hcell:=(hbel.cell (p:=⟨b,off+k,none⟩) hb).trans (hcs k hlt)
    have hcell':=(hbel.cell (p:=⟨b',off'+k,none⟩) hb').trans (hcs' k hlt)
    generalize l.getD k 0=y at hcell hcell'
    have hk0:(0:Int)<=(k:Int):=by omega
    have hk1:(k:Int)<(n1:Int):=by omega
    have hz:=hbel.size
    have hbr:b<wr.heap.size:=by omega
    have hbr':b'<wr.heap.size:=by omega
    have e1:(y != y)=false:=by simp
    have HB:=qz hbel
    clear hcs hcs' hbel
    go_wp2_with fail
    go_quiet (fail)
    go_wp2_with fail
    go_roundw
    case rel=>exact ⟨k+1,by omega,by go_num,zaf HB.out _⟩
    case measure=>simp [intOf];omega
  · have hkn:k=n1:=by omega
    subst hkn
    have HB:=qz hbel
    clear hlt hbel
    go_wp2_with fail
    go_ret
    exact ⟨by first|rfl|trivial,HB.out⟩
end Go.Proofs.YtknnnbpgkfaapaaGreat.Vm
