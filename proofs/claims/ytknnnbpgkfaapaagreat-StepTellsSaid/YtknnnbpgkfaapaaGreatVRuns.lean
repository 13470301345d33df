import Derived.Test.YtknnnbpgkfaapaaGreatQ
import Derived.Test.YtknnnbpgkfaapaaGreatVRefSteps
import Derived.Test.YtknnnbpgkfaapaaGreatVSteps
import Derived.Test.YtknnnbpgkfaapaaGreatVCopies0
import Derived.Test.YtknnnbpgkfaapaaGreatVOpenInputs
import Derived.Deep.RegionHeld3
import Derived.Deep.RegionWith
import Derived.Deep.CutRange
import Derived.Deep.CutBlock
set_option maxRecDepth 100000
set_option linter.unusedSimpArgs false
set_option linter.unusedVariables false
namespace Go.Proofs.YtknnnbpgkfaapaaGreat.Vm
open Go Go.RowKit
def SaysRun (f:Nat):Prop:=∀ (W H:Int) (g:ByteArray) (h:Sh) (s:St) (a:Option Addr) (n c:Nat) (ls:List (List Inp)) (w:World),Okay W H g->StIn w w.heap.size h s->RowLI w w.heap.size a n c ls->RightP (zac (zaa g)) s->s.tick<2147400000->s.rs.length<=100->s.bl.length<=200->n<=6->(∀ i,i<n->(ls.getD i []).length<=20) ->
 Calls Tryz.prog f #[zam W H g,shV h,.slice a n c] w fun e w'=>∃ h',e=.returned (shV h')/\StIn w' w'.heap.size h' (runG W H (zaa g) s ls)/\Below w.heap.size w w'
theorem runG_snoc (W H:Int)(l:List Nat):∀ (xs:List (List Inp)) (s:St) (y:List Inp),runG W H l s (xs++[y])=stepG W H l (runG W H l s xs) y
 | [],_,_=>rfl
 | x :: xs,s,y=>runG_snoc W H l xs (stepG W H l s x) y
theorem run_take {W H:Int}{l:List Nat}{s:St}{ls:List (List Inp)}{k:Nat}(hk:k<ls.length):runG W H l s (ls.take (k+1))=stepG W H l (runG W H l s (ls.take k)) (ls.getD k []):=by
 rw [List.take_succ_eq_append_getElem hk,runG_snoc]
 congr 1
 simp [List.getD,hk]
theorem run_facts {W H:Int}{l:List Nat}{s:St}{ls:List (List Inp)}(hr:RightP (zac l) s)(ht:s.tick<2147400000)(hl:ls.length<=6)(hs:∀ i,i<ls.length->(ls.getD i []).length<=20):∀ k,k<=ls.length ->
 RightP (zac l) (runG W H l s (ls.take k))/\(runG W H l s (ls.take k)).tick=s.tick+(k:Nat)/\(runG W H l s (ls.take k)).rs.length=s.rs.length/\(runG W H l s (ls.take k)).bl.length<=s.bl.length+20*k
 | 0,_=>by
   rw [List.take_zero]
   exact ⟨hr,by show s.tick=s.tick+((0:Nat):Int);omega,rfl,zL _⟩
 | k+1,hk=>by
   obtain ⟨h1,h2,h3,h4⟩:=run_facts (W:=W) (H:=H) hr ht hl hs k (by omega)
   rw [run_take (by omega)]
   have hq:=hs k (by omega)
   obtain ⟨r1,r2,r3⟩:=step_rlt (W:=W) (H:=H) (ins:=ls.getD k []) h1
   exact ⟨step_right h1 (by rw [h2];omega),by rw [r2,h2];omega,by rw [r1,h3],by omega⟩
set_option maxHeartbeats 2000000 in
theorem prun_any:SaysRun 11:=by
 intro W H g h s a n c ls w hok hin hri hrp htk hrn hbn hnn h20
 obtain ⟨w2,hw2,hB2,hs2z,hg2,hs2⟩:=zbv w W H g h
 obtain ⟨w3,hw3⟩:∃ w3,w3=w2.alloc (shO ⟨0,none,0,0,none,0,0,none,0,0⟩):=⟨_,rfl⟩
 have hb3:Below w2.heap.size w2 w3:=by rw [hw3];exact (zX _ _).alloc (zL _) _
 have hz3:w3.heap.size=w.heap.size+3:=by rw [hw3];simp [hs2z]
 have hq3:w3.heap[w.heap.size+2]?=some (shO ⟨0,none,0,0,none,0,0,none,0,0⟩):=by rw [hw3,<- hs2z];exact heap_alloc_new w2 _
 have hh3:w3.heap[w.heap.size+1]?=some (shO h):=by
  have e:w3=((w.alloc (zar W H g)).alloc (shO h)).alloc (shO ⟨0,none,0,0,none,0,0,none,0,0⟩):=by rw [hw3,hw2]
  rw [e]
  exact ((zX _ ((w.alloc (zar W H g)).alloc (shO h))).alloc (zL _) _ |>.block (w.heap.size+1) (by simp)).trans (zbk (w.alloc (zar W H g)) _ (by simp))
 have hB3:=hB2.trans (hb3.mono (by omega))
 have hll:ls.length=n:=hri.1
 have HCP:=qz (copy_any h s w.heap.size w3 (hin.below hB3) (by omega) (by rw [<- hin.rs.1];omega) (by rw [<- hin.ts.1];have:=hrp.tn;omega) (by rw [<- hin.bl.1];omega))
 have HF:=qz fun k (hk:k<=ls.length)=>run_facts (W:=W) (H:=H) hrp htk (by omega) (by rw [hll];exact h20) k hk
 have HST:=qz fun (k:Nat) (hk:k<ls.length) (h':Sh) (ai:Option Addr) (ni ci:Nat) (V:World) (hV:StIn V V.heap.size h' (runG W H (zaa g) s (ls.take k))) (hI:RowI V V.heap.size ai ni ci (ls.getD k [])) =>
  pstep_any W H g h' (runG W H (zaa g) s (ls.take k)) ai ni ci (ls.getD k []) V hok hV hI (HF.out k (by omega)).1 (by rw [(HF.out k (by omega)).2.1];omega) (by rw [(HF.out k (by omega)).2.2.1];exact hrn) (by have:=(HF.out k (by omega)).2.2.2;omega) (by have:=h20 k (by omega);rw [<- hI.1];omega)
 have HG3:=qz (hg2.below hb3 (by omega))
 have HQ3:=qz hq3
 have HB3:=qz hB3
 have HH3:=qz hh3
 have HRL:=qz hri
 have hnc:=hri.2.1
 have hcm:=hri.2.2.1
 unfold maxLen at hcm
 have HLL:=qz hll
 have HW3:Hid (w3=((w.alloc (zar W H g)).alloc (shO h)).alloc (shO ⟨0,none,0,0,none,0,0,none,0,0⟩)):=by unfold Hid;rw [hw3,hw2]
 have HRT:=qz fun (k:Nat) (hk:k<ls.length)=>run_take (W:=W) (H:=H) (l:=zaa g) (s:=s) hk
 obtain ⟨s0,s1,s2,s3⟩:=zai hh3
 obtain ⟨t,a1,n1,c1,a2,n2,c2,a3,n3,c3⟩:=h
 simp only [] at s0 s1 s2 s3
 rw [HW3.out] at s0 s1 s2 s3
 have hzz3:w3.heap.size=w.heap.size+3:=by omega
 clear hw2 hB2 hg2 hs2 hw3 hb3 hq3 hB3 hrp hok hin hs2z hri hz3 hh3 htk hll h20
 go_enter Tryz.func11,Tryz.ntmps11
 go_wp2_with fail
 rw [<- HW3.out]
 clear s0 s1 s2 s3
 refine HCP.out.mono ?_
 rintro e w4 ⟨h1,rfl,hc4,hb4⟩
 have hz4:=hb4.size
 have hh4:=(hb4.block (w.heap.size+1) (by omega)).trans HH3.out
 obtain ⟨y0,y1,y2,y3⟩:=zai hh4
 have f0:=zao hh4 0
 have f1:=zao hh4 1
 have f2:=zao hh4 2
 have f3:=zao hh4 3
 simp only [] at y0 y1 y2 y3
 obtain ⟨w5,hw5⟩:∃ w5,w5=(((w4.setCell ⟨w.heap.size+1,0,none⟩ (.int .i64 h1.t)).setCell ⟨w.heap.size+1,1,none⟩ (.slice h1.a1 h1.n1 h1.c1)).setCell ⟨w.heap.size+1,2,none⟩ (.slice h1.a2 h1.n2 h1.c2)).setCell ⟨w.heap.size+1,3,none⟩ (.slice h1.a3 h1.n3 h1.c3):=⟨_,rfl⟩
 have hc5:Copy0 w5 w3.heap.size h1 s:=by
  have q:=hc4.zero
  rw [hw5];exact ⟨q.tick,zap q.rs (by omega) _ _ _ _,zap q.ts (by omega) _ _ _ _,zbh q.bl (by omega) _ _ _ _,q.n1,q.n2,q.n3⟩
 have hh5:w5.heap[w.heap.size+1]?=some (shO h1):=by rw [hw5];exact shO_set4 hh4
 have hb5:Below (w.heap.size+1) w4 w5:=by rw [hw5];exact zah (zX _ _) (zL _) _ _ _ _
 have hz5:w4.heap.size<=w5.heap.size:=hb5.size
 have HQ5:=qz (show w5.heap[w.heap.size+2]?=some (shO ⟨0,none,0,0,none,0,0,none,0,0⟩) by
  rw [hw5]
  exact zax (zax (zax (zax ((hb4.block (w.heap.size+2) (by omega)).trans HQ3.out) (by omega)) (by omega)) (by omega)) (by omega))
 have hbk:Below (w.heap.size+1) w3 w5:=(hb4.mono (by omega)).trans hb5
 have HB5:=qz (HB3.out.trans (hbk.mono (by omega)))
 have HG5:=qz (HG3.out.below hbk (by omega))
 have HS5:=qz hc5
 have HH5:=qz hh5
 have HW5:=qz hw5
 obtain ⟨t1,a11,n11,c11,a12,n12,c12,a13,n13,c13⟩:=h1
 simp only [] at hw5
 clear hc4 hb4 hh4 hw5 hc5 hh5 hb5 hbk HCP
 go_wp2_with fail
 rw [<- HW5.out]
 clear y0 y1 y2 y3 f0 f1 f2 f3
 go_loopw [13] (fun v V=>∃ (k:Nat) (hk:Sh),k<=n/\v=.int .i64 (k:Nat)/\Hid (V.heap[w.heap.size+1]?=some (shO hk))/\Hid (Copy0 V w3.heap.size hk (runG W H (zaa g) s (ls.take k)))/\Hid (GridAt V w.heap.size W H g)/\Hid (V.heap[w.heap.size+2]?=some (shO ⟨0,none,0,0,none,0,0,none,0,0⟩))/\Hid (Below w.heap.size w V)/\w3.heap.size<=V.heap.size) (fun v _=>n-(intOf v).toNat)
 case atStart=>exact ⟨0,⟨t1,a11,n11,c11,a12,n12,c12,a13,n13,c13⟩,Nat.zero_le _,rfl,HH5.out,by rw [List.take_zero];exact HS5.out,HG5.out,HQ5.out,HB5.out,by omega⟩
 case round =>
  obtain ⟨k,hk,hkn,rfl,HX,HS,HG,HQ,HB,hz⟩:=hrel
  obtain ⟨x0,x1,x2,x3⟩:=zai HX.out
  obtain ⟨u,b1,m1,d1,b2,m2,d2,b3,m3,d3⟩:=hk
  simp only [] at x0 x1 x2 x3
  by_cases hlt:k<n
  · have hki:(k:Int)<(n:Int):=by omega
    obtain ⟨lb,lo,rfl,hlb,hlc⟩:=(HRL.out.below HB.out).cells (by omega)
    obtain ⟨ai,ni,ci,p0,hI⟩:=hlc k hlt
    have HC:=HST.out k (by rw [HLL.out];exact hlt) ⟨u,b1,m1,d1,b2,m2,d2,b3,m3,d3⟩ ai ni ci wr HS.out.stIn (hI.mono HB.out.size)
    rw [<- HRT.out k (by rw [HLL.out];exact hlt)] at HC
    have HC:=qz HC
    obtain ⟨g0,g1,g2⟩:=HG.out
    clear hI hlc
    go_wp2_with fail
    refine HC.out.mono ?_
    rintro e w6 ⟨h2,c1',c2',a3',n3',c3',rfl,hc6,_,_,_,hb6⟩
    have hz6:=hb6.size
    have hh6:=(hb6.block (w.heap.size+1) (by omega)).trans HX.out
    have hq6:=(hb6.block (w.heap.size+2) (by omega)).trans HQ.out
    clear x0 x1 x2 x3 p0 g0 g1 g2
    obtain ⟨y0,y1,y2,y3⟩:=zai hh6
    have f0:=zao hh6 0
    have f1:=zao hh6 1
    have f2:=zao hh6 2
    have f3:=zao hh6 3
    simp only [] at y0 y1 y2 y3
    obtain ⟨w7,hw7⟩:∃ w7,w7=(((w6.setCell ⟨w.heap.size+1,0,none⟩ (.int .i64 h2.t)).setCell ⟨w.heap.size+1,1,none⟩ (.slice h2.a1 h2.n1 h2.c1)).setCell ⟨w.heap.size+1,2,none⟩ (.slice h2.a2 h2.n2 h2.c2)).setCell ⟨w.heap.size+1,3,none⟩ (.slice h2.a3 h2.n3 h2.c3):=⟨_,rfl⟩
    have hc7:Copy0 w7 w3.heap.size h2 (runG W H (zaa g) s (ls.take (k+1))):=by
     have q:=Copy0.mono hc6 hz
     rw [hw7];exact ⟨q.tick,zap q.rs (by omega) _ _ _ _,zap q.ts (by omega) _ _ _ _,zbh q.bl (by omega) _ _ _ _,q.n1,q.n2,q.n3⟩
    have hh7:w7.heap[w.heap.size+1]?=some (shO h2):=by rw [hw7];exact shO_set4 hh6
    have hb7:Below (w.heap.size+1) w6 w7:=by rw [hw7];exact zah (zX _ _) (zL _) _ _ _ _
    have hz7:w6.heap.size<=w7.heap.size:=hb7.size
    have hq7:w7.heap[w.heap.size+2]?=some (shO ⟨0,none,0,0,none,0,0,none,0,0⟩):=by
     rw [hw7]
     exact zax (zax (zax (zax hq6 (by omega)) (by omega)) (by omega)) (by omega)
    have hbk:Below (w.heap.size+1) wr w7:=(hb6.mono (by omega)).trans hb7
    have HB7:=qz (HB.out.trans (hbk.mono (by omega)))
    have HG7:=qz (HG.out.below hbk (by omega))
    have HW7:=qz hw7
    have HC7:=qz hc7
    have HH7:=qz hh7
    have HQ7:=qz hq7
    obtain ⟨t2,a21,n21,c21,a22,n22,c22,a23,n23,c23⟩:=h2
    simp only [] at hw7
    have hz37:w3.heap.size<=w7.heap.size:=by omega
    clear hc6 hb6 hh6 hq6 hw7 hc7 hh7 hb7 hq7 hbk HC
    go_wp2_with fail
    rw [<- HW7.out]
    clear y0 y1 y2 y3 f0 f1 f2 f3
    go_roundw
    case rel=>exact ⟨k+1,⟨t2,a21,n21,c21,a22,n22,c22,a23,n23,c23⟩,by omega,by go_num,HH7.out,HC7.out,HG7.out,HQ7.out,HB7.out,hz37⟩
    case measure=>simp [intOf];omega
  · obtain rfl:k=n:=by omega
    have HTA:Hid (ls.take k=ls):=List.take_of_length_le (by rw [HLL.out];exact zL _)
    obtain ⟨q0,q1,q2,q3⟩:=zai HQ.out
    have f0:=zao HQ.out 0
    have f1:=zao HQ.out 1
    have f2:=zao HQ.out 2
    have f3:=zao HQ.out 3
    obtain ⟨e0,e1,e2,e3⟩:=zcg q0 q1 q2 q3 ⟨u,b1,m1,d1,b2,m2,d2,b3,m3,d3⟩
    simp only [] at q0 q1 q2 q3 e0 e1 e2 e3
    have HSI:Hid (Copy0 ((((wr.setCell ⟨w.heap.size+2,0,none⟩ (.int .i64 u)).setCell ⟨w.heap.size+2,1,none⟩ (.slice b1 m1 d1)).setCell ⟨w.heap.size+2,2,none⟩ (.slice b2 m2 d2)).setCell ⟨w.heap.size+2,3,none⟩ (.slice b3 m3 d3)) w3.heap.size ⟨u,b1,m1,d1,b2,m2,d2,b3,m3,d3⟩ (runG W H (zaa g) s ls)):=by
     have q:=HS.out
     rw [HTA.out] at q
     exact ⟨q.tick,zap q.rs (by omega) _ _ _ _,zap q.ts (by omega) _ _ _ _,zbh q.bl (by omega) _ _ _ _,q.n1,q.n2,q.n3⟩
    have HBF:=qz (zah HB.out (show w.heap.size<=w.heap.size+2 by omega) (.int .i64 u) (.slice b1 m1 d1) (.slice b2 m2 d2) (.slice b3 m3 d3))
    go_wp2_with fail
    refine bodyPost_ret (v:=shV ⟨u,b1,m1,d1,b2,m2,d2,b3,m3,d3⟩) (by simp [results,Tryz.results11,go_sem,e0,e1,e2,e3]) rfl ⟨_,rfl,HSI.out.stIn,HBF.out⟩
theorem run_store {wr w6:World}{tb B:Nat}{h h2:Sh}{s:St}(hx:w6.heap[tb]?=some (shO h))(hc:Copy0 w6 wr.heap.size h2 s)(hb:Below wr.heap.size wr w6)(hz:tb<wr.heap.size)(hB:B<=tb) :
 Hid (((((w6.setCell ⟨tb,0,none⟩ (.int .i64 h2.t)).setCell ⟨tb,1,none⟩ (.slice h2.a1 h2.n1 h2.c1)).setCell ⟨tb,2,none⟩ (.slice h2.a2 h2.n2 h2.c2)).setCell ⟨tb,3,none⟩ (.slice h2.a3 h2.n3 h2.c3)).heap[tb]?=some (shO h2)) /\
  Hid (Copy0 ((((w6.setCell ⟨tb,0,none⟩ (.int .i64 h2.t)).setCell ⟨tb,1,none⟩ (.slice h2.a1 h2.n1 h2.c1)).setCell ⟨tb,2,none⟩ (.slice h2.a2 h2.n2 h2.c2)).setCell ⟨tb,3,none⟩ (.slice h2.a3 h2.n3 h2.c3)) B h2 s) /\
  Hid (Below B wr ((((w6.setCell ⟨tb,0,none⟩ (.int .i64 h2.t)).setCell ⟨tb,1,none⟩ (.slice h2.a1 h2.n1 h2.c1)).setCell ⟨tb,2,none⟩ (.slice h2.a2 h2.n2 h2.c2)).setCell ⟨tb,3,none⟩ (.slice h2.a3 h2.n3 h2.c3))) :=
 ⟨shO_set4 hx,Copy0.mono ⟨hc.tick,zap hc.rs hz _ _ _ _,zap hc.ts hz _ _ _ _,zbh hc.bl hz _ _ _ _,hc.n1,hc.n2,hc.n3⟩ (by omega),zah (hb.mono (by omega)) hB _ _ _ _⟩
set_option maxHeartbeats 4000000 in
theorem rrun_any:SaysRun 12:=by
 intro W H g h s a n c ls w hok hin hri hrp htk hrn hbn hnn h20
 obtain ⟨w2,hw2,hB2,hs2z,hg2,hs2⟩:=zbv w W H g h
 obtain ⟨w3,hw3⟩:∃ w3,w3=w2.alloc (shO ⟨0,none,0,0,none,0,0,none,0,0⟩):=⟨_,rfl⟩
 have hb3:Below w2.heap.size w2 w3:=by rw [hw3];exact (zX _ _).alloc (zL _) _
 have hz3:w3.heap.size=w.heap.size+3:=by rw [hw3];simp [hs2z]
 have hq3:w3.heap[w.heap.size+2]?=some (shO ⟨0,none,0,0,none,0,0,none,0,0⟩):=by rw [hw3,<- hs2z];exact heap_alloc_new w2 _
 have hh3:w3.heap[w.heap.size+1]?=some (shO h):=by
  have e:w3=((w.alloc (zar W H g)).alloc (shO h)).alloc (shO ⟨0,none,0,0,none,0,0,none,0,0⟩):=by rw [hw3,hw2]
  rw [e]
  exact ((zX _ ((w.alloc (zar W H g)).alloc (shO h))).alloc (zL _) _ |>.block (w.heap.size+1) (by simp)).trans (zbk (w.alloc (zar W H g)) _ (by simp))
 have hB3:=hB2.trans (hb3.mono (by omega))
 have hll:ls.length=n:=hri.1
 have HCP:=qz (rcopy_any h s w.heap.size w3 (hin.below hB3) (by omega) (by rw [<- hin.rs.1];omega) (by rw [<- hin.ts.1];have:=hrp.tn;omega) (by rw [<- hin.bl.1];omega))
 have HF:=qz fun k (hk:k<=ls.length)=>run_facts (W:=W) (H:=H) hrp htk (by omega) (by rw [hll];exact h20) k hk
 have HST:=qz fun (k:Nat) (hk:k<ls.length) (h':Sh) (ai:Option Addr) (ni ci:Nat) (V:World) (hV:StIn V V.heap.size h' (runG W H (zaa g) s (ls.take k))) (hI:RowI V V.heap.size ai ni ci (ls.getD k [])) =>
  rstep_any W H g h' (runG W H (zaa g) s (ls.take k)) ai ni ci (ls.getD k []) V hok hV hI (HF.out k (by omega)).1 (by rw [(HF.out k (by omega)).2.1];omega) (by rw [(HF.out k (by omega)).2.2.1];exact hrn) (by have:=(HF.out k (by omega)).2.2.2;omega) (by have:=h20 k (by omega);rw [<- hI.1];omega)
 have HG3:=qz (hg2.below hb3 (by omega))
 have HQ3:=qz hq3
 have HB3:=qz hB3
 have HH3:=qz hh3
 have HRL:=qz hri
 have hnc:=hri.2.1
 have hcm:=hri.2.2.1
 unfold maxLen at hcm
 have HLL:=qz hll
 have HW3:Hid (w3=((w.alloc (zar W H g)).alloc (shO h)).alloc (shO ⟨0,none,0,0,none,0,0,none,0,0⟩)):=by unfold Hid;rw [hw3,hw2]
 have HRT:=qz fun (k:Nat) (hk:k<ls.length)=>run_take (W:=W) (H:=H) (l:=zaa g) (s:=s) hk
 obtain ⟨s0,s1,s2,s3⟩:=zai hh3
 obtain ⟨t,a1,n1,c1,a2,n2,c2,a3,n3,c3⟩:=h
 simp only [] at s0 s1 s2 s3
 rw [HW3.out] at s0 s1 s2 s3
 have hzz3:w3.heap.size=w.heap.size+3:=by omega
 clear hw2 hB2 hg2 hs2 hw3 hb3 hq3 hB3 hrp hok hin hs2z hri hz3 hh3 htk hll h20
 go_enter Tryz.func12,Tryz.ntmps12
 go_wp2_with fail
 rw [<- HW3.out]
 clear s0 s1 s2 s3
 refine HCP.out.mono ?_
 rintro e w4 ⟨h1,rfl,hc4,hb4⟩
 have hz4:=hb4.size
 obtain ⟨w5,hw5⟩:∃ w5,w5=w4.alloc (shO h1):=⟨_,rfl⟩
 have hb5:Below w4.heap.size w4 w5:=by rw [hw5];exact (zX _ _).alloc (zL _) _
 have hc5:Copy0 w5 w3.heap.size h1 s:=hc4.calls hb5
 have hh5:w5.heap[w4.heap.size]?=some (shO h1):=by rw [hw5];exact heap_alloc_new w4 _
 obtain ⟨tb,htb⟩:∃ tb,tb=w4.heap.size:=⟨_,rfl⟩
 have hz5:w4.heap.size<=w5.heap.size:=hb5.size
 have hbk:Below w3.heap.size w3 w5:=hb4.trans (hb5.mono (by omega))
 have HQ5:=qz ((hbk.block (w.heap.size+2) (by omega)).trans HQ3.out)
 have htbz:w3.heap.size<=tb:=by omega
 have HB5:=qz (HB3.out.trans (hbk.mono (by omega)))
 have HG5:=qz (HG3.out.below hbk (by omega))
 have HS5:=qz hc5
 have HW5:=qz hw5
 obtain ⟨t1,a11,n11,c11,a12,n12,c12,a13,n13,c13⟩:=h1
 have hz5':tb<w5.heap.size:=by have:=(Array.getElem?_eq_some_iff.1 hh5).1;omega
 rw [<- htb] at hh5
 have HH5:=qz hh5
 clear hc4 hb4 hw5 hc5 hh5 hb5 hbk HCP
 go_wp2_with fail
 rw [<- HW5.out,<- htb]
 clear htb
 go_loopw [8] (fun v V=>∃ (k:Nat) (hk:Sh),k<=n/\v=.int .i64 (k:Nat)/\Hid (V.heap[tb]?=some (shO hk))/\Hid (Copy0 V w3.heap.size hk (runG W H (zaa g) s (ls.take k)))/\Hid (GridAt V w.heap.size W H g)/\Hid (V.heap[w.heap.size+2]?=some (shO ⟨0,none,0,0,none,0,0,none,0,0⟩))/\Hid (Below w.heap.size w V)/\tb<V.heap.size) (fun v _=>n-(intOf v).toNat)
 case atStart=>exact ⟨0,⟨t1,a11,n11,c11,a12,n12,c12,a13,n13,c13⟩,Nat.zero_le _,rfl,HH5.out,by rw [List.take_zero];exact HS5.out,HG5.out,HQ5.out,HB5.out,hz5'⟩
 case round =>
  obtain ⟨k,hk,hkn,rfl,HX,HS,HG,HQ,HB,hz⟩:=hrel
  obtain ⟨x0,x1,x2,x3⟩:=zai HX.out
  obtain ⟨u,b1,m1,d1,b2,m2,d2,b3,m3,d3⟩:=hk
  simp only [] at x0 x1 x2 x3
  by_cases hlt:k<n
  · have hki:(k:Int)<(n:Int):=by omega
    obtain ⟨lb,lo,rfl,hlb,hlc⟩:=(HRL.out.below HB.out).cells (by omega)
    obtain ⟨ai,ni,ci,p0,hI⟩:=hlc k hlt
    have HC:=HST.out k (by rw [HLL.out];exact hlt) ⟨u,b1,m1,d1,b2,m2,d2,b3,m3,d3⟩ ai ni ci wr HS.out.stIn (hI.mono HB.out.size)
    rw [<- HRT.out k (by rw [HLL.out];exact hlt)] at HC
    have HC:=qz HC
    obtain ⟨g0,g1,g2⟩:=HG.out
    have k0:Kept wr wr:=Kept.refl _
    have HCK:Hid (∀ V,Kept wr V->Calls Tryz.prog 7 #[zam W H g,shV ⟨u,b1,m1,d1,b2,m2,d2,b3,m3,d3⟩,.slice ai ni ci] V fun e w'=>∃ h' a1 c1 a2 n2 c2,e=.returned (.tuple #[shV h',.slice a1 ni c1,.slice a2 n2 c2])/\Copy0 w' wr.heap.size h' (runG W H (zaa g) s (ls.take (k+1)))/\Below wr.heap.size wr w'/\w'.heap[tb]?=some (shO ⟨u,b1,m1,d1,b2,m2,d2,b3,m3,d3⟩)):=fun V hV=>by
     have q:=HST.out k (by rw [HLL.out];exact hlt) ⟨u,b1,m1,d1,b2,m2,d2,b3,m3,d3⟩ ai ni ci V ((HS.out.calls hV).stIn) ((hI.below (Below.mono hV HB.out.size)).mono (Nat.le_trans HB.out.size (Below.size hV)))
     rw [<- HRT.out k (by rw [HLL.out];exact hlt)] at q
     refine q.mono ?_
     rintro e w' ⟨h',a1,c1,a2,n2,c2,he,hc,_,_,_,hb⟩
     have hbb:Below wr.heap.size wr w':=Below.trans hV (hb.mono (Below.size hV))
     have hx:=(hbb.block tb hz).trans HX.out
     exact ⟨h',a1,c1,a2,n2,c2,he,Copy0.mono hc (Below.size hV),hbb,hx⟩
    clear hI hlc
    go_upto_block 1 with fail
    go_cut [] from 15 to 27 (fun V=>∃ h2:Sh,Hid (V.heap[tb]?=some (shO h2))/\Hid (Copy0 V w3.heap.size h2 (runG W H (zaa g) s (ls.take (k+1))))/\Hid (Below w3.heap.size wr V))
    case first =>
     go_upto_region 5 with fail
     go_region_with (first|(go_at_call 7;refine (HCK.out _ (by first|exact k0|exact Kept.drew k0)).mono ?_;rintro e w6 ⟨h2,c1',c2',a3',n3',c3',rfl,hc6,hb6,hx6⟩;obtain ⟨y0,y1,y2,y3⟩:=zai hx6;have f0:=zao hx6 0;have f1:=zao hx6 1;have f2:=zao hx6 2;have f3:=zao hx6 3;obtain ⟨t2,a21,n21,c21,a22,n22,c22,a23,n23,c23⟩:=h2))
     all_goals go_wp2_with fail
     all_goals go_meet
     all_goals (
      have q:=run_store (h2:=⟨t2,a21,n21,c21,a22,n22,c22,a23,n23,c23⟩) (B:=w3.heap.size) hx6 hc6 hb6 hz htbz
      simp only [] at q
      exact ⟨⟨t2,a21,n21,c21,a22,n22,c22,a23,n23,c23⟩,q⟩)
    case rest =>
    obtain ⟨h2,HX7,HC7,HB7⟩:=hcut
    have hz7:=HB7.out.size
    have HBW:=qz (HB.out.trans (HB7.out.mono (by omega)))
    have HG7:=qz (HG.out.below HB7.out (by omega))
    have HQ7:=qz ((HB7.out.block (w.heap.size+2) (by omega)).trans HQ.out)
    clear x0 x1 x2 x3 p0 g0 g1 g2 k0 HCK
    go_wp2_with fail
    go_roundw
    case rel=>exact ⟨k+1,h2,by omega,by go_num,HX7.out,HC7.out,HG7.out,HQ7.out,HBW.out,by omega⟩
    case measure=>simp [intOf];omega
  · obtain rfl:k=n:=by omega
    have HTA:Hid (ls.take k=ls):=List.take_of_length_le (by rw [HLL.out];exact zL _)
    obtain ⟨q0,q1,q2,q3⟩:=zai HQ.out
    have f0:=zao HQ.out 0
    have f1:=zao HQ.out 1
    have f2:=zao HQ.out 2
    have f3:=zao HQ.out 3
    obtain ⟨e0,e1,e2,e3⟩:=zcg q0 q1 q2 q3 ⟨u,b1,m1,d1,b2,m2,d2,b3,m3,d3⟩
    simp only [] at q0 q1 q2 q3 e0 e1 e2 e3
    have HSI:Hid (Copy0 ((((wr.setCell ⟨w.heap.size+2,0,none⟩ (.int .i64 u)).setCell ⟨w.heap.size+2,1,none⟩ (.slice b1 m1 d1)).setCell ⟨w.heap.size+2,2,none⟩ (.slice b2 m2 d2)).setCell ⟨w.heap.size+2,3,none⟩ (.slice b3 m3 d3)) w3.heap.size ⟨u,b1,m1,d1,b2,m2,d2,b3,m3,d3⟩ (runG W H (zaa g) s ls)):=by
     have q:=HS.out
     rw [HTA.out] at q
     exact ⟨q.tick,zap q.rs (by omega) _ _ _ _,zap q.ts (by omega) _ _ _ _,zbh q.bl (by omega) _ _ _ _,q.n1,q.n2,q.n3⟩
    have HBF:=qz (zah HB.out (show w.heap.size<=w.heap.size+2 by omega) (.int .i64 u) (.slice b1 m1 d1) (.slice b2 m2 d2) (.slice b3 m3 d3))
    have hnt:tb≠w.heap.size+2:=by omega
    go_wp2_with fail
    refine bodyPost_ret (v:=shV ⟨u,b1,m1,d1,b2,m2,d2,b3,m3,d3⟩) (by simp [results,Tryz.results12,go_sem,e0,e1,e2,e3]) rfl ⟨_,rfl,HSI.out.stIn,HBF.out⟩
end Go.Proofs.YtknnnbpgkfaapaaGreat.Vm
