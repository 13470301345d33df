import Derived.Test.YtknnnbpgkfaapaaGreatQ
import Derived.Test.YtknnnbpgkfaapaaGreatVTickWays
import Derived.Test.YtknnnbpgkfaapaaGreatVRefSteps
import Derived.Test.YtknnnbpgkfaapaaGreatVApplyHead
import Derived.Test.YtknnnbpgkfaapaaGreatVAssigns
set_option maxRecDepth 100000
set_option linter.unusedSimpArgs false
set_option linter.unusedVariables false
namespace Go.Proofs.YtknnnbpgkfaapaaGreat.Vm
open Go Go.RowKit
theorem robot_calls (W H:Int)(g:ByteArray)(h:Sh)(s:St)(tb B k:Nat)(t:Int)(hk:k<s.rs.length)(hs:g.size<=maxLen)(hd:0<=(s.rs.getD k zr).d/\(s.rs.getD k zr).d<=1000)(he:0<=(s.rs.getD k zr).e/\(s.rs.getD k zr).e<=1000)(hf:zac (zaa g) t=true)
 (hmo:(s.rs.getD k zr).b=1\/(s.rs.getD k zr).b=2->∃ m:Nat,m<s.ts.length/\zat s.ts (s.rs.getD k zr).c=(m:Nat)) :
 ∃ S2 S3:St,(∀ V,TickIn V tb B W H g h s->Calls Tryz.prog 20 #[.pointer (some ⟨tb,0,none⟩),.int .i64 (k:Nat),.int .i64 t] V fun e V'=>e=.returned (.tuple #[])/\TickIn V' tb B W H g h S2/\Alt (RoTa h) V V') /\
   (∀ V,TickIn V tb B W H g h S2->Calls Tryz.prog 21 #[.pointer (some ⟨tb,0,none⟩),.int .i64 (k:Nat)] V fun e V'=>e=.returned (.tuple #[])/\TickIn V' tb B W H g h S3/\Alt (RoTa h) V V') /\
   (∀ V,TickIn V tb B W H g h S3->Calls Tryz.prog 22 #[.pointer (some ⟨tb,0,none⟩),.int .i64 (k:Nat)] V fun e V'=>e=.returned (.tuple #[])/\TickIn V' tb B W H g h (workS (zaa g) s k t)/\Alt (RoTa h) V V'):=by
 refine ⟨⟨s.tick,s.rs.set k (moveR (s.rs.getD k zr) t),s.ts,s.bl⟩,⟨s.tick,s.rs.set k (goneR (s.rs.getD k zr) t),s.ts,s.bl⟩,fun V T=>move_any W H g h s tb B k V t T hk hd,fun V T=>?_,fun V T=>?_⟩
 · have e1:(s.rs.set k (moveR (s.rs.getD k zr) t)).getD k zr=moveR (s.rs.getD k zr) t:=zba hk _
   have q:=hold_any W H g h ⟨s.tick,s.rs.set k (moveR (s.rs.getD k zr) t),s.ts,s.bl⟩ tb B k V T (by rw [List.length_set];exact hk) (by show 0<=((s.rs.set k _).getD k zr).e/\((s.rs.set k _).getD k zr).e<=1000;rw [e1];exact he)
   simp only [] at q
   rw [e1,List.set_set,gone_is] at q
   exact q
 · have e1:(s.rs.set k (goneR (s.rs.getD k zr) t)).getD k zr=goneR (s.rs.getD k zr) t:=zba hk _
   have q:=work_any W H g h ⟨s.tick,s.rs.set k (goneR (s.rs.getD k zr) t),s.ts,s.bl⟩ tb B k V T (by rw [List.length_set];exact hk) hs (by show zac _ ((s.rs.set k _).getD k zr).a=true;rw [e1];exact hf)
    (by show 0<=((s.rs.set k _).getD k zr).d+1/\((s.rs.set k _).getD k zr).d<=1000;rw [e1];unfold goneR;simp only [];split <;> omega) (by show ((s.rs.set k _).getD k zr).b=1\/((s.rs.set k _).getD k zr).b=2->∃ m:Nat,m<s.ts.length/\zat s.ts ((s.rs.set k _).getD k zr).c=(m:Nat);rw [e1];exact hmo)
   simp only [] at q
   rw [e1,List.set_set] at q
   exact q
theorem NumsZ.own {w:World}{B lb n:Nat}{l:List Int}(h:NumsZ w B lb l)(hn:l.length=n):OwnZ w B (.slice (some ⟨lb,0,none⟩) n n) l:=by
 subst hn
 exact h
theorem ErrsZ.own {w:World}{B lb n:Nat}{l:List Int}(h:ErrsZ w B lb l)(hn:l.length=n):OwnE w B (.slice (some ⟨lb,0,none⟩) n n) l:=by
 subst hn
 exact h
theorem TickIn.tock {w:World}{tb B:Nat}{W H:Int}{g:ByteArray}{h:Sh}{s:St}(T:TickIn w tb B W H g h s)(x:Int)(hx:x=s.tick+1):Copy0 (w.setCell ⟨tb,0,none⟩ (.int .i64 x)) B ⟨x,h.a1,h.n1,h.c1,h.a2,h.n2,h.c2,h.a3,h.n3,h.c3⟩ (tickS s):=by
 obtain ⟨_,o1,o2,o3,n1,n2,n3⟩:=T.cp
 exact ⟨hx,o1.apart T.box (by decide),o2.apart T.box (by decide),o3.apart T.box (by decide),n1,n2,n3⟩
set_option maxHeartbeats 8000000 in
theorem pstep_any:SaysStep 6:=by
 intro W H g h s a n c ins w hok hin hri hrp htk hrn hbn hnn
 obtain ⟨w2,hw2,hB2,hs2z,hg2,hs2⟩:=zbv w W H g h
 obtain ⟨w3,hw3⟩:∃ w3,w3=w2.alloc (shO ⟨0,none,0,0,none,0,0,none,0,0⟩):=⟨_,rfl⟩
 have hb3:Below w2.heap.size w2 w3:=by rw [hw3];exact (zX _ _).alloc (zL _) _
 have hz3:w3.heap.size=w.heap.size+3:=by rw [hw3];simp [hs2z]
 have hq3:w3.heap[w.heap.size+2]?=some (shO ⟨0,none,0,0,none,0,0,none,0,0⟩):=by rw [hw3,<- hs2z];exact heap_alloc_new w2 _
 have hh3:w3.heap[w.heap.size+1]?=some (shO h):=by
  have e:w3=((w.alloc (zar W H g)).alloc (shO h)).alloc (shO ⟨0,none,0,0,none,0,0,none,0,0⟩):=by rw [hw3,hw2]
  rw [e]
  exact ((zX _ ((w.alloc (zar W H g)).alloc (shO h))).alloc (zL _) _ |>.block (w.heap.size+1) (by simp)).trans (zbk (w.alloc (zar W H g)) _ (by simp))
 have hB3:=hB2.trans (hb3.mono (by omega))
 have hgm:g.size<=maxLen:=by have:=hok.le;unfold maxLen;omega
 have HGM:=qz hgm
 have HAL:=qz (bigAll_own W H g h s a n c ins w3.heap.size w3 hgm ((hin.below hB3).mono hB3.size) ((hri.below hB3).mono hB3.size) (zL _) hrp (by omega) (by omega))
 obtain ⟨hr1,hr2,hr3,hr4⟩:=ready_is (W:=W) (H:=H) (ins:=ins) hrp
 have HS1:=qz (alls_right (zac (zaa g)) ins s hrp)
 have HS1n:=qz (alls_rlt (zac (zaa g)) ins s)
 have hil:ins.length=n:=hri.1
 have HD1:=qz fun (h1:Sh) (V:World) (hV:StIn V V.heap.size h1 (allS (zac (zaa g)) s ins))=>pdisp_own W H g h1 (allS (zac (zaa g)) s ins) V.heap.size V hok hV (zL _) HS1.out (by rw [<- hV.bl.1];have:=HS1n.out.2.2;omega)
 have HG3:=qz (hg2.below hb3 (by omega))
 have HQ3:=qz hq3
 have HB3:=qz hB3
 have HH3:=qz hh3
 have HOK:=qz hok
 have HW3:Hid (w3=((w.alloc (zar W H g)).alloc (shO h)).alloc (shO ⟨0,none,0,0,none,0,0,none,0,0⟩)):=by unfold Hid;rw [hw3,hw2]
 have HE:Hid (stepG W H (zaa g) s ins=moveG W H (zaa g) (readyG W H (zaa g) s ins)):=rfl
 have HRD:Hid (readyG W H (zaa g) s ins=(dispG W H (zaa g) (allS (zac (zaa g)) s ins)).1):=rfl
 generalize dispG W H (zaa g) (allS (zac (zaa g)) s ins)=DG at HRD HD1
 obtain ⟨A,ps⟩:=DG
 simp only [] at HRD HD1
 rw [HRD.out] at hr1 hr2 hr3 hr4 HE
 have HR1:=qz hr1
 have HR2:=qz hr2
 have HR3:=qz hr3
 have HR4:=qz hr4
 have HIL:=qz hil
 have HTK:=qz htk
 obtain ⟨s0,s1,s2,s3⟩:=zai hh3
 obtain ⟨g0,g1,g2⟩:=HG3.out
 obtain ⟨t,a1,n1,c1,a2,n2,c2,a3,n3,c3⟩:=h
 simp only [] at s0 s1 s2 s3
 rw [HW3.out] at s0 s1 s2 s3 g0 g1 g2
 have hzz3:w3.heap.size=w.heap.size+3:=by omega
 clear hw2 hB2 hg2 hs2 hw3 hb3 hq3 hB3 hrp hok hin hs2z hri hz3 hr1 hr2 hr3 hr4 hil htk hh3 hgm
 go_enter Tryz.func6,Tryz.ntmps6
 go_wp2_with fail
 rw [<- HW3.out]
 clear s0 s1 s2 s3 g0 g1 g2
 refine HAL.out.mono ?_
 rintro e w4 ⟨h1,cc,rfl,hst4,hco4,hb4⟩
 have hz4:=hb4.size
 have hh4:=(hb4.block (w.heap.size+1) (by omega)).trans HH3.out
 obtain ⟨y0,y1,y2,y3⟩:=zai hh4
 have f0:=zao hh4 0
 have f1:=zao hh4 1
 have f2:=zao hh4 2
 have f3:=zao hh4 3
 simp only [] at y0 y1 y2 y3
 obtain ⟨w5,hw5⟩:∃ w5,w5=(((w4.setCell ⟨w.heap.size+1,0,none⟩ (.int .i64 h1.t)).setCell ⟨w.heap.size+1,1,none⟩ (.slice h1.a1 h1.n1 h1.c1)).setCell ⟨w.heap.size+1,2,none⟩ (.slice h1.a2 h1.n2 h1.c2)).setCell ⟨w.heap.size+1,3,none⟩ (.slice h1.a3 h1.n3 h1.c3):=⟨_,rfl⟩
 have hc5:Copy0 w5 w3.heap.size h1 (allS (zac (zaa g)) s ins):=by
  have q:=hst4.zero
  rw [hw5];exact ⟨q.tick,zap q.rs (by omega) _ _ _ _,zap q.ts (by omega) _ _ _ _,zbh q.bl (by omega) _ _ _ _,q.n1,q.n2,q.n3⟩
 have hh5:w5.heap[w.heap.size+1]?=some (shO h1):=by rw [hw5];exact shO_set4 hh4
 have hb5:Below (w.heap.size+1) w4 w5:=by rw [hw5];exact zah (zX _ _) (zL _) _ _ _ _
 have hco5:ErrsZ w5 w3.heap.size cc (zbr (zac (zaa g)) s ins):=by rw [hw5];exact zbc hco4 (by omega) _ _ _ _
 have hz5:w4.heap.size<=w5.heap.size:=hb5.size
 have hbk:Below (w.heap.size+1) w3 w5:=(hb4.mono (by omega)).trans hb5
 have HB5:=qz (HB3.out.trans (hbk.mono (by omega)))
 have HG5:=qz (HG3.out.below hbk (by omega))
 have HQ5:=qz (show w5.heap[w.heap.size+2]?=some (shO ⟨0,none,0,0,none,0,0,none,0,0⟩) by
  rw [hw5]
  exact zax (zax (zax (zax ((hb4.block (w.heap.size+2) (by omega)).trans HQ3.out) (by omega)) (by omega)) (by omega)) (by omega))
 have HC5:=qz hco5
 have HD5:=qz (HD1.out h1 w5 hc5.stIn)
 have HH5:=qz hh5
 have HW5:=qz hw5
 obtain ⟨t1,a11,n11,c11,a12,n12,c12,a13,n13,c13⟩:=h1
 obtain ⟨g0,g1,g2⟩:=HG3.out.below hb4 (by omega)
 simp only [] at hw5
 clear hst4 hco4 hb4 hh4 hw5 hc5 hco5 hh5 hb5 hbk
 go_wp2_with fail
 rw [<- HW5.out]
 clear y0 y1 y2 y3 f0 f1 f2 f3 g0 g1 g2
 obtain ⟨g0,g1,g2⟩:=HG5.out
 obtain ⟨y0,y1,y2,y3⟩:=zai HH5.out
 simp only [] at y0 y1 y2 y3
 go_wp2_with fail
 refine HD5.out.mono ?_
 rintro e w6 ⟨h2,ap,np,cp,rfl,hc6,_,hb6⟩
 have hz6:=hb6.size
 have hh6:=(hb6.block (w.heap.size+1) (by omega)).trans HH5.out
 have hq6:=(hb6.block (w.heap.size+2) (by omega)).trans HQ5.out
 clear g0 g1 g2 y0 y1 y2 y3
 obtain ⟨y0,y1,y2,y3⟩:=zai hh6
 have f0:=zao hh6 0
 have f1:=zao hh6 1
 have f2:=zao hh6 2
 have f3:=zao hh6 3
 simp only [] at y0 y1 y2 y3
 obtain ⟨w7,hw7⟩:∃ w7,w7=(((w6.setCell ⟨w.heap.size+1,0,none⟩ (.int .i64 h2.t)).setCell ⟨w.heap.size+1,1,none⟩ (.slice h2.a1 h2.n1 h2.c1)).setCell ⟨w.heap.size+1,2,none⟩ (.slice h2.a2 h2.n2 h2.c2)).setCell ⟨w.heap.size+1,3,none⟩ (.slice h2.a3 h2.n3 h2.c3):=⟨_,rfl⟩
 have hc7:Copy0 w7 w5.heap.size h2 A:=by rw [hw7];exact ⟨hc6.tick,zap hc6.rs (by omega) _ _ _ _,zap hc6.ts (by omega) _ _ _ _,zbh hc6.bl (by omega) _ _ _ _,hc6.n1,hc6.n2,hc6.n3⟩
 have hh7:w7.heap[w.heap.size+1]?=some (shO h2):=by rw [hw7];exact shO_set4 hh6
 have hb7:Below (w.heap.size+1) w6 w7:=by rw [hw7];exact zah (zX _ _) (zL _) _ _ _ _
 have hz7:w6.heap.size<=w7.heap.size:=hb7.size
 have hq7:w7.heap[w.heap.size+2]?=some (shO ⟨0,none,0,0,none,0,0,none,0,0⟩):=by
  rw [hw7]
  exact zax (zax (zax (zax hq6 (by omega)) (by omega)) (by omega)) (by omega)
 have HC7:Hid (ErrsZ w7 w3.heap.size cc (zbr (zac (zaa g)) s ins)):=by
  have q:=HC5.out.calls hb6
  rw [hw7]
  exact zbc q (by omega) _ _ _ _
 have hbk:Below (w.heap.size+1) w5 w7:=(hb6.mono (by omega)).trans hb7
 have HB7:=qz (HB5.out.trans (hbk.mono (by omega)))
 have HG7:=qz (HG5.out.below hbk (by omega))
 have HW7:=qz hw7
 obtain ⟨w8,hw8⟩:∃ w8,w8=w7.alloc (tickO W H g h2):=⟨_,rfl⟩
 have hb8:Below w7.heap.size w7 w8:=by rw [hw8];exact (zX _ _).alloc (zL _) _
 have hz8:w8.heap.size=w7.heap.size+1:=by rw [hw8];simp
 have HLT:Hid (∀ b,RoTa h2 b->w5.heap.size<=b/\b<w7.heap.size):=by
  rintro b (⟨hb,hn⟩|⟨hb,hn⟩)
  · exact World.ownsRow.lt (hc7.rs.full (by have:=hc7.n1;omega)) b (by rw [hb];rfl)
  · exact World.ownsRow.lt (hc7.ts.full (by have:=hc7.n2;omega)) b (by rw [hb];rfl)
 have HT8:Hid (TickIn w8 w7.heap.size w5.heap.size W H g h2 A):=⟨by rw [hw8];exact heap_alloc_new w7 _,hc7.calls hb8,fun q=>by have:=(HLT.out _ q).2;omega⟩
 have HC8:=qz (HC7.out.calls hb8)
 have HCL:=qz (World.ownsRow.lt HC7.out cc rfl)
 have HCL5:=qz (World.ownsRow.lt HC5.out cc rfl).2
 have HQ8:=qz ((hb8.block (w.heap.size+2) (by omega)).trans hq7)
 have HB8:=qz (HB7.out.trans (hb8.mono (by omega)))
 have hm1:h2.n1=A.rs.length:=hc6.n1
 have hm3:h2.n3=A.bl.length:=hc6.n3
 have hm4:h2.n1<=100:=by rw [hm1,HR2.out];exact hrn
 have HTG:=qz (targets_any W H g h2 A w7.heap.size w5.heap.size w8 HOK.out HT8.out HR1.out (by rw [hm3];have:=HR4.out;have:=HIL.out;omega))
 have HW8:=qz hw8
 have HN1:=qz hm1
 have hz76:w7.heap.size=w6.heap.size:=by rw [hw7];simp
 obtain ⟨g0,g1,g2⟩:=(HG5.out.below hb6 (by omega))
 obtain ⟨k0,k1,k2⟩:=HG7.out
 obtain ⟨x0,x1,x2,x3⟩:=zai hh7
 rw [hz76] at HT8 HTG HLT HCL hz8
 obtain ⟨t2,a21,n21,c21,a22,n22,c22,a23,n23,c23⟩:=h2
 simp only [] at x0 x1 x2 x3 hm4 HN1 HTG
 have hzw:w.heap.size+3<=w5.heap.size:=by omega
 rw [hw7] at x0 x1 x2 x3 k0 k1 k2
 clear hc6 hb6 hh6 hq6 hw7 hc7 hh7 hb7 hq7 hbk hw8 hb8 hm1 hm3 HD1 HD5 HAL
 go_wp2_with fail
 rw [<- HW7.out]
 change Calls _ _ #[.pointer (some ⟨w6.heap.size,0,none⟩)] (w7.alloc (tickO W H g ⟨t2,a21,n21,c21,a22,n22,c22,a23,n23,c23⟩)) _
 rw [<- HW8.out]
 clear g0 g1 g2 x0 x1 x2 x3 k0 k1 k2 y0 y1 y2 y3 f0 f1 f2 f3
 refine HTG.out.mono ?_
 rintro e w9 ⟨ta,tc,rfl,hto,hb9⟩
 have hz9:=hb9.size
 have hlt1:(toG W H (zaa g) A).length=n21:=by rw [toG_len,<- HN1.out]
 have HT9:=qz (HT8.out.calls hb9)
 have HWY:=qz (tickWays_any W H g _ A w6.heap.size w5.heap.size n21 tc ta (toG W H (zaa g) A) w9 HOK.out HT9.out (by show n21<=1024;omega) (hto.rowAt hlt1) (by rw [toG_len]) (fun i hi=>by
  exact way_goes (toG_way (W:=W) (H:=H) HR1.out hi)))
 have HTO:=qz hto
 have HC9:=qz (HC8.out.calls hb9)
 have HQ9:=qz ((hb9.block (w.heap.size+2) (by omega)).trans HQ8.out)
 have HB9:=qz (HB8.out.trans (hb9.mono (by omega)))
 have HTL:=qz hlt1
 simp only [] at HWY
 clear hto hb9 HTG hlt1
 go_wp2_with fail
 refine HWY.out.mono ?_
 rintro e w10 ⟨wb,L,rfl,hnu,hll,hlg,hb10⟩
 have hz10:=hb10.size
 have HTA:=qz (HT9.out.calls hb10)
 have HTOA:=qz (HTO.out.calls hb10)
 have HCA:=qz (HC9.out.calls hb10)
 have HQA:=qz ((hb10.block (w.heap.size+2) (by omega)).trans HQ9.out)
 have HBA:=qz (HB9.out.trans (hb10.mono (by omega)))
 have HNU:=qz hnu
 have HLL:=qz hll
 have HLG:=qz hlg
 obtain ⟨t0,t1',_,_,_,_,_⟩:=zbz HTA.out.box
 simp only [] at t0 t1'
 clear hnu hll hlg hb10 HWY HT9 HTO HC9 HQ9
 have HTF:=qz fun i (hi:i<A.rs.length)=>(toG_way (W:=W) (H:=H) HR1.out hi).elim fun m q=>way_floor (W:=W) (H:=H) q.2
 have HWI:=qz fun i (hi:i<=A.rs.length)=>workN_is (l:=zaa g) (tz:=toG W H (zaa g) A) HR1.out i hi
 have HMV:Hid (moveG W H (zaa g) A=tickS (workN (zaa g) A (toG W H (zaa g) A) n21)):=by unfold Hid;rw [HN1.out];rfl
 have HWG:Hid (∀ i,i<A.rs.length->(waysG W H (zaa g) A).getD i 0=wayG W H (zaa g) (A.rs.getD i zr).a ((toG W H (zaa g) A).getD i 0)):=fun i hi=>by simp [waysG,List.getD,hi,cellR]
 have HWL:Hid ((waysG W H (zaa g) A).length=n21):=by unfold Hid;simp [waysG,<- HN1.out]
 have HRS:Hid (∀ k,(workN (zaa g) A (toG W H (zaa g) A) (k+1))=workS (zaa g) (workN (zaa g) A (toG W H (zaa g) A) k) k ((toG W H (zaa g) A).getD k 0)):=fun k=>rfl
 have HLE:Hid (L=waysG W H (zaa g) A):=by
  unfold Hid
  apply List.ext_getElem
  · rw [HLL.out,HWL.out]
  · intro i h1 h2
    have hi:i<A.rs.length:=by rw [<- HN1.out,<- HLL.out];exact h1
    have q:=HLG.out i hi
    rw [<- HWG.out i hi] at q
    simpa [List.getD,h1,h2] using q
 rw [HLE.out] at HNU
 obtain ⟨ways,hways⟩:∃ ways,ways=waysG W H (zaa g) A:=⟨_,rfl⟩
 rw [<- hways] at HNU HWL
 have HLE0:=qz hways
 clear HLE hways
 generalize toG W H (zaa g) A=tz at HTF HWI HMV HTL HTOA HRS
 clear HWG HLG HLL
 go_wp2_with fail
 go_loopw [37] (fun v V=>∃ k:Nat,k<=n21/\v=.int .i64 (k:Nat)/\Hid (TickIn V w6.heap.size w5.heap.size W H g ⟨t2,a21,n21,c21,a22,n22,c22,a23,n23,c23⟩ (workN (zaa g) A tz k))/\Hid (Alt (RoTa ⟨t2,a21,n21,c21,a22,n22,c22,a23,n23,c23⟩) w10 V)) (fun v _=>n21-(intOf v).toNat)
 case atStart=>exact ⟨0,Nat.zero_le _,rfl,HTA.out,Alt.refl _ _⟩
 case round =>
  obtain ⟨k,hk,rfl,HJ,HA⟩:=hrel
  have hsz:=HA.out.size
  by_cases hlt:k<n21
  · have hkn:(k:Int)<(n21:Int):=by omega
    have hka:k<A.rs.length:=by rw [<- HN1.out];exact hlt
    have HWJ:=qz (HWI.out k (by omega))
    have hrj:=HWJ.out.rs2 k (zL _)
    have hrest:=HR1.out.rest k hka
    obtain ⟨_,_,hd1,he1⟩:=hrest
    rw [<- hrj] at hd1 he1
    obtain ⟨S2,S3,HM,HH,HW⟩:=robot_calls W H g ⟨t2,a21,n21,c21,a22,n22,c22,a23,n23,c23⟩ (workN (zaa g) A tz k) w6.heap.size w5.heap.size k (tz.getD k 0) (by rw [HWJ.out.rl];exact hka) HGM.out hd1 he1 (HTF.out k hka) (tail_mode HWJ.out (HR1.out.mode k hka))
    rw [<- HRS.out k] at HW
    obtain ⟨gb,rfl,hg1,_,hgc,_⟩:=HTOA.out.at HTL.out hlt 0
    have hgw:gb<w10.heap.size:=World.block_lt_of_cell? w10 _ hgc
    have p0:=(HA.out.cell (p:=⟨gb,k,none⟩) hgw (fun q=>by have:=(HLT.out _ q).2;have:gb<w6.heap.size:=this;omega)).trans hgc
    generalize tz.getD k 0=tj at HM p0
    have HM:=qz (HM wr HJ.out)
    have HH:=qz HH
    have HW:=qz HW
    clear hd1 he1 hrj hgc t0 t1'
    go_wp2_with fail
    refine HM.out.mono ?_
    rintro e wa ⟨rfl,T2,A2⟩
    have HA2:=qz (HA.out.trans A2 (fun _ q _=>q))
    have HH2:=qz (HH.out wa T2)
    clear T2 A2
    go_wp2_with fail
    refine HH2.out.mono ?_
    rintro e wb' ⟨rfl,T3,A3⟩
    have HA3:=qz (HA2.out.trans A3 (fun _ q _=>q))
    have HW3:=qz (HW.out wb' T3)
    clear T3 A3
    go_wp2_with fail
    refine HW3.out.mono ?_
    rintro e wc' ⟨rfl,T4,A4⟩
    have HA4:=qz (HA3.out.trans A4 (fun _ q _=>q))
    have HT4:=qz T4
    clear T4 A4
    go_wp2_with fail
    go_roundw
    case rel=>exact ⟨k+1,by omega,by go_num,HT4.out,HA4.out⟩
    case measure=>simp [intOf];omega
  · obtain rfl:k=n21:=by omega
    have htick:t2=(workN (zaa g) A tz k).tick:=HJ.out.cp.tick
    have hti:=(HWI.out k (by rw [<- HN1.out];exact zL _)).tick
    have ht0:=HR1.out.tick.1
    have ew:IntKind.i64.wrap (t2+1)=t2+1:=by
     have h3:=HR3.out
     have h4:=HTK.out
     simp only [IntKind.wrap_i64]
     omega
    have hbA:Below w5.heap.size w10 wr:=HA.out.below (fun b hb=>(HLT.out b hb).1) (by omega)
    have hqx:wr.heap[w.heap.size+2]?=some (shO ⟨0,none,0,0,none,0,0,none,0,0⟩):=(hbA.block (w.heap.size+2) (by omega)).trans HQA.out
    have hno:∀ b,b<w5.heap.size\/w6.heap.size<=b->¬ RoTa ⟨t2,a21,k,c21,a22,n22,c22,a23,n23,c23⟩ b:=fun b hb q=>by have:=HLT.out b q;omega
    have hcl:=World.ownsRow.lt HCA.out cc rfl
    have hcx:ErrsZ wr w3.heap.size cc (zbr (zac (zaa g)) s ins):=own_altR HCA.out HA.out (fun b e=>hno b (.inl (by injection e with e;subst e;exact HCL5.out)))
    have hnx:NumsZ wr w9.heap.size wb ways:=own_altR HNU.out HA.out (fun b e=>hno b (.inr (by have:=(World.ownsRow.lt HNU.out b e).1;omega)))
    have hbw:Below w.heap.size w wr:=HBA.out.trans (hbA.mono (by omega))
    have htb:=HJ.out.lt
    obtain ⟨V1,hV1⟩:∃ V1,V1=wr.setCell ⟨w6.heap.size,0,none⟩ (.int .i64 (t2+1)):=⟨_,rfl⟩
    have hq1:V1.heap[w.heap.size+2]?=some (shO ⟨0,none,0,0,none,0,0,none,0,0⟩):=by
     rw [hV1]
     exact zax hqx (by omega)
    have hj1:Copy0 V1 w5.heap.size ⟨t2+1,a21,k,c21,a22,n22,c22,a23,n23,c23⟩ (tickS (workN (zaa g) A tz k)):=by
     rw [hV1]
     exact HJ.out.tock (t2+1) (by omega)
    have hw1:NumsZ V1 w9.heap.size wb ways:=by rw [hV1];exact World.ownsRow.kept hnx (zaj wr w6.heap.size 0 _) (.inr (fun e=>by have:=(World.ownsRow.lt HNU.out _ e).1;omega))
    have hc1:ErrsZ V1 w3.heap.size cc (zbr (zac (zaa g)) s ins):=by
     rw [hV1]
     exact World.ownsRow.kept hcx (zaj wr w6.heap.size 0 _) (.inr (fun e=>by have e':cc=w6.heap.size:=Option.some.inj e;have:=HCL5.out;omega))
    have hb1:Below w.heap.size w V1:=by rw [hV1];exact hbw.setCell (p:=⟨w6.heap.size,0,none⟩) (show w.heap.size<=w6.heap.size by omega) _
    obtain ⟨q0,q1,q2,q3⟩:=zai hq1
    obtain ⟨e0,e1,e2,e3⟩:=zcg q0 q1 q2 q3 ⟨t2+1,a21,k,c21,a22,n22,c22,a23,n23,c23⟩
    simp only [] at q0 q1 q2 q3 e0 e1 e2 e3
    have HSI:=qz (Copy0.mono (B':=w.heap.size) (⟨hj1.tick,zap hj1.rs (show w.heap.size+2<w5.heap.size by omega) (.int .i64 (t2+1)) (.slice a21 k c21) (.slice a22 n22 c22) (.slice a23 n23 c23),zap hj1.ts (show w.heap.size+2<w5.heap.size by omega) (.int .i64 (t2+1)) (.slice a21 k c21) (.slice a22 n22 c22) (.slice a23 n23 c23),zbh hj1.bl (show w.heap.size+2<w5.heap.size by omega) (.int .i64 (t2+1)) (.slice a21 k c21) (.slice a22 n22 c22) (.slice a23 n23 c23),hj1.n1,hj1.n2,hj1.n3⟩:Copy0 _ w5.heap.size ⟨t2+1,a21,k,c21,a22,n22,c22,a23,n23,c23⟩ (tickS (workN (zaa g) A tz k))) (by omega))
    have hwr:NumsZ _ _ _ _:=zbc hw1 (show w.heap.size+2<w9.heap.size by omega) (.int .i64 (t2+1)) (.slice a21 k c21) (.slice a22 n22 c22) (.slice a23 n23 c23)
    have HRW:=qz (own_low (hwr.own HWL.out) (show w.heap.size<=w9.heap.size by omega))
    have hcr:ErrsZ _ _ _ _:=zbc hc1 (show w.heap.size+2<w3.heap.size by omega) (.int .i64 (t2+1)) (.slice a21 k c21) (.slice a22 n22 c22) (.slice a23 n23 c23)
    have HRC:=qz (own_low (hcr.own (by rw [codesS_len,HIL.out])) (show w.heap.size<=w3.heap.size by omega))
    have HBF:=qz (zah hb1 (show w.heap.size<=w.heap.size+2 by omega) (.int .i64 (t2+1)) (.slice a21 k c21) (.slice a22 n22 c22) (.slice a23 n23 c23))
    have HV1:=qz hV1
    have hne1:w.heap.size+2≠w6.heap.size:=by omega
    have hne2:w6.heap.size≠w.heap.size+2:=by omega
    obtain ⟨z0,z1,z2,z3⟩:=zai hqx
    have d0:=zao hqx 0
    have d1:=zao hqx 1
    have d2:=zao hqx 2
    have d3:=zao hqx 3
    obtain ⟨x0,x1,x2,x3,_⟩:=zbz HJ.out.box
    have fz:wr.frozen? ⟨w6.heap.size,0,none⟩=false:=by
     unfold World.frozen?
     rw [HJ.out.box]
     simp [tickO]
    simp only [] at z0 z1 z2 z3 x0 x1 x2 x3
    rw [hV1] at e0 e1 e2 e3
    clear hwr hcr hb1 hc1 hw1 hj1 hq1 hV1 hcx hnx hqx hbw hbA hno q0 q1 q2 q3 htick hti ht0 hcl t0 t1'
    go_wp2_with fail
    refine bodyPost_ret (v:=.tuple #[shV ⟨t2+1,a21,k,c21,a22,n22,c22,a23,n23,c23⟩,.slice (some ⟨cc,0,none⟩) n n,.slice (some ⟨wb,0,none⟩) k k]) (by simp [results,Tryz.results6,go_sem,e0,e1,e2,e3]) rfl ⟨⟨t2+1,a21,k,c21,a22,n22,c22,a23,n23,c23⟩,_,_,_,k,_,rfl,?_,?_,?_,?_,?_⟩
    · rw [HE.out,HMV.out,<- HV1.out];exact HSI.out
    · rw [<- HV1.out];exact HRC.out
    · rw [HRD.out,<- HLE0.out,<- HV1.out];exact HRW.out
    · rw [HRD.out,<- HLE0.out];exact HWL.out
    · rw [<- HV1.out];exact HBF.out
end Go.Proofs.YtknnnbpgkfaapaaGreat.Vm
