import Derived.Test.YtknnnbpgkfaapaaGreatQ
import Derived.Test.YtknnnbpgkfaapaaGreatVAwakeElevenMath
import Derived.Test.YtknnnbpgkfaapaaGreatVRuns
import Derived.Test.YtknnnbpgkfaapaaGreatVStNews
import Derived.Test.YtknnnbpgkfaapaaGreatVLightEleven
import Derived.Test.YtknnnbpgkfaapaaGreatVRefAlls
import Derived.Test.YtknnnbpgkfaapaaGreatVStSames
set_option maxRecDepth 100000
set_option linter.unusedSimpArgs false
set_option linter.unusedVariables false
namespace Go.Proofs.YtknnnbpgkfaapaaGreat.Vm
open Go Go.RowKit
theorem rowZE (w:World):RowZ .i64 (w.alloc (.cells #[.int .i64 0] 3)) (w.heap.size+1) (some ⟨w.heap.size,0,none⟩) 1 1 [0]:=by
 refine ⟨rfl,zL _,by unfold maxLen;omega,fun _=>⟨_,0,rfl,Nat.lt_succ_self _,fun i hi=>?_⟩⟩
 obtain rfl:i=0:=by omega
 simp
abbrev inO:Obj:=.cells #[.int .i64 1,.int .i64 1,.int .i64 0,.int .i64 2] 44
theorem rowIE (w:World):RowI (w.alloc inO) (w.heap.size+1) (some ⟨w.heap.size,0,none⟩) 1 1 inE:=by
 refine ⟨rfl,zL _,by unfold maxLen;omega,fun _=>⟨_,0,rfl,Nat.lt_succ_self _,fun i hi=>?_⟩⟩
 obtain rfl:i=0:=by omega
 simp
theorem rowIN (w:World):RowI w w.heap.size none 0 0 []:=⟨rfl,zL _,by simp [maxLen],fun h=>absurd h (by omega)⟩
abbrev insO (b:Nat):Obj:=.cells #[.slice (some ⟨b,0,none⟩) 1 1,.slice none 0 0,.slice none 0 0] 35
theorem rowLIE (w:World):RowLI ((w.alloc inO).alloc (insO w.heap.size)) (w.heap.size+2) (some ⟨w.heap.size+1,0,none⟩) 3 3 [inE,[],[]]:=by
 refine ⟨rfl,zL _,by unfold maxLen;omega,fun _=>⟨_,0,rfl,by omega,fun i hi=>?_⟩⟩
 have hz:(w.alloc inO).heap.size=w.heap.size+1:=by simp
 have hc:∀ j,((w.alloc inO).alloc (insO w.heap.size)).cell? ⟨w.heap.size+1,j,none⟩=(#[.slice (some ⟨w.heap.size,0,none⟩) 1 1,.slice none 0 0,.slice none 0 0]:Array Value)[j]?:=fun j=>by
  rw [<- hz]
  exact cell_of_row _ _ j _ _ (0,0) (heap_alloc_new (w.alloc inO) _)
 have hb:Below (w.heap.size+1) (w.alloc inO) ((w.alloc inO).alloc (insO w.heap.size)):=(zX _ _).alloc (by omega) _
 match i,hi with
 | 0,_=>exact ⟨_,1,1,hc 0,((rowIE w).below hb).mono (by omega)⟩
 | 1,_=>exact ⟨none,0,0,hc 1,⟨rfl,zL _,by simp [maxLen],fun h=>absurd h (by omega)⟩⟩
 | 2,_=>exact ⟨none,0,0,hc 2,⟨rfl,zL _,by simp [maxLen],fun h=>absurd h (by omega)⟩⟩
set_option maxHeartbeats 4000000 in
theorem awake11_any (w:World):Calls Tryz.prog 4 #[] w fun e w'=>e=.returned (.bool true)/\Below w.heap.size w w':=by
 obtain ⟨w1,hw1⟩:∃ w1,w1=w.alloc (zar 3 1 mapE):=⟨_,rfl⟩
 obtain ⟨w2,hw2⟩:∃ w2,w2=w1.alloc (.cells #[.int .i64 0] 3):=⟨_,rfl⟩
 have z1:w1.heap.size=w.heap.size+1:=by rw [hw1];simp
 have z2:w2.heap.size=w.heap.size+2:=by rw [hw2];simp [z1]
 have b1:Below w.heap.size w w1:=by rw [hw1];exact (zX _ _).alloc (zL _) _
 have b2:Below w1.heap.size w1 w2:=by rw [hw2];exact (zX _ _).alloc (zL _) _
 have e1:=zbk w (zar 3 1 mapE) rfl
 rw [<- hw1] at e1
 have hg1:=box_grid e1
 have HG2:=qz (hg1.below b2 (by omega))
 have HB2:=qz (b1.trans (b2.mono (by omega)))
 have hr2:=rowZE w1
 rw [<- hw2,z1] at hr2
 have HNW:=qz (new_any 3 1 mapE _ 1 1 _ [0] w2 (by unfold maxLen;decide) hr2 (by omega))
 unfold NewPost at HNW
 rw [newE0.1,newE0.2] at HNW
 have HW2:Hid (w2=(w.alloc (zar 3 1 mapE)).alloc (.cells #[.int .i64 0] 3)):=by unfold Hid;rw [hw2,hw1]
 obtain ⟨g0,g1,g2⟩:=hg1
 rw [hw1] at g0 g1 g2
 clear hw1 hw2 b1 b2 e1 hr2
 go_enter Tryz.func4,Tryz.ntmps4
 go_wp2_with fail
 rw [<- HW2.out]
 clear g0 g1 g2
 refine HNW.out.mono ?_
 rintro e w3 ⟨h0,rfl,hc3,hb3⟩
 have z3:=hb3.size
 obtain ⟨w4,hw4⟩:∃ w4,w4=w3.alloc (shO h0):=⟨_,rfl⟩
 have b4:Below w3.heap.size w3 w4:=by rw [hw4];exact (zX _ _).alloc (zL _) _
 have z4:w4.heap.size=w3.heap.size+1:=by rw [hw4];simp
 have hx4:w4.heap[w3.heap.size]?=some (shO h0):=by rw [hw4];exact heap_alloc_new w3 _
 obtain ⟨w5,hw5⟩:∃ w5,w5=w4.alloc inO:=⟨_,rfl⟩
 have b5:Below w4.heap.size w4 w5:=by rw [hw5];exact (zX _ _).alloc (zL _) _
 have z5:w5.heap.size=w3.heap.size+2:=by rw [hw5];simp [z4]
 have b45:Below w3.heap.size w3 w5:=b4.trans (b5.mono (by omega))
 have HG5:=qz ((HG2.out.below hb3 (by omega)).below b45 (by omega))
 have HB5:=qz ((HB2.out.trans (hb3.mono (by omega))).trans (b45.mono (by omega)))
 have HI0:=qz (hc3.zero.calls b45)
 have HX5:=qz ((b5.block w3.heap.size (by omega)).trans hx4)
 have hri:=rowIE w4
 rw [<- hw5,z4] at hri
 have HST1:=qz (pstep_any 3 1 mapE h0 sE0 _ 1 1 inE w5 mapE_okay HI0.out.stIn (hri.mono (by omega)) sE0_right (by decide) (by decide) (by decide) (by decide))
 rw [stepE0,waysE0,codesE] at HST1
 have HW5:Hid (w5=(w3.alloc (shO h0)).alloc inO):=by unfold Hid;rw [hw5,hw4]
 have HW4:=qz hw4
 obtain ⟨g0,g1,g2⟩:=(HG2.out.below hb3 (by omega)).below b4 (by omega)
 obtain ⟨s0,s1,s2,s3⟩:=zai hx4
 obtain ⟨t,a1,n1,c1,a2,n2,c2,a3,n3,c3⟩:=h0
 simp only [] at s0 s1 s2 s3
 rw [hw4] at g0 g1 g2 s0 s1 s2 s3
 have hlt1:w.heap.size+2<=w3.heap.size:=by omega
 clear hc3 hb3 hw4 hw5 b4 b5 b45 hx4 hri HNW
 go_wp2_with fail
 rw [<- HW5.out]
 clear g0 g1 g2 s0 s1 s2 s3
 refine HST1.out.mono ?_
 rintro e w6 ⟨hB,x1,y1,x2,m2,y2,rfl,hc6,hr6',hv6',hvl6,hb6⟩
 obtain rfl:m2=1:=hvl6.symm
 have hr6:=hr6'.rowE (n:=1) rfl
 have hv6:=hv6'.rowAt (n:=1) rfl
 have z6:=hb6.size
 obtain ⟨w7,hw7⟩:∃ w7,w7=w6.alloc (shO hB):=⟨_,rfl⟩
 have b7:Below w6.heap.size w6 w7:=by rw [hw7];exact (zX _ _).alloc (zL _) _
 have z7:w7.heap.size=w6.heap.size+1:=by rw [hw7];simp
 have hx7:w7.heap[w6.heap.size]?=some (shO hB):=by rw [hw7];exact heap_alloc_new w6 _
 have hc7:=hc6.calls b7
 have b57:Below w5.heap.size w5 w7:=hb6.trans (b7.mono z6)
 have HG7:=qz (HG5.out.below b57 (by omega))
 have HB7:=qz (HB5.out.trans (b57.mono (by omega)))
 have HI7:=qz (HI0.out.calls b57)
 have HX7:=qz ((b57.block w3.heap.size (by omega)).trans HX5.out)
 have HST2:=qz (pstep_any 3 1 mapE hB sE1 none 0 0 [] w7 mapE_okay hc7.stIn (rowIN w7) sE1_right (by decide) (by decide) (by decide) (by decide))
 rw [stepE1,waysE1] at HST2
 have HW7:=qz hw7
 obtain ⟨rb,ra,_,rl,_,_⟩:=(hc7.rs.full (by decide)).at (by decide)
 have hn1:hB.n1=1:=hc7.n1
 obtain ⟨q0,q1,q2,q3,q4⟩:=(hc7.cellR (i:=0) ra (by decide)).1
 obtain ⟨kb,ko,rfl,kl,kc⟩:=(hr6.below b7).cells (by decide)
 obtain ⟨vb,vo,rfl,vl,vc⟩:=(hv6.below b7).cells (by decide)
 have k0:=kc 0 (by decide)
 have v0:=vc 0 (by decide)
 have k1:=hr6.2.1
 have v1:=hv6.2.1
 obtain ⟨g0,g1,g2⟩:=HG7.out
 obtain ⟨s0,s1,s2,s3⟩:=zai hx7
 obtain ⟨tB,a1B,n1B,c1B,a2B,n2B,c2B,a3B,n3B,c3B⟩:=hB
 simp only [] at s0 s1 s2 s3 ra hn1
 subst ra hn1
 have hc1:=hc7.stIn.rs.2.1
 simp only [] at hc1
 simp only [List.getD_cons_zero,Nat.zero_mul,Nat.zero_add,Nat.add_zero] at q0 q1 q2 q3 q4 k0 v0
 rw [hw7] at g0 g1 g2 s0 s1 s2 s3 q0 q1 q2 q3 q4 k0 v0
 clear hc6 hr6 hv6 hr6' hv6' hb6 hw7 b7 hx7 b57 kc vc HST1
 go_wp2_with fail
 rw [<- HW7.out]
 clear g0 g1 g2 s0 s1 s2 s3 q0 q1 q2 q3 q4 k0 v0
 refine HST2.out.mono ?_
 rintro e w8 ⟨hC,x3,y3,x4,m4,y4,rfl,hc8,_,hv8',hvl8,hb8⟩
 obtain rfl:m4=1:=hvl8.symm
 have hv8:=hv8'.rowAt (n:=1) rfl
 have z8:=hb8.size
 obtain ⟨w9,hw9⟩:∃ w9,w9=w8.alloc (shO hC):=⟨_,rfl⟩
 have b9:Below w8.heap.size w8 w9:=by rw [hw9];exact (zX _ _).alloc (zL _) _
 have z9:w9.heap.size=w8.heap.size+1:=by rw [hw9];simp
 have hx9:w9.heap[w8.heap.size]?=some (shO hC):=by rw [hw9];exact heap_alloc_new w8 _
 have b79:Below w7.heap.size w7 w9:=hb8.trans (b9.mono z8)
 obtain ⟨wA,hwA⟩:∃ wA,wA=(w9.alloc inO).alloc (insO w9.heap.size):=⟨_,rfl⟩
 have bA:Below w9.heap.size w9 wA:=by rw [hwA];exact ((zX _ _).alloc (zL _) _).alloc (by simp) _
 have zA:wA.heap.size=w9.heap.size+2:=by rw [hwA];simp
 have b7A:Below w7.heap.size w7 wA:=b79.trans (bA.mono (by omega))
 have HGA:=qz (HG7.out.below b7A (by omega))
 have HBA:=qz (HB7.out.trans (b7A.mono (by omega)))
 have HIA:=qz (HI7.out.calls b7A)
 have HCA:=qz ((hc8.calls b9).calls bA)
 have HVA:=qz ((hv8.below b9).below (bA.mono (by omega)))
 have HXA:=qz ((bA.block w8.heap.size (by omega)).trans hx9)
 have hrl:=rowLIE w9
 rw [<- hwA] at hrl
 have HRN:=qz (prun_any 3 1 mapE _ sE0 _ 3 3 [inE,[],[]] wA mapE_okay HIA.out.stIn (hrl.mono (by omega)) sE0_right (by decide) (by decide) (by decide) (by decide) (fun i hi=>by
  match i,hi with
  | 0,_=>decide
  | 1,_=>decide
  | 2,_=>decide))
 rw [runE] at HRN
 have HWA:Hid (wA=((w8.alloc (shO hC)).alloc inO).alloc (insO (w8.heap.size+1))):=by unfold Hid;rw [hwA,hw9];simp
 obtain ⟨g0,g1,g2⟩:=HG7.out.below b79 (by omega)
 obtain ⟨s0,s1,s2,s3⟩:=zai ((b79.block w3.heap.size (by omega)).trans HX7.out)
 simp only [] at s0 s1 s2 s3
 rw [hw9] at g0 g1 g2 s0 s1 s2 s3
 obtain ⟨tC,a1C,n1C,c1C,a2C,n2C,c2C,a3C,n3C,c3C⟩:=hC
 rw [z9] at HRN
 clear hc8 hv8 hv8' hb8 hw9 b9 hx9 b79 hwA bA b7A hrl HST2
 go_wp2_with fail
 rw [<- HWA.out]
 clear g0 g1 g2 s0 s1 s2 s3
 refine HRN.out.mono ?_
 rintro e wB ⟨hD,rfl,hsD,hbB⟩
 have zB:=hbB.size
 obtain ⟨wC,hwC⟩:∃ wC,wC=wB.alloc (shO hD):=⟨_,rfl⟩
 have bC:Below wB.heap.size wB wC:=by rw [hwC];exact (zX _ _).alloc (zL _) _
 have hxC:wC.heap[wB.heap.size]?=some (shO hD):=by rw [hwC];exact heap_alloc_new wB _
 have bAC:Below wA.heap.size wA wC:=hbB.trans (bC.mono zB)
 have HBC:=qz (HBA.out.trans (bAC.mono (by omega)))
 have hcC:=HCA.out.calls bAC
 obtain ⟨rc,ra,_,rlc,_,_⟩:=(hcC.rs.full (by decide)).at (by decide)
 have hn1:n1C=1:=hcC.n1
 obtain ⟨q0,q1,q2,q3,q4⟩:=(hcC.cellR (i:=0) ra (by decide)).1
 simp only [] at ra
 subst ra hn1
 have hc1C:=hcC.stIn.rs.2.1
 simp only [] at hc1C
 obtain ⟨vb2,vo2,rfl,vl2,vc2⟩:=(HVA.out.below (bAC.mono (by omega))).cells (by decide)
 have v0:=vc2 0 (by decide)
 have v1':=HVA.out.2.1
 obtain ⟨s0,s1,s2,s3⟩:=zai ((bAC.block w8.heap.size (by omega)).trans HXA.out)
 obtain ⟨p0,p1,p2,p3⟩:=zai hxC
 have hsC:=hsD.below bC
 have ht3:hD.t=3:=hsD.tick
 have hd1:hD.n1=1:=hsD.rs.1.symm
 have hd2:hD.n2=1:=hsD.ts.1.symm
 obtain ⟨db,do0,hda,hdl,hdc⟩:=hsC.rs.cells (by omega)
 obtain ⟨eb,eo,hea,hel,hec⟩:=hsC.ts.cells (by omega)
 obtain ⟨d0,d1,d2,d3,d4⟩:=hdc 0 (by omega)
 obtain ⟨f0,f1,f2,f3,f4⟩:=hec 0 (by omega)
 have hm1:=hsD.rs.2.1
 have hm2:=hsD.ts.2.1
 obtain ⟨tD,a1D,n1D,c1D,a2D,n2D,c2D,a3D,n3D,c3D⟩:=hD
 simp only [] at s0 s1 s2 s3 p0 p1 p2 p3 ht3 hd1 hd2 hda hea hm1 hm2
 subst ht3 hd1 hd2 hda hea
 simp only [List.getD_cons_zero,Nat.zero_mul,Nat.zero_add,Nat.add_zero] at q0 q1 q2 q3 q4 v0 d0 d1 d2 d3 d4 f0 f1 f2 f3 f4
 have HWC:=qz hwC
 rw [hwC] at q0 q1 q2 q3 q4 v0 d0 d1 d2 d3 d4 f0 f1 f2 f3 f4 s0 s1 s2 s3 p0 p1 p2 p3
 clear hsD hbB hwC bC hxC bAC hcC vc2 hsC hdc hec HRN
 go_wp2_with fail
 go_ret
 exact ⟨rfl,by rw [<- HWC.out];exact HBC.out⟩
structure Got (A V:World)(bt:Nat)(h1:Sh)(a1:Option Addr)(n1 c1:Nat)(a2:Option Addr)(n2 c2:Nat)(SA:St)(CA WA:List Int):Prop where
 box:V.heap[bt]?=some (shO h1)
 st:StIn V V.heap.size h1 SA
 co:RowZ .i64 V V.heap.size a1 n1 c1 CA
 wa:RowZ .i64 V V.heap.size a2 n2 c2 WA
 kp:Kept A V
section
variable {A A' V V':World} {bt U n1 c1 n2 c2:Nat} {h h1:Sh} {a1 a2:Option Addr} {SA:St} {CA WA:List Int}
theorem Got.on (q:Got A V bt h1 a1 n1 c1 a2 n2 c2 SA CA WA)(hb:Kept V V'):Got A V' bt h1 a1 n1 c1 a2 n2 c2 SA CA WA :=
 ⟨(Below.block hb bt (Array.getElem?_eq_some_iff.1 q.box).1).trans q.box,(q.st.below hb).mono (Below.size hb),(q.co.below hb).mono (Below.size hb),(q.wa.below hb).mono (Below.size hb),Below.trans q.kp (Below.mono hb (Below.size q.kp))⟩
theorem got_after (hc:Copy0 V U h1 SA)(ho:OwnE V U (.slice a1 n1 c1) CA)(hv:OwnZ V U (.slice a2 n2 c2) WA)(hn:CA.length=n1)(hm:WA.length=n2)(hk:Kept A V):Got A (V.alloc (shO h1)) V.heap.size h1 a1 n1 c1 a2 n2 c2 SA CA WA:=by
 have hb:Below V.heap.size V (V.alloc (shO h1)):=(zX _ _).alloc (zL _) _
 exact ⟨heap_alloc_new V _,(hc.calls hb).stIn,((ho.rowE hn).below hb).mono hb.size,((hv.rowAt hm).below hb).mono hb.size,Below.trans hk (Below.mono hb (Below.size hk))⟩
theorem got_before (hx:V.heap[A.heap.size]?=some (shO h))(hc:Copy0 V U h1 SA)(ho:OwnE V U (.slice a1 n1 c1) CA)(hv:OwnZ V U (.slice a2 n2 c2) WA)(hn:CA.length=n1)(hm:WA.length=n2)(hk:Kept A V)(hU:A.heap.size<U) :
 Got A ((((V.setCell ⟨A.heap.size,0,none⟩ (.int .i64 h1.t)).setCell ⟨A.heap.size,1,none⟩ (.slice h1.a1 h1.n1 h1.c1)).setCell ⟨A.heap.size,2,none⟩ (.slice h1.a2 h1.n2 h1.c2)).setCell ⟨A.heap.size,3,none⟩ (.slice h1.a3 h1.n3 h1.c3)) A.heap.size h1 a1 n1 c1 a2 n2 c2 SA CA WA:=by
 refine ⟨shO_set4 hx,Copy0.stIn (B:=U) ⟨hc.tick,zap hc.rs hU _ _ _ _,zap hc.ts hU _ _ _ _,zbh hc.bl hU _ _ _ _,hc.n1,hc.n2,hc.n3⟩,OwnE.rowE (B:=U) (zbc ho hU _ _ _ _) hn,OwnZ.rowAt (B:=U) (zbc hv hU _ _ _ _) hm,zah hk (zL _) _ _ _ _⟩
end
set_option maxHeartbeats 4000000 in
theorem stepTells_walk (W H:Int)(g:ByteArray)(h:Sh)(s:St)(a:Option Addr)(n c:Nat)(ls:List (List Inp))(w:World)(_:(Lit.int .i64 W).wf=true)(_:(Lit.int .i64 H).wf=true)(hg:g.size<=maxLen)(hi:StIn w w.heap.size h s)(hl:RowLI w w.heap.size a n c ls) :
 Calls Tryz.prog 3 #[zam W H g,shV h,.slice a n c] w fun e w'=>e=.returned (.bool true)/\Below w.heap.size w w':=by
 obtain ⟨w2,hw2,hB2,hz2,hg2,hs2⟩:=zbv w W H g h
 have HW2:=qz hw2
 have HG2:=qz hg2
 have HS2:=qz hs2
 have HB2:=qz hB2
 have HI:=qz hi
 have HL:=qz hl
 have HLL:Hid (ls.length=n):=hl.1
 have hnc:=hl.2.1
 have hcm:=hl.2.2.1
 unfold maxLen at hcm
 have HLI:=qz fun V (hV:Below w.heap.size w V)=>light11_any W H g h s a n c ls V hg ((hi.below hV).mono hV.size) ((hl.below hV).mono hV.size)
 have HIN:=qz fun (q:light11 W H g h s ls=true)=>light11_in q
 generalize light11 W H g h s ls=L at HLI HIN
 obtain ⟨t,a1,n1,c1,a2,n2,c2,a3,n3,c3⟩:=h
 clear hw2 hg2 hs2 hB2 hi hg hl
 go_enter Tryz.func3,Tryz.ntmps3
 go_wp2_with fail
 rw [<- HW2.out]
 refine (awake11_any w2).mono ?_
 rintro e w3 ⟨rfl,hb3⟩
 have HB3:=qz (HB2.out.trans (hb3.mono HB2.out.size))
 have HG3:=qz (HG2.out.below hb3 (by omega))
 have HS3:=qz (HS2.out.below hb3 (by omega))
 have hz3:w.heap.size+2<=w3.heap.size:=by have:=hb3.size;omega
 clear hb3
 obtain ⟨g0,g1,g2⟩:=HG3.out
 obtain ⟨s0,s1,s2,s3⟩:=HS3.out
 simp only [] at s0 s1 s2 s3
 go_wp2_with fail
 refine (HLI.out _ HB3.out).mono ?_
 rintro e w4 ⟨rfl,hb4⟩
 have HB4:=qz (HB3.out.trans (hb4.mono HB3.out.size))
 have HG4:=qz (HG3.out.below hb4 (by omega))
 have HS4:=qz (HS3.out.below hb4 (by omega))
 have hz4:w.heap.size+2<=w4.heap.size:=by have:=hb4.size;omega
 clear hb4 g0 g1 g2 s0 s1 s2 s3 HLI
 cases L with
 | false =>
   go_wp2_with fail
   go_ret
   exact ⟨rfl,HB4.out⟩
 | true =>
 by_cases hn0:n=0
 · subst hn0
   go_wp2_with fail
   go_ret
   exact ⟨rfl,HB4.out⟩
 have e0:((n:Int)==0)=false:=by rw [beq_eq_false_iff_ne];omega
 by_cases hn6:6<n
 · have e1:decide ((n:Int)>6)=true:=by rw [decide_eq_true_eq];omega
   have e2:(6:Int)<(n:Int):=by omega
   clear hn6
   go_wp2_with fail
   go_ret
   exact ⟨rfl,HB4.out⟩
 have e1:decide ((n:Int)>6)=false:=by rw [decide_eq_false_iff_not];omega
 have e2:¬ (6:Int)<(n:Int):=by omega
 obtain ⟨gz,q1,q2,q3,qn,qls,qgr,qsr,qt⟩:=HIN.out rfl
 simp only [] at q1 q2 q3
 have hok:=Okay.of qgr
 have hrn:s.rs.length<=5:=by have:=HI.out.rs.1;simp only [] at this;omega
 have hbn:s.bl.length<=20:=by have:=HI.out.bl.1;simp only [] at this;omega
 obtain ⟨lb,lo,rfl,hlb,hlc⟩:=HL.out.cells (by omega)
 obtain ⟨ai,ni,ci,p0,hI⟩:=hlc 0 (by omega)
 have hni:ni<=20:=by rw [<- hI.1];exact qls 0 (by rw [HLL.out];omega) (by omega)
 have hil:(ls.getD 0 []).length=ni:=hI.1
 rw [Nat.add_zero] at p0
 have HP:=qz fun (V:World) (hV:Kept w4 V)=>pstep_any W H g ⟨t,a1,n1,c1,a2,n2,c2,a3,n3,c3⟩ s ai ni ci (ls.getD 0 []) V hok ((HI.out.below (HB4.out.trans (Below.mono hV HB4.out.size))).mono (HB4.out.trans (Below.mono hV HB4.out.size)).size) ((hI.below (HB4.out.trans (Below.mono hV HB4.out.size))).mono (HB4.out.trans (Below.mono hV HB4.out.size)).size) qsr (by omega) (by omega) (by omega) (by omega)
 have HQ:=qz fun (V:World) (hV:Below w.heap.size w V)=>rstep_any W H g ⟨t,a1,n1,c1,a2,n2,c2,a3,n3,c3⟩ s ai ni ci (ls.getD 0 []) V hok ((HI.out.below hV).mono hV.size) ((hI.below hV).mono hV.size) qsr (by omega) (by omega) (by omega) (by omega)
 have HRP:=qz fun (V:World) (hV:Below w.heap.size w V)=>prun_any W H g ⟨t,a1,n1,c1,a2,n2,c2,a3,n3,c3⟩ s (some ⟨lb,lo,none⟩) n c ls V hok ((HI.out.below hV).mono hV.size) ((HL.out.below hV).mono hV.size) qsr (by omega) (by omega) (by omega) (by omega) (fun i hi=>qls i (by rw [HLL.out];exact hi) (by omega))
 have HRR:=qz fun (V:World) (hV:Below w.heap.size w V)=>rrun_any W H g ⟨t,a1,n1,c1,a2,n2,c2,a3,n3,c3⟩ s (some ⟨lb,lo,none⟩) n c ls V hok ((HI.out.below hV).mono hV.size) ((HL.out.below hV).mono hV.size) qsr (by omega) (by omega) (by omega) (by omega) (fun i hi=>qls i (by rw [HLL.out];exact hi) (by omega))
 have HCL:Hid ((zbr (zac (zaa g)) s (ls.getD 0 [])).length=ni):=by unfold Hid;rw [codesS_len];exact hil
 generalize stepG W H (zaa g) s (ls.getD 0 [])=SA at HP HQ
 generalize zbr (zac (zaa g)) s (ls.getD 0 [])=CA at HP HQ HCL
 generalize waysG W H (zaa g) (readyG W H (zaa g) s (ls.getD 0 []))=WA at HP HQ
 generalize runG W H (zaa g) s ls=RA at HRP HRR
 have HSS:=qz (sameSt_all (s:=SA) (t:=SA) rfl rfl rfl rfl)
 have HSR:=qz (sameSt_all (s:=RA) (t:=RA) rfl rfl rfl rfl)
 have HPC:Hid (∀ V,w.heap.size<=V.heap.size->Below w.heap.size w V->V.cell? ⟨lb,lo,none⟩=some (.slice ai ni ci)):=fun V _ hV=>(hV.cell (p:=⟨lb,lo,none⟩) hlb).trans p0
 have HKS:Hid (∀ A V,Below w.heap.size w A->GridAt A w.heap.size W H g->StAt A (w.heap.size+1) ⟨t,a1,n1,c1,a2,n2,c2,a3,n3,c3⟩->w.heap.size+2<=A.heap.size->Kept A V->Kept A V/\(V.cell? ⟨w.heap.size,0,none⟩=some (.int .i64 W)/\V.cell? ⟨w.heap.size,1,none⟩=some (.int .i64 H)/\V.cell? ⟨w.heap.size,2,none⟩=some (.string g))/\(V.cell? ⟨w.heap.size+1,0,none⟩=some (.int .i64 t)/\V.cell? ⟨w.heap.size+1,1,none⟩=some (.slice a1 n1 c1)/\V.cell? ⟨w.heap.size+1,2,none⟩=some (.slice a2 n2 c2)/\V.cell? ⟨w.heap.size+1,3,none⟩=some (.slice a3 n3 c3))/\V.cell? ⟨lb,lo,none⟩=some (.slice ai ni ci)):=fun A V hA hG hS hz hV=>by
  obtain ⟨x0,x1,x2⟩:=GridAt.below hG (show Below A.heap.size A V from hV) (by omega)
  obtain ⟨y0,y1,y2,y3⟩:=StAt.below hS (show Below A.heap.size A V from hV) (by omega)
  exact ⟨hV,⟨x0,x1,x2⟩,⟨y0,y1,y2,y3⟩,HPC.out V (hA.trans (Below.mono hV hA.size)).size (hA.trans (Below.mono hV hA.size))⟩
 have HK4:=qz fun V (hV:Kept w4 V)=>HKS.out w4 V HB4.out HG4.out HS4.out hz4 hV
 have hlw4:lb<w4.heap.size:=by omega
 have hn00:0<n:=by omega
 clear hlc hI p0 qls qsr qgr qt hok hil qn gz q1 q2 q3 hrn hbn HIN
 obtain ⟨g0,g1,g2⟩:=HG4.out
 obtain ⟨s0,s1,s2,s3⟩:=HS4.out
 simp only [] at s0 s1 s2 s3
 have p0:=HPC.out w4 HB4.out.size HB4.out
 have k0:Kept w4 w4:=Kept.refl _
 have HZ0:Hid (((w4.alloc (.cells #[.int .i64 0,.slice none 0 0,.slice none 0 0,.slice none 0 0] 28)).drew).heap[w4.heap.size]?=some (shO ⟨0,none,0,0,none,0,0,none,0,0⟩)):=heap_alloc_new w4 _
 have HZ1:Hid ((w4.alloc (.cells #[.int .i64 0,.slice none 0 0,.slice none 0 0,.slice none 0 0] 28)).heap[w4.heap.size]?=some (shO ⟨0,none,0,0,none,0,0,none,0,0⟩)):=heap_alloc_new w4 _
 go_upto_region 5 with fail
 go_cut [9,10,11] from 37 to 46 (fun v9 v10 v11 V=>∃ (bt:Nat) (h1:Sh) (x1:Option Addr) (y1:Nat) (x2:Option Addr) (m2 y2:Nat),v9=.pointer (some ⟨bt,0,none⟩)/\v10=.slice x1 ni y1/\v11=.slice x2 m2 y2/\Hid (Got w4 V bt h1 x1 ni y1 x2 m2 y2 SA CA WA))
 case first =>
  go_region_held3 (fun V=>Kept w4 V/\(V.cell? ⟨w.heap.size,0,none⟩=some (.int .i64 W)/\V.cell? ⟨w.heap.size,1,none⟩=some (.int .i64 H)/\V.cell? ⟨w.heap.size,2,none⟩=some (.string g))/\(V.cell? ⟨w.heap.size+1,0,none⟩=some (.int .i64 t)/\V.cell? ⟨w.heap.size+1,1,none⟩=some (.slice a1 n1 c1)/\V.cell? ⟨w.heap.size+1,2,none⟩=some (.slice a2 n2 c2)/\V.cell? ⟨w.heap.size+1,3,none⟩=some (.slice a3 n3 c3))/\V.cell? ⟨lb,lo,none⟩=some (.slice ai ni ci))
   (first|exact HK4.out _ (by assumption)|exact HK4.out _ (Kept.drew (by assumption))|exact HK4.out _ (zab (by assumption) _)|exact HK4.out _ (Kept.drew (zab (by assumption) _))|exact HK4.out _ (zah (by assumption) (zL _) _ _ _ _)|exact HK4.out _ (Kept.drew (zah (by assumption) (zL _) _ _ _ _)))
   (first
    | (go_at_call 6;refine (HP.out _ ?_).mono ?_;(first|exact k0|exact Kept.drew k0|exact zab k0 _|exact Kept.drew (zab k0 _));rintro e w5 ⟨h1,x1,y1,x2,m2,y2,rfl,hc5,ho5,hv5,hl5,hb5⟩;obtain ⟨t',v1,f1,d1,v2,f2,d2,v3,f3,d3⟩:=h1
       have kd:Kept w4 w5:=by first|exact Below.trans k0 (Below.mono hb5 (Below.size k0))|exact Below.trans (Kept.drew k0) (Below.mono hb5 (Below.size (Kept.drew k0)))|exact Below.trans (zab k0 _) (Below.mono hb5 (Below.size (zab k0 _)))|exact Below.trans (Kept.drew (zab k0 _)) (Below.mono hb5 (Below.size (Kept.drew (zab k0 _))))
       first
       | (have hx5:=(hb5.block w4.heap.size (by simp)).trans HZ0.out;obtain ⟨z0,z1,z2,z3⟩:=zai hx5;have y0:=zao hx5 0;have y1':=zao hx5 1;have y2':=zao hx5 2;have y3:=zao hx5 3)
       | (have hx5:=(hb5.block w4.heap.size (by simp)).trans HZ1.out;obtain ⟨z0,z1,z2,z3⟩:=zai hx5;have y0:=zao hx5 0;have y1':=zao hx5 1;have y2':=zao hx5 2;have y3:=zao hx5 3)
       | skip))
  all_goals go_wp2_with fail
  all_goals go_meet
  all_goals (first
   | exact ⟨w5.heap.size,⟨t',v1,f1,d1,v2,f2,d2,v3,f3,d3⟩,x1,y1,x2,m2,y2,rfl,rfl,rfl,got_after hc5 ho5 hv5 HCL.out hl5 kd⟩
   | exact ⟨w4.heap.size,⟨t',v1,f1,d1,v2,f2,d2,v3,f3,d3⟩,x1,y1,x2,m2,y2,rfl,rfl,rfl,got_before (h1:=⟨t',v1,f1,d1,v2,f2,d2,v3,f3,d3⟩) hx5 hc5 ho5 hv5 HCL.out hl5 kd (by simp)⟩)
 case rest =>
 obtain ⟨b9,h9,x9,y9,u9,m9,z9,rfl,rfl,rfl,HA6⟩:=hcut
 obtain ⟨w6,hw6⟩:∃ w6,w6=wc:=⟨_,rfl⟩
 subst hw6
 have hz46:=Below.size HA6.out.kp
 have HB6:=qz (HB4.out.trans (Below.mono HA6.out.kp HB4.out.size))
 have HG6:=qz (GridAt.below HG4.out (show Below w4.heap.size w4 w6 from HA6.out.kp) (by omega))
 have HS6:=qz (StAt.below HS4.out (show Below w4.heap.size w4 w6 from HA6.out.kp) (by omega))
 have hz6:w.heap.size+2<=w6.heap.size:=by omega
 have HK6:=qz fun V (hV:Kept w6 V)=>HKS.out w6 V HB6.out HG6.out HS6.out hz6 hV
 have hlw6:lb<w6.heap.size:=by omega
 clear g0 g1 g2 s0 s1 s2 s3 p0 k0 HZ0 HZ1 HK4
 obtain ⟨g0,g1,g2⟩:=HG6.out
 obtain ⟨s0,s1,s2,s3⟩:=HS6.out
 simp only [] at s0 s1 s2 s3
 have p0:=HPC.out w6 HB6.out.size HB6.out
 have k0:Kept w6 w6:=Kept.refl _
 have HP:=qz fun (V:World) (hV:Kept w6 V)=>HQ.out V (HB6.out.trans (Below.mono hV HB6.out.size))
 have HZ0:Hid (((w6.alloc (.cells #[.int .i64 0,.slice none 0 0,.slice none 0 0,.slice none 0 0] 28)).drew).heap[w6.heap.size]?=some (shO ⟨0,none,0,0,none,0,0,none,0,0⟩)):=heap_alloc_new w6 _
 have HZ1:Hid ((w6.alloc (.cells #[.int .i64 0,.slice none 0 0,.slice none 0 0,.slice none 0 0] 28)).heap[w6.heap.size]?=some (shO ⟨0,none,0,0,none,0,0,none,0,0⟩)):=heap_alloc_new w6 _
 go_upto_region 6 with fail
 go_cut [12,13,14] from 47 to 56 (fun v9 v10 v11 V=>∃ (bt:Nat) (h1:Sh) (x1:Option Addr) (y1:Nat) (x2:Option Addr) (m2 y2:Nat),v9=.pointer (some ⟨bt,0,none⟩)/\v10=.slice x1 ni y1/\v11=.slice x2 m2 y2/\Hid (Got w6 V bt h1 x1 ni y1 x2 m2 y2 SA CA WA))
 case first =>
  go_region_held3 (fun V=>Kept w6 V/\(V.cell? ⟨w.heap.size,0,none⟩=some (.int .i64 W)/\V.cell? ⟨w.heap.size,1,none⟩=some (.int .i64 H)/\V.cell? ⟨w.heap.size,2,none⟩=some (.string g))/\(V.cell? ⟨w.heap.size+1,0,none⟩=some (.int .i64 t)/\V.cell? ⟨w.heap.size+1,1,none⟩=some (.slice a1 n1 c1)/\V.cell? ⟨w.heap.size+1,2,none⟩=some (.slice a2 n2 c2)/\V.cell? ⟨w.heap.size+1,3,none⟩=some (.slice a3 n3 c3))/\V.cell? ⟨lb,lo,none⟩=some (.slice ai ni ci))
   (first|exact HK6.out _ (by assumption)|exact HK6.out _ (Kept.drew (by assumption))|exact HK6.out _ (zab (by assumption) _)|exact HK6.out _ (Kept.drew (zab (by assumption) _))|exact HK6.out _ (zah (by assumption) (zL _) _ _ _ _)|exact HK6.out _ (Kept.drew (zah (by assumption) (zL _) _ _ _ _)))
   (first
    | (go_at_call 7;refine (HP.out _ ?_).mono ?_;(first|exact k0|exact Kept.drew k0|exact zab k0 _|exact Kept.drew (zab k0 _));rintro e w5 ⟨h1,x1,y1,x2,m2,y2,rfl,hc5,ho5,hv5,hl5,hb5⟩;obtain ⟨t',v1,f1,d1,v2,f2,d2,v3,f3,d3⟩:=h1
       have kd:Kept w6 w5:=by first|exact Below.trans k0 (Below.mono hb5 (Below.size k0))|exact Below.trans (Kept.drew k0) (Below.mono hb5 (Below.size (Kept.drew k0)))|exact Below.trans (zab k0 _) (Below.mono hb5 (Below.size (zab k0 _)))|exact Below.trans (Kept.drew (zab k0 _)) (Below.mono hb5 (Below.size (Kept.drew (zab k0 _))))
       first
       | (have hx5:=(hb5.block w6.heap.size (by simp)).trans HZ0.out;obtain ⟨z0,z1,z2,z3⟩:=zai hx5;have y0:=zao hx5 0;have y1':=zao hx5 1;have y2':=zao hx5 2;have y3:=zao hx5 3)
       | (have hx5:=(hb5.block w6.heap.size (by simp)).trans HZ1.out;obtain ⟨z0,z1,z2,z3⟩:=zai hx5;have y0:=zao hx5 0;have y1':=zao hx5 1;have y2':=zao hx5 2;have y3:=zao hx5 3)
       | skip))
  all_goals go_wp2_with fail
  all_goals go_meet
  all_goals (first
   | exact ⟨w5.heap.size,⟨t',v1,f1,d1,v2,f2,d2,v3,f3,d3⟩,x1,y1,x2,m2,y2,rfl,rfl,rfl,got_after hc5 ho5 hv5 HCL.out hl5 kd⟩
   | exact ⟨w6.heap.size,⟨t',v1,f1,d1,v2,f2,d2,v3,f3,d3⟩,x1,y1,x2,m2,y2,rfl,rfl,rfl,got_before (h1:=⟨t',v1,f1,d1,v2,f2,d2,v3,f3,d3⟩) hx5 hc5 ho5 hv5 HCL.out hl5 kd (by simp)⟩)
 case rest =>
 obtain ⟨b12,h12,x12,y12,u12,m12,z12,rfl,rfl,rfl,HR8⟩:=hcut
 obtain ⟨w8,hw8⟩:∃ w8,w8=wc:=⟨_,rfl⟩
 subst hw8
 have HA8:=qz (HA6.out.on HR8.out.kp)
 have hz68:=Below.size HR8.out.kp
 have HB8:=qz (HB6.out.trans (Below.mono HR8.out.kp HB6.out.size))
 have HG8:=qz (GridAt.below HG6.out (show Below w6.heap.size w6 w8 from HR8.out.kp) (by omega))
 have HS8:=qz (StAt.below HS6.out (show Below w6.heap.size w6 w8 from HR8.out.kp) (by omega))
 have HSM:=qz (rstSame_any h9 h12 SA SA w8.heap.size w8 HA8.out.st HR8.out.st (zL _))
 rw [HSS.out] at HSM
 clear g0 g1 g2 s0 s1 s2 s3 p0 k0 HZ0 HZ1 HK6 HP HQ HSS
 obtain ⟨c0,c1',c2',c3'⟩:=zai HA8.out.box
 obtain ⟨d0,d1,d2,d3⟩:=zai HR8.out.box
 obtain ⟨ta,o1,r1,k1,o2,r2,k2,o3,r3,k3⟩:=h9
 obtain ⟨tb,p1,f1,l1,p2,f2,l2,p3,f3,l3⟩:=h12
 simp only [] at c0 c1' c2' c3' d0 d1 d2 d3
 go_wp2_with fail
 refine HSM.out.mono ?_
 rintro e w9 ⟨rfl,hb9⟩
 have hz89:=hb9.size
 have HB9:=qz (HB8.out.trans (hb9.mono HB8.out.size))
 have HG9:=qz (GridAt.below HG8.out hb9 (by omega))
 have HS9:=qz (StAt.below HS8.out hb9 (by omega))
 have hco:=rcodes_same x9 x12 ni y9 ni y12 w9.heap.size w9.heap.size CA w9 ((HA8.out.co.below hb9).mono hz89) ((HR8.out.co.below hb9).mono hz89) (zL _) (zL _)
 have HCO:=qz hco
 have HW1:=qz ((HA8.out.wa.below hb9).mono hz89)
 have HW2':=qz ((HR8.out.wa.below hb9).mono hz89)
 clear hco hb9 c0 c1' c2' c3' d0 d1 d2 d3 HSM
 go_wp2_with fail
 refine HCO.out.mono ?_
 rintro e wA ⟨rfl,hbA⟩
 have hz9A:=hbA.size
 have HBA:=qz (HB9.out.trans (hbA.mono HB9.out.size))
 have HGA:=qz (GridAt.below HG9.out hbA (by omega))
 have HSA:=qz (StAt.below HS9.out hbA (by omega))
 have HIN:=qz (ints_anyZ u9 u12 m9 z9 m12 z12 wA.heap.size WA WA wA ((HW1.out.below hbA).mono hz9A) ((HW2'.out.below hbA).mono hz9A))
 rw [show decide (WA=WA)=true from decide_eq_true rfl] at HIN
 clear hbA HCO
 go_wp2_with fail
 refine HIN.out.mono ?_
 rintro e wB ⟨rfl,nd,hnd⟩
 have hbB:Below wA.heap.size wA wB:=by rw [hnd];exact zaf (zX _ _) nd
 clear hnd HIN
 have hzAB:=hbB.size
 have HBB:=qz (HBA.out.trans (hbB.mono HBA.out.size))
 have HGB:=qz (GridAt.below HGA.out hbB (by omega))
 have HSB:=qz (StAt.below HSA.out hbB (by omega))
 have hzB:w.heap.size+2<=wB.heap.size:=by omega
 have HKB:=qz fun V (hV:Kept wB V)=>HKS.out wB V HBB.out HGB.out HSB.out hzB hV
 have HPA:Hid (∀ V,Kept wB V->Calls Tryz.prog 11 #[zam W H g,shV ⟨t,a1,n1,c1,a2,n2,c2,a3,n3,c3⟩,.slice (some ⟨lb,lo,none⟩) n c] V (fun e V'=>∃ h',e=.returned (shV h')/\StIn V' V'.heap.size h' RA/\Kept wB V')):=fun V hV =>
  (HRP.out V (HBB.out.trans (Below.mono hV HBB.out.size))).mono fun e V' ⟨h',q1,q2,q3⟩=>⟨h',q1,q2,Below.trans hV (q3.mono (Below.size hV))⟩
 have HPB:Hid (∀ A V,Kept A V->Kept wB V->Calls Tryz.prog 12 #[zam W H g,shV ⟨t,a1,n1,c1,a2,n2,c2,a3,n3,c3⟩,.slice (some ⟨lb,lo,none⟩) n c] V (fun e V'=>∃ h',e=.returned (shV h')/\StIn V' V'.heap.size h' RA/\Kept A V'/\Kept wB V')):=fun A V hA hV =>
  (HRR.out V (HBB.out.trans (Below.mono hV HBB.out.size))).mono fun e V' ⟨h',q1,q2,q3⟩=>⟨h',q1,q2,Below.trans hA (q3.mono (Below.size hA)),Below.trans hV (q3.mono (Below.size hV))⟩
 have k5:Kept wB wB:=Kept.refl _
 obtain ⟨g0,g1,g2⟩:=HGB.out
 obtain ⟨s0,s1,s2,s3⟩:=HSB.out
 simp only [] at s0 s1 s2 s3
 clear HRP HRR
 go_upto_region 10 with fail
 go_region_held3 (fun V=>Kept wB V/\(V.cell? ⟨w.heap.size,0,none⟩=some (.int .i64 W)/\V.cell? ⟨w.heap.size,1,none⟩=some (.int .i64 H)/\V.cell? ⟨w.heap.size,2,none⟩=some (.string g))/\(V.cell? ⟨w.heap.size+1,0,none⟩=some (.int .i64 t)/\V.cell? ⟨w.heap.size+1,1,none⟩=some (.slice a1 n1 c1)/\V.cell? ⟨w.heap.size+1,2,none⟩=some (.slice a2 n2 c2)/\V.cell? ⟨w.heap.size+1,3,none⟩=some (.slice a3 n3 c3))/\V.cell? ⟨lb,lo,none⟩=some (.slice ai ni ci))
  (first|exact HKB.out _ (by assumption)|exact HKB.out _ (Kept.drew (by assumption)))
  (first
   | (go_at_call 11;refine (HPA.out _ (by first|exact k5|exact Kept.drew k5)).mono ?_;rintro e w6' ⟨h6,rfl,hr6,k6⟩)
   | (go_at_call 12;refine (HPB.out w6' _ (by first|exact Kept.refl _|exact Kept.drew (Kept.refl _)) (by first|exact k6|exact Kept.drew k6)).mono ?_;rintro e w7' ⟨h7,rfl,hr7,m7,k7⟩;have hr67:=(hr6.below (show Below w6'.heap.size w6' w7' from m7)).mono (Below.size m7))
   | (go_at_call 8;refine (rstSame_any h6 h7 RA RA w7'.heap.size _ (by first|exact hr67|exact hr67.below (Below.drew (zX _ _))) (by first|exact hr7|exact hr7.below (Below.drew (zX _ _))) (by first|exact zL _|simp)).mono ?_;rintro e w8' ⟨rfl,hb8⟩;have k8:Kept wB w8':=by first|exact Below.trans k7 (Below.mono hb8 (Below.size k7))|exact Below.trans (Kept.drew k7) (Below.mono hb8 (Below.size (Kept.drew k7)))))
 have HBE:=qz (HBB.out.trans (Below.mono k8 HBB.out.size))
 rw [HSR.out]
 clear hr6 hr7 k6 k7 k8 g0 g1 g2 s0 s1 s2 s3
 go_wp2_with fail
 go_ret
 exact ⟨rfl,HBE.out⟩
end Go.Proofs.YtknnnbpgkfaapaaGreat.Vm
