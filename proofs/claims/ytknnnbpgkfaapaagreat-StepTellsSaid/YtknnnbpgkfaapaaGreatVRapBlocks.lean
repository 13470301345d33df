import Derived.Test.YtknnnbpgkfaapaaGreatQ
import Derived.Test.YtknnnbpgkfaapaaGreatVRapOrder
import Derived.Deep.LoopGhost
import Derived.Deep.RegionLaw
import Derived.BigRegion
import Derived.BigQuiet
set_option maxRecDepth 100000
set_option linter.unusedSimpArgs false
set_option linter.unusedVariables false
namespace Go.Proofs.YtknnnbpgkfaapaaGreat.Vm
open Go Go.RowKit
theorem wrap_nat (j:Nat)(h:j<=1000000):IntKind.i64.wrap (j:Int)=(j:Int):=by rw [IntKind.wrap_i64];omega
set_option maxHeartbeats 4000000 in
theorem rap_block (W H:Int)(g:ByteArray)(h:Sh)(s:St)(x:Inp)(w:World)(hg:g.size<=maxLen)(hin:StIn w w.heap.size h s)(hn1:h.n1<=90000)(hn2:h.n2<=90000)(hn3:h.n3<=90000)(hup:s.bl.Pairwise (·<·))(hk:x.k=5) :
 Calls Tryz.prog 47 #[zam W H g,shV h,inpV x] w fun e w'=>∃ h',e=.returned (.tuple #[shV h',.int .i64 (codeB (zac (zaa g)) s x)])/\Fine w' h s w.heap.size h' (if codeB (zac (zaa g)) s x=0 then turnB s x else s)/\Below w.heap.size w w':=by
 obtain ⟨w4,hw4,hB4,hz4,hg4,hs4,hx4,hq4,hf4⟩:=gsxz_head w W H g h x
 have HCP:=qz (rcopy_any h s w.heap.size w4 (hin.below hB4) (by omega) (by omega) (by omega) (by omega))
 obtain ⟨code,hcode⟩:∃ code,codeB (zac (zaa g)) s x=code:=⟨_,rfl⟩
 obtain ⟨res,hres⟩:∃ res,(if codeB (zac (zaa g)) s x=0 then turnB s x else s)=res:=⟨_,rfl⟩
 rw [hres,hcode]
 rw [hcode] at hres
 have HR0:Hid (code=0->res=⟨s.tick,s.rs,s.ts,insZ s.bl x.a⟩):=fun h=>by rw [<- hres,if_pos h];rfl
 have HR1:Hid (code≠0->res=s):=fun h=>by rw [<- hres,if_neg h]
 obtain ⟨fa,hfa⟩:∃ fa,zac (zaa g) x.a=fa:=⟨_,rfl⟩
 have HCO:Hid (code=if fa=false then 5 else if x.a∈s.bl then 6 else 0):=by
  unfold Hid
  rw [<- hcode,<- hfa]
  rfl
 have HFL:=qz fun (V:World)=>zaw W H x.a g V hg
 rw [hfa] at HFL
 have HBK:=qz fun (V:World) (hV:Below w.heap.size w V)=>rblocked_any h s x.a w.heap.size V (hin.below hV) hV.size
 have HUP:=qz hup
 have HC:=qz hin.bl.cells
 have HN3:=qz hin.bl.1
 have hnm3:=Nat.le_trans hin.bl.2.1 hin.bl.2.2.1
 unfold maxLen at hnm3
 clear hcode hres hfa hup
 have HQB4:Hid (StB w4 (w.heap.size+1+1+1)):=by
  obtain ⟨u,hu,hbu,zu,_⟩:=gsx_head w W H g h x
  refine ⟨#[.int .i64 0,.slice none 0 0,.slice none 0 0,.slice none 0 0],?_⟩
  rw [hw4,<- hu,show w.heap.size+1+1+1=u.heap.size by omega]
  exact heap_alloc_new u _
 have HW:=qz hw4
 have HB4:=qz hB4
 have HG4:=qz hg4
 have HS4:=qz hs4
 have HX4:=qz hx4
 have HQ4:=qz hq4
 have HF4:=qz hf4
 have HIN:=qz hin
 have HN1:=qz hin.rs.1
 have HN2:=qz hin.ts.1
 have hnm1:=hin.rs.len
 have hnm2:=hin.ts.len
 unfold maxLen at hnm1 hnm2
 obtain ⟨t,a1,n1,c1,a2,n2,c2,a3,n3,c3⟩:=h
 obtain ⟨xk,xa,xb,xc⟩:=x
 obtain ⟨s0,s1,s2,s3⟩:=hs4
 obtain ⟨x0,x1,x2,x3⟩:=hx4
 simp only [] at s0 s1 s2 s3 x0 x1 x2 x3 hk hn1 hn2 hn3 HN1 HN2 hnm1 hnm2 hnm3 HC HN3 HR0 HCO HFL HBK
 subst hk
 clear hin hw4 hB4 hg4 hq4 hf4 hg
 go_enter Tryz.func47,Tryz.ntmps47
 go_wp2_with fail
 rw [<- HW.out]
 refine HCP.out.mono ?_
 rintro e w5 ⟨h1,rfl,hc5,hb5⟩
 have hz5:=hb5.size
 have HW5:=qz (HB4.out.trans (hb5.mono HB4.out.size))
 have HG5:=qz (HG4.out.below hb5 (by omega))
 have HS5:=qz (HS4.out.below hb5 (by omega))
 have HX5:=qz (HX4.out.below hb5 (by omega))
 have HQ5:=qz (HQ4.out.below hb5 (by omega))
 have HF5:Hid (∀ i,w5.frozen? ⟨w.heap.size+1+1+1,i,none⟩=false):=fun i=>(hb5.frozen (p:=⟨w.heap.size+1+1+1,i,none⟩) (show w.heap.size+1+1+1<w4.heap.size by omega)).trans (HF4.out i)
 have HZ4:=qz hz4
 have hl0:w.heap.size<w5.heap.size:=by omega
 have hl1:w.heap.size+1<w5.heap.size:=by omega
 have hl2:w.heap.size+1+1<w5.heap.size:=by omega
 have hl3:w.heap.size+1+1+1<w5.heap.size:=by omega
 have hba:Below w5.heap.size w5 (w5.alloc (shO h1)):=(zX _ _).alloc (zL _) _
 obtain ⟨w6,hw6⟩:∃ w6,w6=w5.alloc (shO h1):=⟨_,rfl⟩
 have hz6:w6.heap.size=w5.heap.size+1:=by rw [hw6];simp
 have hob:StB w6 w5.heap.size:=⟨_,by rw [hw6];exact heap_alloc_new w5 _⟩
 have hoa:StAt w6 w5.heap.size h1:=by rw [hw6];exact zbo w5 h1
 have hof:∀ i,w6.frozen? ⟨w5.heap.size,i,none⟩=false:=fun i=>by rw [hw6];simp
 rw [<- hw6] at hba
 have HW6:=qz hw6
 have HBW6:=qz (HW5.out.trans (hba.mono HW5.out.size))
 have HC5:=qz hc5
 have HBA:=qz hba
 have HOB:=qz hob
 have HOA:=qz hoa
 have HOF:=qz hof
 have HG6:=qz (HG5.out.below hba (by omega))
 have HS6:=qz (HS5.out.below hba (by omega))
 have HX6:=qz (HX5.out.below hba (by omega))
 have HQ6:=qz (HQ5.out.below hba (by omega))
 have HF6:Hid (∀ i,w6.frozen? ⟨w.heap.size+1+1+1,i,none⟩=false):=fun i=>(hba.frozen (p:=⟨w.heap.size+1+1+1,i,none⟩) (show w.heap.size+1+1+1<w5.heap.size by omega)).trans (HF5.out i)
 have HZ6:=qz hz6
 have HZ5:Hid (w4.heap.size<=w5.heap.size):=hz5
 have HQB:=qz ((HQB4.out.calls hb5).calls hba)
 obtain ⟨g0,g1,g2⟩:=id HG5.out
 obtain ⟨x0',x1',x2',x3'⟩:=id HX5.out
 obtain ⟨s0',s1',s2',s3'⟩:=id HS5.out
 obtain ⟨q0,q1,q2,q3⟩:=id HQ5.out
 have f0:=HF5.out 0
 have f1:=HF5.out 1
 have f2:=HF5.out 2
 have f3:=HF5.out 3
 obtain ⟨t',b1,m1,d1,b2,m2,d2,b3,m3,d3⟩:=h1
 simp only [] at x0' x1' x2' x3' s0' s1' s2' s3' q0 q1 q2 q3
 clear s0 s1 s2 s3 x0 x1 x2 x3 hb5 hc5 HCP hz4 hz5 hba hw6 hob hoa hof hz6
 go_wp2_with fail
 rw [<- HW6.out]
 refine (HFL.out _).mono ?_
 rintro e w7 ⟨rfl,hb7⟩
 have HB7:=qz hb7
 clear g0 g1 g2 x0' x1' x2' x3' s0' s1' s2' s3' q0 q1 q2 q3 f0 f1 f2 f3
 have HW7:=qz (HBW6.out.trans (HB7.out.mono HBW6.out.size))
 obtain ⟨g0,g1,g2⟩:=HG6.out.below HB7.out (show w.heap.size<w6.heap.size by have:=HZ6.out;omega)
 obtain ⟨x0',x1',x2',x3'⟩:=HX6.out.below HB7.out (show w.heap.size+1+1<w6.heap.size by have:=HZ6.out;omega)
 obtain ⟨s0',s1',s2',s3'⟩:=HS6.out.below HB7.out (show w.heap.size+1<w6.heap.size by have:=HZ6.out;omega)
 obtain ⟨q0,q1,q2,q3⟩:=HQ6.out.below HB7.out (show w.heap.size+1+1+1<w6.heap.size by have:=HZ6.out;omega)
 have f0:=(HB7.out.frozen (p:=⟨w.heap.size+1+1+1,0,none⟩) (show w.heap.size+1+1+1<w6.heap.size by have:=HZ6.out;omega)).trans (HF6.out 0)
 have f1:=(HB7.out.frozen (p:=⟨w.heap.size+1+1+1,1,none⟩) (show w.heap.size+1+1+1<w6.heap.size by have:=HZ6.out;omega)).trans (HF6.out 1)
 have f2:=(HB7.out.frozen (p:=⟨w.heap.size+1+1+1,2,none⟩) (show w.heap.size+1+1+1<w6.heap.size by have:=HZ6.out;omega)).trans (HF6.out 2)
 have f3:=(HB7.out.frozen (p:=⟨w.heap.size+1+1+1,3,none⟩) (show w.heap.size+1+1+1<w6.heap.size by have:=HZ6.out;omega)).trans (HF6.out 3)
 simp only [] at x0' x1' x2' x3' s0' s1' s2' s3' q0 q1 q2 q3
 clear hb7 HFL
 cases fa
 · have hc5:code=5:=by have:=HCO.out;rw [if_pos rfl] at this;exact this
   have HRES:=qz (HR1.out (by omega))
   subst hc5
   clear HR0 HR1 HCO HBK
   have HRR:=qz (rap_err0 HIN.out HW7.out (show w.heap.size<=w.heap.size+1+1+1 by omega) (.int .i64 t) (.slice a1 n1 c1) (.slice a2 n2 c2) (.slice a3 n3 c3))
   go_wp2_with fail
   refine bodyPost_ret (v:=.tuple #[shV ⟨t,a1,n1,c1,a2,n2,c2,a3,n3,c3⟩,.int .i64 5]) (by simp [results,Tryz.results47,go_sem,q0,q1,q2,q3]) rfl ⟨_,by first|rfl|trivial,?_⟩
   rw [HRES.out]
   exact HRR.out
 go_wp2_with fail
 refine (HBK.out _ HW7.out).mono ?_
 rintro e w8 ⟨r,rfl,hr,hb8⟩
 have HB8:=qz (HB7.out.trans (hb8.mono HB7.out.size))
 clear g0 g1 g2 x0' x1' x2' x3' s0' s1' s2' s3' q0 q1 q2 q3 f0 f1 f2 f3
 have HW8:=qz (HBW6.out.trans (HB8.out.mono HBW6.out.size))
 obtain ⟨g0,g1,g2⟩:=HG6.out.below HB8.out (show w.heap.size<w6.heap.size by have:=HZ6.out;omega)
 obtain ⟨x0',x1',x2',x3'⟩:=HX6.out.below HB8.out (show w.heap.size+1+1<w6.heap.size by have:=HZ6.out;omega)
 obtain ⟨s0',s1',s2',s3'⟩:=HS6.out.below HB8.out (show w.heap.size+1<w6.heap.size by have:=HZ6.out;omega)
 obtain ⟨q0,q1,q2,q3⟩:=HQ6.out.below HB8.out (show w.heap.size+1+1+1<w6.heap.size by have:=HZ6.out;omega)
 have f0:=(HB8.out.frozen (p:=⟨w.heap.size+1+1+1,0,none⟩) (show w.heap.size+1+1+1<w6.heap.size by have:=HZ6.out;omega)).trans (HF6.out 0)
 have f1:=(HB8.out.frozen (p:=⟨w.heap.size+1+1+1,1,none⟩) (show w.heap.size+1+1+1<w6.heap.size by have:=HZ6.out;omega)).trans (HF6.out 1)
 have f2:=(HB8.out.frozen (p:=⟨w.heap.size+1+1+1,2,none⟩) (show w.heap.size+1+1+1<w6.heap.size by have:=HZ6.out;omega)).trans (HF6.out 2)
 have f3:=(HB8.out.frozen (p:=⟨w.heap.size+1+1+1,3,none⟩) (show w.heap.size+1+1+1<w6.heap.size by have:=HZ6.out;omega)).trans (HF6.out 3)
 simp only [] at x0' x1' x2' x3' s0' s1' s2' s3' q0 q1 q2 q3
 clear hb8 HBK
 rcases hr with ⟨hm,hr0⟩|⟨hm,hr0⟩
 · have hc5:code=6:=by have:=HCO.out;rw [if_neg (by decide),if_pos hm] at this;exact this
   have HRES:=qz (HR1.out (by omega))
   subst hc5
   clear HR0 HR1 HCO hm
   have HRR:=qz (rap_err0 HIN.out HW8.out (show w.heap.size<=w.heap.size+1+1+1 by omega) (.int .i64 t) (.slice a1 n1 c1) (.slice a2 n2 c2) (.slice a3 n3 c3))
   go_wp2_with fail
   refine bodyPost_ret (v:=.tuple #[shV ⟨t,a1,n1,c1,a2,n2,c2,a3,n3,c3⟩,.int .i64 6]) (by simp [results,Tryz.results47,go_sem,q0,q1,q2,q3]) rfl ⟨_,by first|rfl|trivial,?_⟩
   rw [HRES.out]
   exact HRR.out
 have hrn:¬ 0<=r:=by omega
 have hc0:code=0:=by have:=HCO.out;rw [if_neg (by decide),if_neg hm] at this;exact this
 have HRES:=qz (HR0.out hc0)
 subst hc0
 have HM:=qz hm
 have ho8:=HOA.out.below HB8.out (show w5.heap.size<w6.heap.size by have:=HZ6.out;omega)
 have hof8:=(HB8.out.frozen (p:=⟨w5.heap.size,3,none⟩) (show w5.heap.size<w6.heap.size by have:=HZ6.out;omega)).trans (HOF.out 3)
 have h58:w5.heap.size<w8.heap.size:=by have:=HB8.out.size;have:=HZ6.out;omega
 have HO:=qz (Outs.start ho8 hof8 h58)
 simp only [] at HO
 obtain ⟨o0,o1,o2,o3⟩:=ho8
 simp only [] at o0 o1 o2 o3
 clear HR0 HR1 HCO hm
 go_wp2_with fail
 go_loopg [10] n3 (fun gg i wr=>∃ (k m:Nat) (av:Option Addr) (cv:Nat),k<=n3/\n3-k<=gg/\i=.int .i64 k/\Hid (Outs w8 wr w5.heap.size ⟨t',b1,m1,d1,b2,m2,d2,av,m,cv⟩ (outB s.bl xa k)))
 case atStart=>exact ⟨0,0,none,0,Nat.zero_le _,zL _,rfl,HO⟩
 case round =>
  obtain ⟨k,m,av,cv,hk,hkg,rfl,HO⟩:=hrel
  have HBR:=qz ((HB8.out.mono (show w5.heap.size<=w6.heap.size by have:=HZ6.out;omega)).trans HO.out.bel)
  have HWR:=qz (HBW6.out.trans (HBR.out.mono (show w.heap.size<=w5.heap.size by omega)))
  clear g0 g1 g2 x0' x1' x2' x3' s0' s1' s2' s3' q0 q1 q2 q3 f0 f1 f2 f3 o0 o1 o2 o3 hof8
  obtain ⟨x0',x1',x2',x3'⟩:=HX6.out.below HBR.out hl2
  obtain ⟨s0',s1',s2',s3'⟩:=HS6.out.below HBR.out hl1
  obtain ⟨q0,q1,q2,q3⟩:=HQ6.out.below HBR.out hl3
  obtain ⟨o0,o1,o2,o3⟩:=id HO.out.st
  have of3:=HO.out.fz
  have f0:=(HBR.out.frozen (p:=⟨w.heap.size+1+1+1,0,none⟩) hl3).trans (HF6.out 0)
  have f1:=(HBR.out.frozen (p:=⟨w.heap.size+1+1+1,1,none⟩) hl3).trans (HF6.out 1)
  have f2:=(HBR.out.frozen (p:=⟨w.heap.size+1+1+1,2,none⟩) hl3).trans (HF6.out 2)
  have f3:=(HBR.out.frozen (p:=⟨w.heap.size+1+1+1,3,none⟩) hl3).trans (HF6.out 3)
  simp only [] at x0' x1' x2' x3' s0' s1' s2' s3' q0 q1 q2 q3 o0 o1 o2 o3
  have h5r:w5.heap.size<wr.heap.size:=HO.out.lt
  by_cases hlt:k<n3
  · obtain ⟨b,off,rfl,hb,hcs⟩:=HC.out (by omega)
    have hcell:=(HWR.out.cell (p:=⟨b,off+k,none⟩) hb).trans (hcs k hlt)
    have HCS:=qz fun (j:Nat) (hj:j<n3)=>(HWR.out.cell (p:=⟨b,off+j,none⟩) hb).trans (hcs j hj)
    have hbr:b<wr.heap.size:=by have:=HWR.out.size;omega
    obtain ⟨y,hy⟩:∃ y,s.bl.getD k 0=y:=⟨_,rfl⟩
    have HY:=qz hy
    rw [hy] at hcell
    have hk0:(0:Int)<=(k:Int):=by omega
    have hk1:(k:Int)<(n3:Int):=by omega
    have HKN:Hid (k<s.bl.length):=by unfold Hid;rw [HN3.out];exact hlt
    have HLEN:Hid ((outB s.bl xa k).length<=900000):=by
     have:=outB_len s.bl xa k
     unfold Hid
     omega
    clear hcs hy
    have hne:y≠xa:=fun e=>HM.out (by rw [<- e,<- HY.out];exact mem_getD HKN.out)
    have e1:(y != xa)=true:=by simpa using hne
    by_cases hy1:y<xa
    · have hy2:¬ xa<y:=by omega
      have HE:=qz (outB_lt (a:=xa) HUP.out HKN.out (by rw [HY.out];exact hy1))
      rw [HY.out] at HE
      have hd:decide (xa<y)=false:=by simpa using hy2
      clear hy1 hy2 hne
      go_wp2_with fail
      go_quiet (fail)
      rename Nat=>p0
      go_wp2_with fail
      go_quiet (fail)
      go_wp2_with fail
      have hq:=zaf (zaf (zX wr.heap.size wr) p0) nq
      generalize (wr.drewN p0).drewN nq=wq at hq ⊢
      have HOQ:=qz (HO.out.keep hq)
      have s3q:=(hq.cell (p:=⟨w.heap.size+1,3,none⟩) (show w.heap.size+1<wr.heap.size by omega)).trans s3'
      have hcellq:=(hq.cell (p:=⟨b,off+k,none⟩) hbr).trans hcell
      have o3q:=(hq.cell (p:=⟨w5.heap.size,3,none⟩) h5r).trans o3
      have hl1q:w.heap.size+1<wq.heap.size:=by have:=hq.size;omega
      have h5q:w5.heap.size<wq.heap.size:=by have:=hq.size;omega
      have hbq:b<wq.heap.size:=by have:=hq.size;omega
      clear hq s0' s1' s2' s3' x0' x1' x2' x3' q0 q1 q2 q3 o0 o1 o2 o3 of3 f0 f1 f2 f3 hcell HO
      go_region_law (refine step_push (av:=av) (m:=m) (cv:=cv) (B:=w5.heap.size+1) (ad:=⟨wq.heap.size,0,none⟩) (y:=y) (B2:=wq.heap.size+1) rfl (.tmp 173) (.tmp 179) rfl (by simp [Act.eval,Act.put]) (by first|exact World.ownsRow.drew (World.ownsRow.alloc HOQ.out.own _)|exact World.ownsRow.alloc (World.ownsRow.drew HOQ.out.own) _) (by simp [Act.eval,Act.put]) (one_rowZ wq y 3) HLEN.out (by have:=HOQ.out.lt;simp;omega) ?_;intro a' m' c' w' hown' hbel';have hbw:Below (w5.heap.size+1) wq w':=(((zX (w5.heap.size+1) wq).drew).alloc (show w5.heap.size+1<=wq.drew.heap.size from HOQ.out.lt) _).trans hbel';have d3:=(hbw.cell (p:=⟨w5.heap.size,3,none⟩) (show w5.heap.size<w5.heap.size+1 by omega)).trans o3q;have df:=(hbw.frozen (p:=⟨w5.heap.size,3,none⟩) (show w5.heap.size<w5.heap.size+1 by omega)).trans HOQ.out.fz)
      all_goals
       have HO2:=qz (HOQ.out.push hbw hown')
       simp only [] at HO2
       rw [<- HE.out] at HO2
       clear hown' hbel' hbw d3 df
       go_wp2_with fail
       go_roundg (n3-(k+1))
       case measure=>omega
       case rel=>exact ⟨k+1,_,_,_,by omega,zL _,by go_num,HO2⟩
    have hy2:xa<y:=by omega
    have hd:decide (xa<y)=true:=by simpa using hy2
    clear hy1 hne
    rcases Nat.eq_zero_or_pos k with hk00|hk00
    · have ek:((k:Int)==0)=true:=by simpa using hk00
      have HE:=qz (outB_in (a:=xa) HUP.out HKN.out (by rw [HY.out];exact hy2) (.inl hk00))
      rw [HY.out] at HE
      clear hk00 hy2
      go_wp2_with fail
      go_quiet (fail)
      have hq:=zaf (zX wr.heap.size wr) nq
      generalize wr.drewN nq=wp at hq ⊢
      have HOP:=HO.out.keep hq
      have h5p:w5.heap.size<wp.heap.size:=HOP.lt
      have hap:Below (w5.heap.size+1) wp (wp.alloc (.cells #[.int .i64 xa] 3)):=(zX _ _).alloc h5p _
      obtain ⟨a',m',c',w10,hrun,hown,hb10⟩:=run_push (w:=wp.alloc (.cells #[.int .i64 xa] 3)) 26 (zbp HOP.own ((zX wp.heap.size wp).alloc (zL _) _) (fun k hk=>(World.ownsRow.lt HOP.own k hk).2)) (one_rowZ wp xa 3) HLEN.out (show w5.heap.size+1<=(wp.alloc (.cells #[.int .i64 xa] 3)).heap.size by simp;omega)
      have hbp:=hap.trans hb10
      have HOP2:=HOP.push hbp hown
      simp only [] at HOP2
      have x1p:=(hq.cell (p:=⟨w.heap.size+1+1,1,none⟩) (show w.heap.size+1+1<wr.heap.size by omega)).trans x1'
      have o3p:=(hq.cell (p:=⟨w5.heap.size,3,none⟩) h5r).trans o3
      have hl2p:w.heap.size+1+1<wp.heap.size:=by omega
      have v3:=(hbp.cell (p:=⟨w5.heap.size,3,none⟩) (show w5.heap.size<w5.heap.size+1 by omega)).trans o3p
      have vf:=(hbp.frozen (p:=⟨w5.heap.size,3,none⟩) (show w5.heap.size<w5.heap.size+1 by omega)).trans HOP.fz
      have hqp:Below w5.heap.size wr (w10.setCell ⟨w5.heap.size,3,none⟩ (.slice a' m' c')):=((hq.mono (Nat.le_of_lt h5r)).trans (hbp.mono (by omega))).setCell (p:=⟨w5.heap.size,3,none⟩) (zL _) _
      have s3r:=(hqp.cell (p:=⟨w.heap.size+1,3,none⟩) hl1).trans s3'
      have x1r:=(hqp.cell (p:=⟨w.heap.size+1+1,1,none⟩) hl2).trans x1'
      have hcellr:=(hqp.cell (p:=⟨b,off+k,none⟩) (show b<w5.heap.size by omega)).trans hcell
      have HQP:=qz hqp
      have HO2:=qz HOP2
      clear hq HOP hap hown hb10 hbp HOP2 hqp s0' s1' s2' s3' x0' x1' x2' x3' q0 q1 q2 q3 o0 o1 o2 o3 of3 f0 f1 f2 f3 hcell HO
      go_wp2_with (at_builtin;refine Lib.wpList_append_run _ rfl _ _ _ _ rfl _ _ rfl rfl _ _ hrun ?_)
      clear hrun v3 vf x1p o3p
      generalize w10.setCell ⟨w5.heap.size,3,none⟩ (.slice a' m' c')=wv at HO2 HQP s3r x1r hcellr ⊢
      have h5v:=HO2.out.lt
      have hl1v:w.heap.size+1<wv.heap.size:=by omega
      have hl2v:w.heap.size+1+1<wv.heap.size:=by omega
      have hbv:b<wv.heap.size:=by omega
      go_quiet (fail)
      go_wp2_with fail
      have hq:=zaf (zX wv.heap.size wv) nq
      generalize wv.drewN nq=wq at hq ⊢
      have HOQ:=qz (HO2.out.keep hq)
      have s3q:=(hq.cell (p:=⟨w.heap.size+1,3,none⟩) hl1v).trans s3r
      have hcellq:=(hq.cell (p:=⟨b,off+k,none⟩) hbv).trans hcellr
      have o3q:=HOQ.out.st.2.2.2
      simp only [] at o3q
      have hl1q:w.heap.size+1<wq.heap.size:=by have:=hq.size;omega
      have h5q:w5.heap.size<wq.heap.size:=by have:=hq.size;omega
      have hbq:b<wq.heap.size:=by have:=hq.size;omega
      have HLEN2:Hid ((outB s.bl xa k++[xa]).length<=900000):=by
       unfold Hid
       have:=outB_len s.bl xa k
       rw [List.length_append]
       simp only [List.length_cons,List.length_nil]
       omega
      clear hq s3r x1r hcellr HO2
      go_region_law (refine step_push (av:=a') (m:=m') (cv:=c') (B:=w5.heap.size+1) (ad:=⟨wq.heap.size,0,none⟩) (y:=y) (B2:=wq.heap.size+1) rfl (.tmp 173) (.tmp 179) rfl (by simp [Act.eval,Act.put]) (by first|exact World.ownsRow.drew (World.ownsRow.alloc HOQ.out.own _)|exact World.ownsRow.alloc (World.ownsRow.drew HOQ.out.own) _) (by simp [Act.eval,Act.put]) (one_rowZ wq y 3) HLEN2.out (by have:=HOQ.out.lt;simp;omega) ?_;intro a2 m2' c2' w' hown' hbel';have hbw:Below (w5.heap.size+1) wq w':=(((zX (w5.heap.size+1) wq).drew).alloc (show w5.heap.size+1<=wq.drew.heap.size from HOQ.out.lt) _).trans hbel';have d3:=(hbw.cell (p:=⟨w5.heap.size,3,none⟩) (show w5.heap.size<w5.heap.size+1 by omega)).trans o3q;have df:=(hbw.frozen (p:=⟨w5.heap.size,3,none⟩) (show w5.heap.size<w5.heap.size+1 by omega)).trans HOQ.out.fz)
      all_goals
       have HO2:=qz (HOQ.out.push hbw hown')
       simp only [] at HO2
       rw [<- HE.out] at HO2
       clear hown' hbel' hbw d3 df
       go_wp2_with fail
       go_roundg (n3-(k+1))
       case measure=>omega
       case rel=>exact ⟨k+1,_,_,_,by omega,zL _,by go_num,HO2⟩
    obtain ⟨j,hkj⟩:∃ j,k=j+1:=⟨k-1,by omega⟩
    have ek:((k:Int)==0)=false:=by simp;omega
    have hw:IntKind.i64.wrap ((k:Int)-1)=(j:Int):=by
     rw [show (k:Int)-1=(j:Int) by omega]
     exact wrap_nat j (by omega)
    have hj0:(0:Int)<=(j:Int):=by omega
    have hj1:(j:Int)<(n3:Int):=by omega
    have hcellj:=HCS.out j (by omega)
    obtain ⟨z,hz⟩:∃ z,s.bl.getD j 0=z:=⟨_,rfl⟩
    rw [hz] at hcellj
    have HZ:=qz hz
    have HKJ:=qz hkj
    clear hkj hz hk00
    by_cases hz1:z<xa
    · have HE:=qz (outB_in (a:=xa) HUP.out HKN.out (by rw [HY.out];exact hy2) (.inr ⟨j,HKJ.out,by rw [HZ.out];exact hz1⟩))
      rw [HY.out] at HE
      have hd3:decide (z<xa)=true:=by simpa using hz1
      clear hy2 hz1
      go_wp2_with fail
      go_quiet (fail)
      have hq:=zaf (zX wr.heap.size wr) nq
      generalize wr.drewN nq=wp at hq ⊢
      have HOP:=HO.out.keep hq
      have h5p:w5.heap.size<wp.heap.size:=HOP.lt
      have hap:Below (w5.heap.size+1) wp (wp.alloc (.cells #[.int .i64 xa] 3)):=(zX _ _).alloc h5p _
      obtain ⟨a',m',c',w10,hrun,hown,hb10⟩:=run_push (w:=wp.alloc (.cells #[.int .i64 xa] 3)) 26 (zbp HOP.own ((zX wp.heap.size wp).alloc (zL _) _) (fun k hk=>(World.ownsRow.lt HOP.own k hk).2)) (one_rowZ wp xa 3) HLEN.out (show w5.heap.size+1<=(wp.alloc (.cells #[.int .i64 xa] 3)).heap.size by simp;omega)
      have hbp:=hap.trans hb10
      have HOP2:=HOP.push hbp hown
      simp only [] at HOP2
      have x1p:=(hq.cell (p:=⟨w.heap.size+1+1,1,none⟩) (show w.heap.size+1+1<wr.heap.size by omega)).trans x1'
      have o3p:=(hq.cell (p:=⟨w5.heap.size,3,none⟩) h5r).trans o3
      have hl2p:w.heap.size+1+1<wp.heap.size:=by omega
      have v3:=(hbp.cell (p:=⟨w5.heap.size,3,none⟩) (show w5.heap.size<w5.heap.size+1 by omega)).trans o3p
      have vf:=(hbp.frozen (p:=⟨w5.heap.size,3,none⟩) (show w5.heap.size<w5.heap.size+1 by omega)).trans HOP.fz
      have hqp:Below w5.heap.size wr (w10.setCell ⟨w5.heap.size,3,none⟩ (.slice a' m' c')):=((hq.mono (Nat.le_of_lt h5r)).trans (hbp.mono (by omega))).setCell (p:=⟨w5.heap.size,3,none⟩) (zL _) _
      have s3r:=(hqp.cell (p:=⟨w.heap.size+1,3,none⟩) hl1).trans s3'
      have x1r:=(hqp.cell (p:=⟨w.heap.size+1+1,1,none⟩) hl2).trans x1'
      have hcellr:=(hqp.cell (p:=⟨b,off+k,none⟩) (show b<w5.heap.size by omega)).trans hcell
      have HQP:=qz hqp
      have HO2:=qz HOP2
      clear hq HOP hap hown hb10 hbp HOP2 hqp s0' s1' s2' s3' x0' x1' x2' x3' q0 q1 q2 q3 o0 o1 o2 o3 of3 f0 f1 f2 f3 hcell hcellj HO
      go_wp2_with (at_builtin;refine Lib.wpList_append_run _ rfl _ _ _ _ rfl _ _ rfl rfl _ _ hrun ?_)
      clear hrun v3 vf x1p o3p
      generalize w10.setCell ⟨w5.heap.size,3,none⟩ (.slice a' m' c')=wv at HO2 HQP s3r x1r hcellr ⊢
      have h5v:=HO2.out.lt
      have hl1v:w.heap.size+1<wv.heap.size:=by omega
      have hl2v:w.heap.size+1+1<wv.heap.size:=by omega
      have hbv:b<wv.heap.size:=by omega
      go_quiet (fail)
      go_wp2_with fail
      have hq:=zaf (zX wv.heap.size wv) nq
      generalize wv.drewN nq=wq at hq ⊢
      have HOQ:=qz (HO2.out.keep hq)
      have s3q:=(hq.cell (p:=⟨w.heap.size+1,3,none⟩) hl1v).trans s3r
      have hcellq:=(hq.cell (p:=⟨b,off+k,none⟩) hbv).trans hcellr
      have o3q:=HOQ.out.st.2.2.2
      simp only [] at o3q
      have hl1q:w.heap.size+1<wq.heap.size:=by have:=hq.size;omega
      have h5q:w5.heap.size<wq.heap.size:=by have:=hq.size;omega
      have hbq:b<wq.heap.size:=by have:=hq.size;omega
      have HLEN2:Hid ((outB s.bl xa k++[xa]).length<=900000):=by
       unfold Hid
       have:=outB_len s.bl xa k
       rw [List.length_append]
       simp only [List.length_cons,List.length_nil]
       omega
      clear hq s3r x1r hcellr HO2
      go_region_law (refine step_push (av:=a') (m:=m') (cv:=c') (B:=w5.heap.size+1) (ad:=⟨wq.heap.size,0,none⟩) (y:=y) (B2:=wq.heap.size+1) rfl (.tmp 173) (.tmp 179) rfl (by simp [Act.eval,Act.put]) (by first|exact World.ownsRow.drew (World.ownsRow.alloc HOQ.out.own _)|exact World.ownsRow.alloc (World.ownsRow.drew HOQ.out.own) _) (by simp [Act.eval,Act.put]) (one_rowZ wq y 3) HLEN2.out (by have:=HOQ.out.lt;simp;omega) ?_;intro a2 m2' c2' w' hown' hbel';have hbw:Below (w5.heap.size+1) wq w':=(((zX (w5.heap.size+1) wq).drew).alloc (show w5.heap.size+1<=wq.drew.heap.size from HOQ.out.lt) _).trans hbel';have d3:=(hbw.cell (p:=⟨w5.heap.size,3,none⟩) (show w5.heap.size<w5.heap.size+1 by omega)).trans o3q;have df:=(hbw.frozen (p:=⟨w5.heap.size,3,none⟩) (show w5.heap.size<w5.heap.size+1 by omega)).trans HOQ.out.fz)
      all_goals
       have HO2:=qz (HOQ.out.push hbw hown')
       simp only [] at HO2
       rw [<- HE.out] at HO2
       clear hown' hbel' hbw d3 df
       go_wp2_with fail
       go_roundg (n3-(k+1))
       case measure=>omega
       case rel=>exact ⟨k+1,_,_,_,by omega,zL _,by go_num,HO2⟩
    · have HE:Hid (outB s.bl xa (k+1)=outB s.bl xa k++[y]):=by
       unfold Hid
       have h1:=HKJ.out
       have h2:=HKN.out
       have h3:=HY.out
       have h4:=HZ.out
       subst h1
       rw [<- h3]
       exact outB_gt h2 (by omega) (by omega)
      have hd3:decide (z<xa)=false:=by simpa using hz1
      clear hy2 hz1
      go_wp2_with fail
      go_quiet (fail)
      rename Nat=>p0
      go_wp2_with fail
      go_quiet (fail)
      go_wp2_with fail
      have hq:=zaf (zaf (zX wr.heap.size wr) p0) nq
      generalize (wr.drewN p0).drewN nq=wq at hq ⊢
      have HOQ:=qz (HO.out.keep hq)
      have s3q:=(hq.cell (p:=⟨w.heap.size+1,3,none⟩) (show w.heap.size+1<wr.heap.size by omega)).trans s3'
      have hcellq:=(hq.cell (p:=⟨b,off+k,none⟩) hbr).trans hcell
      have o3q:=(hq.cell (p:=⟨w5.heap.size,3,none⟩) h5r).trans o3
      have hl1q:w.heap.size+1<wq.heap.size:=by have:=hq.size;omega
      have h5q:w5.heap.size<wq.heap.size:=by have:=hq.size;omega
      have hbq:b<wq.heap.size:=by have:=hq.size;omega
      clear hq s0' s1' s2' s3' x0' x1' x2' x3' q0 q1 q2 q3 o0 o1 o2 o3 of3 f0 f1 f2 f3 hcell hcellj HO
      go_region_law (refine step_push (av:=av) (m:=m) (cv:=cv) (B:=w5.heap.size+1) (ad:=⟨wq.heap.size,0,none⟩) (y:=y) (B2:=wq.heap.size+1) rfl (.tmp 173) (.tmp 179) rfl (by simp [Act.eval,Act.put]) (by first|exact World.ownsRow.drew (World.ownsRow.alloc HOQ.out.own _)|exact World.ownsRow.alloc (World.ownsRow.drew HOQ.out.own) _) (by simp [Act.eval,Act.put]) (one_rowZ wq y 3) HLEN.out (by have:=HOQ.out.lt;simp;omega) ?_;intro a' m' c' w' hown' hbel';have hbw:Below (w5.heap.size+1) wq w':=(((zX (w5.heap.size+1) wq).drew).alloc (show w5.heap.size+1<=wq.drew.heap.size from HOQ.out.lt) _).trans hbel';have d3:=(hbw.cell (p:=⟨w5.heap.size,3,none⟩) (show w5.heap.size<w5.heap.size+1 by omega)).trans o3q;have df:=(hbw.frozen (p:=⟨w5.heap.size,3,none⟩) (show w5.heap.size<w5.heap.size+1 by omega)).trans HOQ.out.fz)
      all_goals
       have HO2:=qz (HOQ.out.push hbw hown')
       simp only [] at HO2
       rw [<- HE.out] at HO2
       clear hown' hbel' hbw d3 df
       go_wp2_with fail
       go_roundg (n3-(k+1))
       case measure=>omega
       case rel=>exact ⟨k+1,_,_,_,by omega,zL _,by go_num,HO2⟩
  · obtain rfl:k=n3:=by omega
    have hml:=OwnZ.len HO.out.own
    simp only [] at hml
    rcases outB_all (a:=xa) HN3.out with ⟨hl,he⟩|⟨hl,he⟩
    · have em:((m:Int)==(k:Int))=true:=by rw [hml,hl];simp
      have hap:Below (w5.heap.size+1) wr (wr.alloc (.cells #[.int .i64 xa] 3)):=(zX _ _).alloc h5r _
      obtain ⟨a',m',c',w10,hrun,hown,hb10⟩:=run_push (w:=wr.alloc (.cells #[.int .i64 xa] 3)) 26 (zbp HO.out.own ((zX wr.heap.size wr).alloc (zL _) _) (fun k hk=>(World.ownsRow.lt HO.out.own k hk).2)) (one_rowZ wr xa 3) (show (outB s.bl xa k).length<=900000 by omega) (show w5.heap.size+1<=(wr.alloc (.cells #[.int .i64 xa] 3)).heap.size by simp;omega)
      have hbp:=hap.trans hb10
      have HOP2:=HO.out.push hbp hown
      simp only [] at HOP2
      have hown2:=HOP2.own
      rw [he] at hown2
      have hbv:=(HB8.out.mono (show w5.heap.size<=w6.heap.size by have:=HZ6.out;omega)).trans HOP2.bel
      have hc5r:=HC5.out.calls (HBA.out.trans hbv)
      have hqb:StB (w10.setCell ⟨w5.heap.size,3,none⟩ (.slice a' m' c')) (w.heap.size+1+1+1):=by
       obtain ⟨cs,hcs⟩:=HQB.out
       exact ⟨cs,(hbv.block _ hl3).trans hcs⟩
      have M:=Copy0.setB4 (B:=w4.heap.size) (h:=⟨t',b1,m1,d1,b2,m2,d2,a',m',c'⟩) (s:=⟨s.tick,s.rs,s.ts,insZ s.bl xa⟩) ⟨hc5r.tick,hc5r.rs,hc5r.ts,.inl (OwnZ.mono hown2 (Nat.le_succ_of_le HZ5.out)),hc5r.n1,hc5r.n2,OwnZ.len hown2⟩ hqb (.int .i64 t') (.slice b1 m1 d1) (.slice b2 m2 d2) (.slice a' m' c')
      have HFIN:=qz (And.intro (show Fine _ ⟨t,a1,n1,c1,a2,n2,c2,a3,k,c3⟩ s w.heap.size _ _ from .inr (M.mono (by have:=HZ4.out;omega))) (zah (HBW6.out.trans (hbv.mono (show w.heap.size<=w5.heap.size by omega))) (show w.heap.size<=w.heap.size+1+1+1 by omega) (.int .i64 t') (.slice b1 m1 d1) (.slice b2 m2 d2) (.slice a' m' c')))
      have hce:∀ i u,wr.cell? ⟨w5.heap.size,i,none⟩=some u->w10.cell? ⟨w5.heap.size,i,none⟩=some u:=fun i u h=>(hbp.cell (p:=⟨w5.heap.size,i,none⟩) (show w5.heap.size<w5.heap.size+1 by omega)).trans h
      have hcq:∀ i u,wr.cell? ⟨w.heap.size+1+1+1,i,none⟩=some u->w10.cell? ⟨w.heap.size+1+1+1,i,none⟩=some u:=fun i u h=>(hbp.cell (p:=⟨w.heap.size+1+1+1,i,none⟩) (show w.heap.size+1+1+1<w5.heap.size+1 by omega)).trans h
      have hfq:∀ i,wr.frozen? ⟨w.heap.size+1+1+1,i,none⟩=false->w10.frozen? ⟨w.heap.size+1+1+1,i,none⟩=false:=fun i h=>(hbp.frozen (p:=⟨w.heap.size+1+1+1,i,none⟩) (show w.heap.size+1+1+1<w5.heap.size+1 by omega)).trans h
      have r0:=hce _ _ o0
      have r1:=hce _ _ o1
      have r2:=hce _ _ o2
      have r3:=hce _ _ o3
      have v0:=(hbp.frozen (p:=⟨w5.heap.size,3,none⟩) (show w5.heap.size<w5.heap.size+1 by omega)).trans of3
      have z0:=hcq _ _ q0
      have z1:=hcq _ _ q1
      have z2:=hcq _ _ q2
      have z3:=hcq _ _ q3
      have y0:=hfq _ f0
      have y1:=hfq _ f1
      have y2:=hfq _ f2
      have y3:=hfq _ f3
      have hne:w.heap.size+1+1+1≠w5.heap.size:=by omega
      have hne':w5.heap.size≠w.heap.size+1+1+1:=by omega
      have hl2r:w.heap.size+1+1<wr.heap.size:=by omega
      clear hml hl he hap hown hb10 hbp HOP2 hown2 hbv hc5r hqb M hce hcq hfq hlt
      go_wp2_with (at_builtin;refine Lib.wpList_append_run _ rfl _ _ _ _ rfl _ _ rfl rfl _ _ hrun ?_)
      refine bodyPost_ret (v:=.tuple #[shV ⟨t',b1,m1,d1,b2,m2,d2,a',m',c'⟩,.int .i64 0]) (by simp [results,Tryz.results47,go_sem,z0,z1,z2,z3]) rfl ⟨⟨t',b1,m1,d1,b2,m2,d2,a',m',c'⟩,by first|rfl|trivial,?_⟩
      rw [HRES.out]
      exact HFIN.out
    · have em:((m:Int)==(k:Int))=false:=by simp;omega
      have hown:=HO.out.own
      rw [he] at hown
      have hc5r:=HC5.out.calls (HBA.out.trans HBR.out)
      have hqb:StB wr (w.heap.size+1+1+1):=by
       obtain ⟨cs,hcs⟩:=HQB.out
       exact ⟨cs,(HBR.out.block _ hl3).trans hcs⟩
      have M:=Copy0.setB4 (w:=wr) (B:=w4.heap.size) (h:=⟨t',b1,m1,d1,b2,m2,d2,av,m,cv⟩) (s:=⟨s.tick,s.rs,s.ts,insZ s.bl xa⟩) ⟨hc5r.tick,hc5r.rs,hc5r.ts,.inl (OwnZ.mono hown (Nat.le_succ_of_le HZ5.out)),hc5r.n1,hc5r.n2,OwnZ.len hown⟩ hqb (.int .i64 t') (.slice b1 m1 d1) (.slice b2 m2 d2) (.slice av m cv)
      have HFIN:=qz (And.intro (show Fine _ ⟨t,a1,n1,c1,a2,n2,c2,a3,k,c3⟩ s w.heap.size _ _ from .inr (M.mono (by have:=HZ4.out;omega))) (zah HWR.out (show w.heap.size<=w.heap.size+1+1+1 by omega) (.int .i64 t') (.slice b1 m1 d1) (.slice b2 m2 d2) (.slice av m cv)))
      clear hml hl he hown hc5r hqb M hlt
      go_wp2_with fail
      refine bodyPost_ret (v:=.tuple #[shV ⟨t',b1,m1,d1,b2,m2,d2,av,m,cv⟩,.int .i64 0]) (by simp [results,Tryz.results47,go_sem,q0,q1,q2,q3,o0,o1,o2,o3]) rfl ⟨⟨t',b1,m1,d1,b2,m2,d2,av,m,cv⟩,by first|rfl|trivial,?_⟩
      rw [HRES.out]
      exact HFIN.out
set_option maxHeartbeats 4000000 in
theorem rap_clear (W H:Int)(g:ByteArray)(h:Sh)(s:St)(x:Inp)(w:World)(hg:g.size<=maxLen)(hin:StIn w w.heap.size h s)(hn1:h.n1<=90000)(hn2:h.n2<=90000)(hn3:h.n3<=90000)(hup:s.bl.Pairwise (·<·))(hk:x.k=6) :
 Calls Tryz.prog 47 #[zam W H g,shV h,inpV x] w fun e w'=>∃ h',e=.returned (.tuple #[shV h',.int .i64 (codeC (zac (zaa g)) s x)])/\Fine w' h s w.heap.size h' (if codeC (zac (zaa g)) s x=0 then turnC s x else s)/\Below w.heap.size w w':=by
 obtain ⟨w4,hw4,hB4,hz4,hg4,hs4,hx4,hq4,hf4⟩:=gsxz_head w W H g h x
 have HCP:=qz (rcopy_any h s w.heap.size w4 (hin.below hB4) (by omega) (by omega) (by omega) (by omega))
 obtain ⟨code,hcode⟩:∃ code,codeC (zac (zaa g)) s x=code:=⟨_,rfl⟩
 obtain ⟨res,hres⟩:∃ res,(if codeC (zac (zaa g)) s x=0 then turnC s x else s)=res:=⟨_,rfl⟩
 rw [hres,hcode]
 rw [hcode] at hres
 have HR0:Hid (code=0->res=⟨s.tick,s.rs,s.ts,delZ s.bl x.a⟩):=fun h=>by rw [<- hres,if_pos h];rfl
 have HR1:Hid (code≠0->res=s):=fun h=>by rw [<- hres,if_neg h]
 obtain ⟨fa,hfa⟩:∃ fa,zac (zaa g) x.a=fa:=⟨_,rfl⟩
 have HCO:Hid (code=if fa=false then 5 else if x.a∈s.bl then 0 else 10):=by
  unfold Hid
  rw [<- hcode,<- hfa]
  rfl
 have HFL:=qz fun (V:World)=>zaw W H x.a g V hg
 rw [hfa] at HFL
 have HBK:=qz fun (V:World) (hV:Below w.heap.size w V)=>rblocked_any h s x.a w.heap.size V (hin.below hV) hV.size
 have HUP:=qz hup
 have HC:=qz hin.bl.cells
 have HN3:=qz hin.bl.1
 have hnm3:=Nat.le_trans hin.bl.2.1 hin.bl.2.2.1
 unfold maxLen at hnm3
 clear hcode hres hfa hup
 have HQB4:Hid (StB w4 (w.heap.size+1+1+1)):=by
  obtain ⟨u,hu,hbu,zu,_⟩:=gsx_head w W H g h x
  refine ⟨#[.int .i64 0,.slice none 0 0,.slice none 0 0,.slice none 0 0],?_⟩
  rw [hw4,<- hu,show w.heap.size+1+1+1=u.heap.size by omega]
  exact heap_alloc_new u _
 have HW:=qz hw4
 have HB4:=qz hB4
 have HG4:=qz hg4
 have HS4:=qz hs4
 have HX4:=qz hx4
 have HQ4:=qz hq4
 have HF4:=qz hf4
 have HIN:=qz hin
 have HN1:=qz hin.rs.1
 have HN2:=qz hin.ts.1
 have hnm1:=hin.rs.len
 have hnm2:=hin.ts.len
 unfold maxLen at hnm1 hnm2
 obtain ⟨t,a1,n1,c1,a2,n2,c2,a3,n3,c3⟩:=h
 obtain ⟨xk,xa,xb,xc⟩:=x
 obtain ⟨s0,s1,s2,s3⟩:=hs4
 obtain ⟨x0,x1,x2,x3⟩:=hx4
 simp only [] at s0 s1 s2 s3 x0 x1 x2 x3 hk hn1 hn2 hn3 HN1 HN2 hnm1 hnm2 hnm3 HC HN3 HR0 HCO HFL HBK
 subst hk
 clear hin hw4 hB4 hg4 hq4 hf4 hg
 go_enter Tryz.func47,Tryz.ntmps47
 go_wp2_with fail
 rw [<- HW.out]
 refine HCP.out.mono ?_
 rintro e w5 ⟨h1,rfl,hc5,hb5⟩
 have hz5:=hb5.size
 have HW5:=qz (HB4.out.trans (hb5.mono HB4.out.size))
 have HG5:=qz (HG4.out.below hb5 (by omega))
 have HS5:=qz (HS4.out.below hb5 (by omega))
 have HX5:=qz (HX4.out.below hb5 (by omega))
 have HQ5:=qz (HQ4.out.below hb5 (by omega))
 have HF5:Hid (∀ i,w5.frozen? ⟨w.heap.size+1+1+1,i,none⟩=false):=fun i=>(hb5.frozen (p:=⟨w.heap.size+1+1+1,i,none⟩) (show w.heap.size+1+1+1<w4.heap.size by omega)).trans (HF4.out i)
 have HZ4:=qz hz4
 have hl0:w.heap.size<w5.heap.size:=by omega
 have hl1:w.heap.size+1<w5.heap.size:=by omega
 have hl2:w.heap.size+1+1<w5.heap.size:=by omega
 have hl3:w.heap.size+1+1+1<w5.heap.size:=by omega
 have hba:Below w5.heap.size w5 (w5.alloc (shO h1)):=(zX _ _).alloc (zL _) _
 obtain ⟨w6,hw6⟩:∃ w6,w6=w5.alloc (shO h1):=⟨_,rfl⟩
 have hz6:w6.heap.size=w5.heap.size+1:=by rw [hw6];simp
 have hob:StB w6 w5.heap.size:=⟨_,by rw [hw6];exact heap_alloc_new w5 _⟩
 have hoa:StAt w6 w5.heap.size h1:=by rw [hw6];exact zbo w5 h1
 have hof:∀ i,w6.frozen? ⟨w5.heap.size,i,none⟩=false:=fun i=>by rw [hw6];simp
 rw [<- hw6] at hba
 have HW6:=qz hw6
 have HBW6:=qz (HW5.out.trans (hba.mono HW5.out.size))
 have HC5:=qz hc5
 have HBA:=qz hba
 have HOB:=qz hob
 have HOA:=qz hoa
 have HOF:=qz hof
 have HG6:=qz (HG5.out.below hba (by omega))
 have HS6:=qz (HS5.out.below hba (by omega))
 have HX6:=qz (HX5.out.below hba (by omega))
 have HQ6:=qz (HQ5.out.below hba (by omega))
 have HF6:Hid (∀ i,w6.frozen? ⟨w.heap.size+1+1+1,i,none⟩=false):=fun i=>(hba.frozen (p:=⟨w.heap.size+1+1+1,i,none⟩) (show w.heap.size+1+1+1<w5.heap.size by omega)).trans (HF5.out i)
 have HZ6:=qz hz6
 have HZ5:Hid (w4.heap.size<=w5.heap.size):=hz5
 have HQB:=qz ((HQB4.out.calls hb5).calls hba)
 obtain ⟨g0,g1,g2⟩:=id HG5.out
 obtain ⟨x0',x1',x2',x3'⟩:=id HX5.out
 obtain ⟨s0',s1',s2',s3'⟩:=id HS5.out
 obtain ⟨q0,q1,q2,q3⟩:=id HQ5.out
 have f0:=HF5.out 0
 have f1:=HF5.out 1
 have f2:=HF5.out 2
 have f3:=HF5.out 3
 obtain ⟨t',b1,m1,d1,b2,m2,d2,b3,m3,d3⟩:=h1
 simp only [] at x0' x1' x2' x3' s0' s1' s2' s3' q0 q1 q2 q3
 clear s0 s1 s2 s3 x0 x1 x2 x3 hb5 hc5 HCP hz4 hz5 hba hw6 hob hoa hof hz6
 go_wp2_with fail
 rw [<- HW6.out]
 refine (HFL.out _).mono ?_
 rintro e w7 ⟨rfl,hb7⟩
 have HB7:=qz hb7
 clear g0 g1 g2 x0' x1' x2' x3' s0' s1' s2' s3' q0 q1 q2 q3 f0 f1 f2 f3
 have HW7:=qz (HBW6.out.trans (HB7.out.mono HBW6.out.size))
 obtain ⟨g0,g1,g2⟩:=HG6.out.below HB7.out (show w.heap.size<w6.heap.size by have:=HZ6.out;omega)
 obtain ⟨x0',x1',x2',x3'⟩:=HX6.out.below HB7.out (show w.heap.size+1+1<w6.heap.size by have:=HZ6.out;omega)
 obtain ⟨s0',s1',s2',s3'⟩:=HS6.out.below HB7.out (show w.heap.size+1<w6.heap.size by have:=HZ6.out;omega)
 obtain ⟨q0,q1,q2,q3⟩:=HQ6.out.below HB7.out (show w.heap.size+1+1+1<w6.heap.size by have:=HZ6.out;omega)
 have f0:=(HB7.out.frozen (p:=⟨w.heap.size+1+1+1,0,none⟩) (show w.heap.size+1+1+1<w6.heap.size by have:=HZ6.out;omega)).trans (HF6.out 0)
 have f1:=(HB7.out.frozen (p:=⟨w.heap.size+1+1+1,1,none⟩) (show w.heap.size+1+1+1<w6.heap.size by have:=HZ6.out;omega)).trans (HF6.out 1)
 have f2:=(HB7.out.frozen (p:=⟨w.heap.size+1+1+1,2,none⟩) (show w.heap.size+1+1+1<w6.heap.size by have:=HZ6.out;omega)).trans (HF6.out 2)
 have f3:=(HB7.out.frozen (p:=⟨w.heap.size+1+1+1,3,none⟩) (show w.heap.size+1+1+1<w6.heap.size by have:=HZ6.out;omega)).trans (HF6.out 3)
 simp only [] at x0' x1' x2' x3' s0' s1' s2' s3' q0 q1 q2 q3
 clear hb7 HFL
 cases fa
 · have hc5:code=5:=by have:=HCO.out;rw [if_pos rfl] at this;exact this
   have HRES:=qz (HR1.out (by omega))
   subst hc5
   clear HR0 HR1 HCO HBK
   have HRR:=qz (rap_err0 HIN.out HW7.out (show w.heap.size<=w.heap.size+1+1+1 by omega) (.int .i64 t) (.slice a1 n1 c1) (.slice a2 n2 c2) (.slice a3 n3 c3))
   go_wp2_with fail
   refine bodyPost_ret (v:=.tuple #[shV ⟨t,a1,n1,c1,a2,n2,c2,a3,n3,c3⟩,.int .i64 5]) (by simp [results,Tryz.results47,go_sem,q0,q1,q2,q3]) rfl ⟨_,by first|rfl|trivial,?_⟩
   rw [HRES.out]
   exact HRR.out
 go_wp2_with fail
 refine (HBK.out _ HW7.out).mono ?_
 rintro e w8 ⟨r,rfl,hr,hb8⟩
 have HB8:=qz (HB7.out.trans (hb8.mono HB7.out.size))
 clear g0 g1 g2 x0' x1' x2' x3' s0' s1' s2' s3' q0 q1 q2 q3 f0 f1 f2 f3
 have HW8:=qz (HBW6.out.trans (HB8.out.mono HBW6.out.size))
 obtain ⟨g0,g1,g2⟩:=HG6.out.below HB8.out (show w.heap.size<w6.heap.size by have:=HZ6.out;omega)
 obtain ⟨x0',x1',x2',x3'⟩:=HX6.out.below HB8.out (show w.heap.size+1+1<w6.heap.size by have:=HZ6.out;omega)
 obtain ⟨s0',s1',s2',s3'⟩:=HS6.out.below HB8.out (show w.heap.size+1<w6.heap.size by have:=HZ6.out;omega)
 obtain ⟨q0,q1,q2,q3⟩:=HQ6.out.below HB8.out (show w.heap.size+1+1+1<w6.heap.size by have:=HZ6.out;omega)
 have f0:=(HB8.out.frozen (p:=⟨w.heap.size+1+1+1,0,none⟩) (show w.heap.size+1+1+1<w6.heap.size by have:=HZ6.out;omega)).trans (HF6.out 0)
 have f1:=(HB8.out.frozen (p:=⟨w.heap.size+1+1+1,1,none⟩) (show w.heap.size+1+1+1<w6.heap.size by have:=HZ6.out;omega)).trans (HF6.out 1)
 have f2:=(HB8.out.frozen (p:=⟨w.heap.size+1+1+1,2,none⟩) (show w.heap.size+1+1+1<w6.heap.size by have:=HZ6.out;omega)).trans (HF6.out 2)
 have f3:=(HB8.out.frozen (p:=⟨w.heap.size+1+1+1,3,none⟩) (show w.heap.size+1+1+1<w6.heap.size by have:=HZ6.out;omega)).trans (HF6.out 3)
 simp only [] at x0' x1' x2' x3' s0' s1' s2' s3' q0 q1 q2 q3
 clear hb8 HBK
 rcases hr.symm with ⟨hm,hr0⟩|⟨hm,hr0⟩
 · have hc5:code=10:=by have:=HCO.out;rw [if_neg (by decide),if_neg hm] at this;exact this
   have HRES:=qz (HR1.out (by omega))
   subst hc5
   clear HR0 HR1 HCO hm
   have HRR:=qz (rap_err0 HIN.out HW8.out (show w.heap.size<=w.heap.size+1+1+1 by omega) (.int .i64 t) (.slice a1 n1 c1) (.slice a2 n2 c2) (.slice a3 n3 c3))
   go_wp2_with fail
   refine bodyPost_ret (v:=.tuple #[shV ⟨t,a1,n1,c1,a2,n2,c2,a3,n3,c3⟩,.int .i64 10]) (by simp [results,Tryz.results47,go_sem,q0,q1,q2,q3]) rfl ⟨_,by first|rfl|trivial,?_⟩
   rw [HRES.out]
   exact HRR.out
 have hrn:¬ r<0:=by omega
 have hc0:code=0:=by have:=HCO.out;rw [if_neg (by decide),if_pos hm] at this;exact this
 have HRES:=qz (HR0.out hc0)
 subst hc0
 have HM:=qz hm
 have ho8:=HOA.out.below HB8.out (show w5.heap.size<w6.heap.size by have:=HZ6.out;omega)
 have hof8:=(HB8.out.frozen (p:=⟨w5.heap.size,3,none⟩) (show w5.heap.size<w6.heap.size by have:=HZ6.out;omega)).trans (HOF.out 3)
 have h58:w5.heap.size<w8.heap.size:=by have:=HB8.out.size;have:=HZ6.out;omega
 have HO:=qz (Outs.start ho8 hof8 h58)
 simp only [] at HO
 obtain ⟨o0,o1,o2,o3⟩:=ho8
 simp only [] at o0 o1 o2 o3
 clear HR0 HR1 HCO hm
 go_wp2_with fail
 go_loopg [10] n3 (fun gg i wr=>∃ (k m:Nat) (av:Option Addr) (cv:Nat),k<=n3/\n3-k<=gg/\i=.int .i64 k/\Hid (Outs w8 wr w5.heap.size ⟨t',b1,m1,d1,b2,m2,d2,av,m,cv⟩ (outC s.bl xa k)))
 case atStart=>exact ⟨0,0,none,0,Nat.zero_le _,zL _,rfl,HO⟩
 case round =>
  obtain ⟨k,m,av,cv,hk,hkg,rfl,HO⟩:=hrel
  have HBR:=qz ((HB8.out.mono (show w5.heap.size<=w6.heap.size by have:=HZ6.out;omega)).trans HO.out.bel)
  have HWR:=qz (HBW6.out.trans (HBR.out.mono (show w.heap.size<=w5.heap.size by omega)))
  clear g0 g1 g2 x0' x1' x2' x3' s0' s1' s2' s3' q0 q1 q2 q3 f0 f1 f2 f3 o0 o1 o2 o3 hof8
  obtain ⟨x0',x1',x2',x3'⟩:=HX6.out.below HBR.out hl2
  obtain ⟨s0',s1',s2',s3'⟩:=HS6.out.below HBR.out hl1
  obtain ⟨q0,q1,q2,q3⟩:=HQ6.out.below HBR.out hl3
  obtain ⟨o0,o1,o2,o3⟩:=id HO.out.st
  have of3:=HO.out.fz
  have f0:=(HBR.out.frozen (p:=⟨w.heap.size+1+1+1,0,none⟩) hl3).trans (HF6.out 0)
  have f1:=(HBR.out.frozen (p:=⟨w.heap.size+1+1+1,1,none⟩) hl3).trans (HF6.out 1)
  have f2:=(HBR.out.frozen (p:=⟨w.heap.size+1+1+1,2,none⟩) hl3).trans (HF6.out 2)
  have f3:=(HBR.out.frozen (p:=⟨w.heap.size+1+1+1,3,none⟩) hl3).trans (HF6.out 3)
  simp only [] at x0' x1' x2' x3' s0' s1' s2' s3' q0 q1 q2 q3 o0 o1 o2 o3
  have h5r:w5.heap.size<wr.heap.size:=HO.out.lt
  by_cases hlt:k<n3
  · obtain ⟨b,off,rfl,hb,hcs⟩:=HC.out (by omega)
    have hcell:=(HWR.out.cell (p:=⟨b,off+k,none⟩) hb).trans (hcs k hlt)
    have HCS:=qz fun (j:Nat) (hj:j<n3)=>(HWR.out.cell (p:=⟨b,off+j,none⟩) hb).trans (hcs j hj)
    have hbr:b<wr.heap.size:=by have:=HWR.out.size;omega
    obtain ⟨y,hy⟩:∃ y,s.bl.getD k 0=y:=⟨_,rfl⟩
    have HY:=qz hy
    rw [hy] at hcell
    have hk0:(0:Int)<=(k:Int):=by omega
    have hk1:(k:Int)<(n3:Int):=by omega
    have HKN:Hid (k<s.bl.length):=by unfold Hid;rw [HN3.out];exact hlt
    have HLEN:Hid ((outC s.bl xa k).length<=900000):=by
     have:=outC_len s.bl xa k
     unfold Hid
     omega
    clear hcs hy
    by_cases he:y=xa
    · have e1:(y != xa)=false:=by simpa using he
      have HE:=qz (outC_same (a:=xa) HKN.out (by rw [HY.out];exact he))
      clear he
      go_wp2_with fail
      go_quiet (fail)
      rename Nat=>p0
      go_wp2_with fail
      go_quiet (fail)
      have HO3:=qz (HO.out.keep (zaf (zX wr.heap.size wr) (p0+nq)))
      rw [<- HE.out] at HO3
      go_wp2_with fail
      go_roundg (n3-(k+1))
      case measure=>omega
      case rel=>exact ⟨k+1,_,_,_,by omega,zL _,by go_num,HO3⟩
    · have e1:(y != xa)=true:=by simpa using he
      have HE:=qz (outC_more (a:=xa) HKN.out (by rw [HY.out];exact he))
      rw [HY.out] at HE
      clear he
      go_wp2_with fail
      go_quiet (fail)
      rename Nat=>p0
      go_wp2_with fail
      go_quiet (fail)
      go_wp2_with fail
      have hq:=zaf (zaf (zX wr.heap.size wr) p0) nq
      generalize (wr.drewN p0).drewN nq=wq at hq ⊢
      have HOQ:=qz (HO.out.keep hq)
      have s3q:=(hq.cell (p:=⟨w.heap.size+1,3,none⟩) (show w.heap.size+1<wr.heap.size by omega)).trans s3'
      have hcellq:=(hq.cell (p:=⟨b,off+k,none⟩) hbr).trans hcell
      have o3q:=(hq.cell (p:=⟨w5.heap.size,3,none⟩) h5r).trans o3
      have hl1q:w.heap.size+1<wq.heap.size:=by have:=hq.size;omega
      have h5q:w5.heap.size<wq.heap.size:=by have:=hq.size;omega
      have hbq:b<wq.heap.size:=by have:=hq.size;omega
      clear hq s0' s1' s2' s3' x0' x1' x2' x3' q0 q1 q2 q3 o0 o1 o2 o3 of3 f0 f1 f2 f3 hcell HO
      go_region_law (refine step_push (av:=av) (m:=m) (cv:=cv) (B:=w5.heap.size+1) (ad:=⟨wq.heap.size,0,none⟩) (y:=y) (B2:=wq.heap.size+1) rfl (.tmp 173) (.tmp 179) rfl (by simp [Act.eval,Act.put]) (by first|exact World.ownsRow.drew (World.ownsRow.alloc HOQ.out.own _)|exact World.ownsRow.alloc (World.ownsRow.drew HOQ.out.own) _) (by simp [Act.eval,Act.put]) (one_rowZ wq y 3) HLEN.out (by have:=HOQ.out.lt;simp;omega) ?_;intro a' m' c' w' hown' hbel';have hbw:Below (w5.heap.size+1) wq w':=(((zX (w5.heap.size+1) wq).drew).alloc (show w5.heap.size+1<=wq.drew.heap.size from HOQ.out.lt) _).trans hbel';have d3:=(hbw.cell (p:=⟨w5.heap.size,3,none⟩) (show w5.heap.size<w5.heap.size+1 by omega)).trans o3q;have df:=(hbw.frozen (p:=⟨w5.heap.size,3,none⟩) (show w5.heap.size<w5.heap.size+1 by omega)).trans HOQ.out.fz)
      all_goals
       have HO2:=qz (HOQ.out.push hbw hown')
       simp only [] at HO2
       rw [<- HE.out] at HO2
       clear hown' hbel' hbw d3 df
       go_wp2_with fail
       go_roundg (n3-(k+1))
       case measure=>omega
       case rel=>exact ⟨k+1,_,_,_,by omega,zL _,by go_num,HO2⟩
  · obtain rfl:k=n3:=by omega
    have hOA:outC s.bl xa k=delZ s.bl xa:=outC_all HN3.out HUP.out HM.out
    have hown:=HO.out.own
    rw [hOA] at hown
    have hc5r:=HC5.out.calls (HBA.out.trans HBR.out)
    have hqb:StB wr (w.heap.size+1+1+1):=by
     obtain ⟨cs,hcs⟩:=HQB.out
     exact ⟨cs,(HBR.out.block _ hl3).trans hcs⟩
    have M:=Copy0.setB4 (w:=wr) (B:=w4.heap.size) (h:=⟨t',b1,m1,d1,b2,m2,d2,av,m,cv⟩) (s:=⟨s.tick,s.rs,s.ts,delZ s.bl xa⟩) ⟨hc5r.tick,hc5r.rs,hc5r.ts,.inl (OwnZ.mono hown (Nat.le_succ_of_le HZ5.out)),hc5r.n1,hc5r.n2,OwnZ.len hown⟩ hqb (.int .i64 t') (.slice b1 m1 d1) (.slice b2 m2 d2) (.slice av m cv)
    have HFIN:=qz (And.intro (show Fine _ ⟨t,a1,n1,c1,a2,n2,c2,a3,k,c3⟩ s w.heap.size _ _ from .inr (M.mono (by have:=HZ4.out;omega))) (zah HWR.out (show w.heap.size<=w.heap.size+1+1+1 by omega) (.int .i64 t') (.slice b1 m1 d1) (.slice b2 m2 d2) (.slice av m cv)))
    clear hOA hown hc5r hqb M hlt
    go_wp2_with fail
    refine bodyPost_ret (v:=.tuple #[shV ⟨t',b1,m1,d1,b2,m2,d2,av,m,cv⟩,.int .i64 0]) (by simp [results,Tryz.results47,go_sem,q0,q1,q2,q3,o0,o1,o2,o3]) rfl ⟨⟨t',b1,m1,d1,b2,m2,d2,av,m,cv⟩,by first|rfl|trivial,?_⟩
    rw [HRES.out]
    exact HFIN.out
end Go.Proofs.YtknnnbpgkfaapaaGreat.Vm
