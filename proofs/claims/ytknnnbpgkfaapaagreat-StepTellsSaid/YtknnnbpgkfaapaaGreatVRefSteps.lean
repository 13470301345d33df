import Derived.Test.YtknnnbpgkfaapaaGreatQ
import Derived.Test.YtknnnbpgkfaapaaGreatVTicks
import Derived.Test.YtknnnbpgkfaapaaGreatVRefAlls
import Derived.Test.YtknnnbpgkfaapaaGreatVIntRows
import Derived.Test.YtknnnbpgkfaapaaGreatVPlanPlansC
import Derived.Test.YtknnnbpgkfaapaaGreatVRefDisps
import Derived.Test.YtknnnbpgkfaapaaGreatVRefGoes
import Derived.Test.YtknnnbpgkfaapaaGreatVRefFinds
import Derived.Maps.AppendAt
import Derived.Deep.RegionHeld3
import Derived.Deep.CutRange
import Derived.Deep.QuietTactic
import Derived.BigQuiet
set_option maxRecDepth 100000
set_option linter.unusedSimpArgs false
set_option linter.unusedVariables false
namespace Go.Proofs.YtknnnbpgkfaapaaGreat.Vm
open Go Go.RowKit
def SaysStep (f:Nat):Prop:=∀ (W H:Int) (g:ByteArray) (h:Sh) (s:St) (a:Option Addr) (n c:Nat) (ins:List Inp) (w:World),Okay W H g->StIn w w.heap.size h s->RowI w w.heap.size a n c ins->RightP (zac (zaa g)) s->s.tick<2147483647->s.rs.length<=100->s.bl.length<=400->n<=100 ->
 Calls Tryz.prog f #[zam W H g,shV h,.slice a n c] w fun e w'=>∃ h' a1 c1 a2 n2 c2,e=.returned (.tuple #[shV h',.slice a1 n c1,.slice a2 n2 c2])/\Copy0 w' w.heap.size h' (stepG W H (zaa g) s ins)/\OwnE w' w.heap.size (.slice a1 n c1) (zbr (zac (zaa g)) s ins)/\OwnZ w' w.heap.size (.slice a2 n2 c2) (waysG W H (zaa g) (readyG W H (zaa g) s ins))/\(waysG W H (zaa g) (readyG W H (zaa g) s ins)).length=n2/\Below w.heap.size w w'
theorem own_low {w:World}{B B' size n:Nat}{e:TypeId}{v:Value}{xs:List Value}(h:w.ownsRow B e size v n xs)(hB:B'<=B):w.ownsRow B' e size v n xs:=by
 refine ⟨h.1,?_⟩
 rcases h.2 with h2|⟨g,cap,cur,hv,hb,r⟩
 · exact .inl h2
 · exact .inr ⟨g,cap,cur,hv,by omega,r⟩
theorem OwnE.rowE {w:World}{B n c:Nat}{a:Option Addr}{l:List Int}(h:OwnE w B (.slice a n c) l)(hn:l.length=n):RowZ .i64 w w.heap.size a n c l:=by
 obtain ⟨a2,c2,hv,hrow⟩:=h.row
 rw [hn] at hv hrow
 injection hv with e1 e2 e3
 subst e1 e3
 exact hrow
structure Duo (w:World)(B:Nat)(v1 v2:Value)(l1 l2:List Int):Prop where
 o1:OwnZ w B v1 l1
 o2:OwnZ w B v2 l2
 apart:∀ k,v1.ownBlock=some k->v2.ownBlock≠some k
theorem Duo.zero (w:World)(B:Nat):Duo w B (.slice none 0 0) (.slice none 0 0) [] []:=⟨World.ownsRow_nil _ _ _ _,World.ownsRow_nil _ _ _ _,fun k h=>by cases h⟩
theorem Duo.swap {w:World}{B:Nat}{v1 v2:Value}{l1 l2:List Int}(d:Duo w B v1 v2 l1 l2):Duo w B v2 v1 l2 l1:=⟨d.o2,d.o1,fun k h h'=>d.apart k h' h⟩
theorem Duo.push {w w':World}{B:Nat}{v1 v2 v':Value}{l1 l2:List Int}{x:Int}{o:Obj}(d:Duo w B v1 v2 l1 l2)(hB:B<=w.heap.size)(hown:w'.ownsRow B 3 1 v' (l1.length+1) (zan l1++[.int .i64 x]))(hg:(w.alloc o).grownBy w' v1.ownBlock)(hl:v'.ownBlock=v1.ownBlock\/v'.ownBlock=some (w.alloc o).heap.size) :
 Duo w' B v' v2 (l1++[x]) l2/\Below B w w':=by
 refine ⟨⟨?_,?_,fun k hk=>?_⟩,((zX _ w).alloc hB o).grown hg (by simp;omega) (fun k hk=>(World.ownsRow.lt d.o1 k hk).1)⟩
 · unfold OwnZ
   rw [List.length_append,List.length_singleton]
   simpa [zan] using hown
 · refine World.ownsRow.kept (World.ownsRow.alloc d.o2 o) hg ?_
   cases he:v2.ownBlock with
   | none=>exact .inl rfl
   | some k=>exact .inr (fun e=>d.apart k e.symm he)
 · rcases hl with hl|hl
   · rw [hl] at hk;exact d.apart k hk
   · rw [hl] at hk
     intro e
     have h1:=(World.ownsRow.lt d.o2 k e).2
     have h2:(w.alloc o).heap.size=k:=by simpa using hk
     simp at h2
     omega
theorem takeZ_more (l:List Int){k:Nat}(hk:k<l.length):l.take (k+1)=l.take k++[l.getD k 0]:=by
 rw [List.take_succ_eq_append_getElem hk]
 simp [List.getD,hk]
theorem shO_set4 {V:World}{b:Nat}{h h':Sh}(e:V.heap[b]?=some (shO h)) :
 ((((V.setCell ⟨b,0,none⟩ (.int .i64 h'.t)).setCell ⟨b,1,none⟩ (.slice h'.a1 h'.n1 h'.c1)).setCell ⟨b,2,none⟩ (.slice h'.a2 h'.n2 h'.c2)).setCell ⟨b,3,none⟩ (.slice h'.a3 h'.n3 h'.c3)).heap[b]?=some (shO h'):=by
 simp [World.setCell,Array.getElem?_modify,e]
theorem zao {V:World}{b:Nat}{h:Sh}(e:V.heap[b]?=some (shO h))(i:Nat):V.frozen? ⟨b,i,none⟩=false:=by
 unfold World.frozen?
 rw [e]
 simp
theorem own_altR {S:Nat->Prop}{w w':World}{base size n:Nat}{e:TypeId}{v:Value}{xs:List Value}(h:w.ownsRow base e size v n xs)(hA:Alt S w w')(hv:∀ k,v.ownBlock=some k->¬ S k):w'.ownsRow base e size v n xs:=by
 have hlt:=World.ownsRow.lt h
 refine ⟨h.1,?_⟩
 rcases h.2 with h2|⟨g,cap,cur,rfl,hg,hh,r⟩
 · exact .inl h2
 · exact .inr ⟨g,cap,cur,rfl,hg,(hA.block g (hlt g rfl).2 (hv g rfl)).trans hh,r⟩
theorem tail_mode {l:List Nat}{a s:St}{tz:List Int}{j:Nat}(h:WorkI l a tz j s)(hm:ModeP a.ts (a.rs.getD j zr) j):(s.rs.getD j zr).b=1\/(s.rs.getD j zr).b=2->∃ m:Nat,m<s.ts.length/\zat s.ts (s.rs.getD j zr).c=(m:Nat):=fun hb=>by
 rw [h.rs2 j (zL _)] at hb ⊢
 rw [h.find,h.tl]
 rcases hm with ⟨q,_⟩|⟨q,m,hm,hfm,_⟩|⟨q,m,hm,hfm,_⟩|⟨q,_⟩
 · omega
 · exact ⟨m,hm,hfm⟩
 · exact ⟨m,hm,hfm⟩
 · omega
set_option maxHeartbeats 8000000 in
theorem rstep_any:SaysStep 7:=by
 intro W H g h s a n c ins w hok hin hri hrp htk hrn hbn hnn
 obtain ⟨iz,hiz,hz0,hz1,hz2⟩:=info_parts info_int
 obtain ⟨w2,hw2,hB2,hs2z,hg2,hs2⟩:=zbv w W H g h
 obtain ⟨w3,hw3⟩:∃ w3,w3=w2.alloc (shO ⟨0,none,0,0,none,0,0,none,0,0⟩):=⟨_,rfl⟩
 have hb3:Below w2.heap.size w2 w3:=by rw [hw3];exact (zX _ _).alloc (zL _) _
 have hz3:w3.heap.size=w.heap.size+3:=by rw [hw3];simp [hs2z]
 have hq3:w3.heap[w.heap.size+2]?=some (shO ⟨0,none,0,0,none,0,0,none,0,0⟩):=by rw [hw3,<- hs2z];exact heap_alloc_new w2 _
 have hB3:=hB2.trans (hb3.mono (by omega))
 have hgm:g.size<=maxLen:=by have:=hok.le;unfold maxLen;omega
 have HAL:=qz (rall_own W H g h s a n c ins w3 hgm ((hin.below hB3).mono hB3.size) ((hri.below hB3).mono hB3.size) hrp (by omega) (by omega))
 obtain ⟨hr1,hr2,hr3,hr4⟩:=ready_is (W:=W) (H:=H) (ins:=ins) hrp
 have HS1:=qz (alls_right (zac (zaa g)) ins s hrp)
 have HS1n:=qz (alls_rlt (zac (zaa g)) ins s)
 have hil:ins.length=n:=hri.1
 have HD1:=qz fun (h1:Sh) (V:World) (hV:StIn V V.heap.size h1 (allS (zac (zaa g)) s ins))=>rdisp_own W H g h1 (allS (zac (zaa g)) s ins) V.heap.size V hok hV (zL _) HS1.out (by rw [<- hV.bl.1];have:=HS1n.out.2.2;omega)
 have HG3:=qz (hg2.below hb3 (by omega))
 have HS3:=qz (hs2.below hb3 (by omega))
 have HQ3:=qz hq3
 have HB3:=qz hB3
 have HOK:=qz hok
 have HW3:Hid (w3=((w.alloc (zar W H g)).alloc (shO h)).alloc (shO ⟨0,none,0,0,none,0,0,none,0,0⟩)):=by unfold Hid;rw [hw3,hw2]
 have HE:Hid (stepG W H (zaa g) s ins=moveG W H (zaa g) (readyG W H (zaa g) s ins)):=rfl
 have HRD:Hid (readyG W H (zaa g) s ins=(dispG W H (zaa g) (allS (zac (zaa g)) s ins)).1):=rfl
 generalize dispG W H (zaa g) (allS (zac (zaa g)) s ins)=DG at HRD HD1
 obtain ⟨A,ps⟩:=DG
 simp only [] at HRD HD1
 rw [HRD.out] at hr1 hr2 hr3 hr4 HE
 have HR1:=qz hr1
 have HR2:=qz hr2
 have HR3:=qz hr3
 have HR4:=qz hr4
 have HIL:=qz hil
 have HTK:=qz htk
 obtain ⟨s0,s1,s2,s3⟩:=HS3.out
 obtain ⟨g0,g1,g2⟩:=HG3.out
 obtain ⟨t,a1,n1,c1,a2,n2,c2,a3,n3,c3⟩:=h
 simp only [] at s0 s1 s2 s3
 rw [HW3.out] at s0 s1 s2 s3 g0 g1 g2
 have hzz3:w.heap.size+3<=w3.heap.size:=by omega
 clear hw2 hB2 hg2 hs2 hw3 hb3 hq3 hB3 hrp hok hin hs2z hri hz3 hr1 hr2 hr3 hr4 hil htk
 go_enter Tryz.func7,Tryz.ntmps7
 go_wp2_with fail
 rw [<- HW3.out]
 clear s0 s1 s2 s3 g0 g1 g2
 refine HAL.out.mono ?_
 rintro e w4 ⟨h1,ac,cc,rfl,hst4,hco4,hb4⟩
 obtain ⟨w5,hw5⟩:∃ w5,w5=w4.alloc (shO h1):=⟨_,rfl⟩
 have hb5:Below w4.heap.size w4 w5:=by rw [hw5];exact (zX _ _).alloc (zL _) _
 have hz4:=hb4.size
 have hz5:w5.heap.size=w4.heap.size+1:=by rw [hw5];simp
 have hx5:StAt w5 w4.heap.size h1:=by rw [hw5];exact zbo w4 h1
 have hh5:w5.heap[w4.heap.size]?=some (shO h1):=by rw [hw5];exact heap_alloc_new w4 _
 have HB5:=qz (HB3.out.trans ((hb4.trans (hb5.mono hb4.size)).mono HB3.out.size))
 have HK5:=qz (hb4.trans (hb5.mono hb4.size))
 have HC5:=qz (hco4.calls hb5)
 have HCB:Hid (∀ b,(Value.slice ac n cc).ownBlock=some b->w3.heap.size<=b/\b<w4.heap.size):=World.ownsRow.lt hco4
 have HD5:=qz (HD1.out h1 w5 ((hst4.below hb5).mono hb5.size))
 have HH5:=qz hh5
 have HW5:=qz hw5
 obtain ⟨g0,g1,g2⟩:=HG3.out.below HK5.out (by omega)
 obtain ⟨x0,x1,x2,x3⟩:=hx5
 obtain ⟨t1,a11,n11,c11,a12,n12,c12,a13,n13,c13⟩:=h1
 simp only [] at x0 x1 x2 x3
 rw [hw5] at g0 g1 g2 x0 x1 x2 x3
 have hz45:w4.heap.size<w5.heap.size:=by omega
 clear hst4 hco4 hb4 hb5 hw5 hh5 hz5
 go_wp2_with fail
 rw [<- HW5.out]
 clear g0 g1 g2 x0 x1 x2 x3
 refine HD5.out.mono ?_
 rintro e w6 ⟨h2,ap,np,cp,rfl,hc6,_,hb6⟩
 have hz6:=hb6.size
 have hh6:=(hb6.block w4.heap.size hz45).trans HH5.out
 obtain ⟨y0,y1,y2,y3⟩:=zai hh6
 have f0:=zao hh6 0
 have f1:=zao hh6 1
 have f2:=zao hh6 2
 have f3:=zao hh6 3
 simp only [] at y0 y1 y2 y3
 obtain ⟨w7,hw7⟩:∃ w7,w7=(((w6.setCell ⟨w4.heap.size,0,none⟩ (.int .i64 h2.t)).setCell ⟨w4.heap.size,1,none⟩ (.slice h2.a1 h2.n1 h2.c1)).setCell ⟨w4.heap.size,2,none⟩ (.slice h2.a2 h2.n2 h2.c2)).setCell ⟨w4.heap.size,3,none⟩ (.slice h2.a3 h2.n3 h2.c3):=⟨_,rfl⟩
 have hc7:Copy0 w7 w5.heap.size h2 A:=by rw [hw7];exact ⟨hc6.tick,zap hc6.rs hz45 _ _ _ _,zap hc6.ts hz45 _ _ _ _,zbh hc6.bl hz45 _ _ _ _,hc6.n1,hc6.n2,hc6.n3⟩
 have hh7:w7.heap[w4.heap.size]?=some (shO h2):=by rw [hw7];exact shO_set4 hh6
 have hb7:Below w4.heap.size w6 w7:=by rw [hw7];exact zah (zX _ _) (zL _) _ _ _ _
 have hz7:w6.heap.size<=w7.heap.size:=hb7.size
 have hbk:=(hb6.mono (show w4.heap.size<=w5.heap.size by omega)).trans hb7
 have HB7:=qz (HB5.out.trans (hbk.mono (by omega)))
 have HG7:=qz ((HG3.out.below HK5.out (by omega)).below hbk (by omega))
 have HQ7:=qz ((hbk.block (w.heap.size+2) (by omega)).trans ((HK5.out.block (w.heap.size+2) (by omega)).trans HQ3.out))
 have HC7:Hid (OwnE w7 w3.heap.size (.slice ac n cc) (zbr (zac (zaa g)) s ins)):=zbp HC5.out hbk (fun b hb=>(HCB.out b hb).2)
 have HO7:=qz hc7
 have HH7:=qz hh7
 have HW7:=qz hw7
 have hm1:h2.n1=A.rs.length:=hc6.n1
 have hm2:h2.n2=A.ts.length:=hc6.n2
 have hm3:h2.n3=A.bl.length:=hc6.n3
 have hm4:h2.n1<=100:=by rw [hm1,HR2.out];exact hrn
 have HP7:=qz (rplans_any W H g h2 A w7.heap.size w7 HOK.out hc7.stIn (zL _) HR1.out (by rw [hm3];have:=HR4.out;have:=HIL.out;omega) (by omega))
 obtain ⟨t2,a21,n21,c21,a22,n22,c22,a23,n23,c23⟩:=h2
 simp only [] at hm1 hm2 hm3 hm4 HP7 hw7
 have HM1:=qz hm1
 have HM2:=qz hm2
 have HM3:=qz hm3
 obtain ⟨g0,g1,g2⟩:=(HG3.out.below HK5.out (by omega)).below hb6 (by omega)
 clear hc6 hb6 hh6 hw7 hc7 hh7 hb7 hbk hm1 hm2 hm3
 go_wp2_with fail
 rw [<- HW7.out]
 clear y0 y1 y2 y3 f0 f1 f2 f3 g0 g1 g2
 refine HP7.out.mono ?_
 rintro e w8 ⟨pa,pc,rfl,hpl8,hb8⟩
 have hz8:=hb8.size
 have HG8:=qz (HG7.out.below hb8 (by omega))
 have HQ8:=qz ((hb8.block (w.heap.size+2) (by omega)).trans HQ7.out)
 have HC8:Hid (OwnE w8 w3.heap.size (.slice ac n cc) (zbr (zac (zaa g)) s ins)):=zbp HC7.out (hb8.mono (show w4.heap.size<=w7.heap.size by omega)) (fun b hb=>(HCB.out b hb).2)
 have HO8:=qz (HO7.out.calls hb8)
 have HH8:=qz ((hb8.block w4.heap.size (by omega)).trans HH7.out)
 have HB8:=qz (HB7.out.trans (hb8.mono (by omega)))
 have HP8:=qz hpl8
 have hmx:=HO8.out.stIn.rs.2.1
 have hmy:=HO8.out.stIn.rs.2.2.1
 have hpm:=hpl8.2.1
 have hpn:=hpl8.2.2.1
 simp only [] at hmx hmy
 unfold maxLen at hmy hpn
 clear hb8 hpl8
 go_wp2_with fail
 go_loopw [12,13,14] (fun v1 v2 i wr=>∃ k:Nat,k<=n21/\i=.int .i64 k/\Hid (Duo wr w8.heap.size v1 v2 ((zbw A).take k) ((zbs W H (zaa g) A).take k))/\Hid (Below w8.heap.size w8 wr)) (fun _ _ i _=>n21-(intOf i).toNat)
 case atStart=>exact ⟨0,Nat.zero_le _,rfl,Duo.zero _ _,zX _ _⟩
 case round =>
  obtain ⟨k,hk,rfl,HD,HB⟩:=hrel
  have hsz:=HB.out.size
  obtain ⟨x0,x1,x2,x3⟩:=zai ((HB.out.block w4.heap.size (by omega)).trans HH8.out)
  simp only [] at x0 x1 x2 x3
  by_cases hlt:k<n21
  · have hkn:(k:Int)<(n21:Int):=by omega
    obtain ⟨lb1,ha1,_,hl1,_,_⟩:=(HO8.out.rs.full (by rw [<- HM1.out];omega)).at (by rw [<- HM1.out];omega)
    simp only [] at ha1
    subst ha1
    have r0:=(HB.out.cell (p:=⟨lb1,k*5,none⟩) hl1).trans ((HO8.out.cellR (i:=k) rfl (by rw [<- HM1.out];exact hlt)).1.1)
    obtain ⟨pb,po,rfl,hpb,hpc⟩:=(HP8.out.below HB.out).cells (by omega)
    obtain ⟨qa,qn,qc,p0,hq⟩:=hpc k hlt
    rw [plansG_at hlt] at hq
    have hqn:qn=7:=by rw [<- hq.1];exact planG_len _ _
    subst hqn
    obtain ⟨qb,qo,rfl,hqb,hqc⟩:=hq.cells (by omega)
    have p1:=hqc 1 (by omega)
    have HCA:Hid ((zbw A).take (k+1)=(zbw A).take k++[(A.rs.getD k zr).a]):=by unfold Hid;rw [takeZ_more _ (by rw [zbi,<- HM1.out];exact hlt),cellsG_at (by rw [<- HM1.out];exact hlt)];rfl
    have HWA:Hid ((zbs W H (zaa g) A).take (k+1)=(zbs W H (zaa g) A).take k++[(planG W H (zaa g) A n21 k).getD 1 0]):=by
     unfold Hid
     rw [takeZ_more _ (by rw [wantsG_len,<- HM1.out];exact hlt)]
     congr 2
     simp [zbs,List.getD,<- HM1.out,hlt]
    have hlen1:((zbw A).take k).length<=100:=by rw [List.length_take,zbi,<- HM1.out];omega
    have hlen2:((zbs W H (zaa g) A).take k).length<=100:=by rw [List.length_take,wantsG_len,<- HM1.out];omega
    generalize (A.rs.getD k zr).a=x at r0 HCA
    generalize (planG W H (zaa g) A n21 k).getD 1 0=y at p1 HWA
    generalize (zbw A).take k=l1 at HD HCA hlen1
    generalize (zbs W H (zaa g) A).take k=l2 at HD HWA hlen2
    have ho1:=HD.out.o1
    have HPC:Hid (∀ V,Below w8.heap.size wr V->V.cell? ⟨pb,po+k,none⟩=some (.slice (some ⟨qb,qo,none⟩) 7 qc)/\V.cell? ⟨qb,qo+1,none⟩=some (.int .i64 y)):=fun V hV=>⟨(hV.cell (p:=⟨pb,po+k,none⟩) hpb).trans p0,(hV.cell (p:=⟨qb,qo+1,none⟩) hqb).trans p1⟩
    clear hq hpc hqc p0 p1
    go_upto_region 10 with (at_builtin;refine wpList_append_own_at _ rfl (.tmp 48) (.tmp 55) 26 rfl w8.heap.size 3 iz (.int .i64 0) 1 8 Tryz.underlying26 hiz hz0 hz1 hz2 rfl (by decide) _ _ _ rfl (World.ownsRow.alloc ho1 _) ⟨wr.heap.size,0,none⟩ 1 1 [.int .i64 x] rfl rfl (one_cell _ _ _) (by simp [Value.oneCell']) (by simp only [maxLen];omega) (by omega) (by simp;omega) ?_;intro v' w9 hown9 hgrow9 _ hloc9)
    obtain ⟨hd9,hb9⟩:=HD.out.push hsz hown9 hgrow9 hloc9
    obtain ⟨p0,p1⟩:=HPC.out w9 hb9
    have ho2:=hd9.o2
    have HD9:=qz hd9
    have HB9:=qz (HB.out.trans hb9)
    have hz9:=HB9.out.size
    clear hown9 hgrow9 hloc9 hd9 hb9 ho1 x0 x1 x2 x3 r0
    go_wp2_with (at_builtin;refine wpList_append_own_at _ rfl (.tmp 57) (.tmp 64) 26 rfl w8.heap.size 3 iz (.int .i64 0) 1 8 Tryz.underlying26 hiz hz0 hz1 hz2 rfl (by decide) _ _ _ rfl (World.ownsRow.alloc ho2 _) ⟨w9.heap.size,0,none⟩ 1 1 [.int .i64 y] rfl rfl (one_cell _ _ _) (by simp [Value.oneCell']) (by simp only [maxLen];omega) (by omega) (by simp;omega) ?_;intro v2' w10 hown10 hgrow10 _ hloc10)
    obtain ⟨hd10,hb10⟩:=HD9.out.swap.push hz9 hown10 hgrow10 hloc10
    have HD10:Hid (Duo w10 w8.heap.size v' v2' ((zbw A).take (k+1)) ((zbs W H (zaa g) A).take (k+1))):=by unfold Hid;rw [HCA.out,HWA.out];exact hd10.swap
    have HB10:=qz (HB9.out.trans hb10)
    clear hown10 hgrow10 hloc10 hd10 hb10 ho2 p0 p1
    go_wp2_with fail
    go_roundw
    case rel=>exact ⟨k+1,by omega,by go_num,HD10.out,HB10.out⟩
    case measure=>simp [intOf];omega
  · obtain rfl:k=n21:=by omega
    have hct:(zbw A).take k=zbw A:=List.take_of_length_le (by rw [zbi,<- HM1.out];exact zL _)
    have hwt:(zbs W H (zaa g) A).take k=zbs W H (zaa g) A:=List.take_of_length_le (by rw [wantsG_len,<- HM1.out];exact zL _)
    rw [hct,hwt] at HD
    obtain ⟨va,vc,rfl,hva⟩:=HD.out.o1.sliced (n:=k) (by rw [zbi,<- HM1.out])
    obtain ⟨xa,xc,rfl,hxa⟩:=HD.out.o2.sliced (n:=k) (by rw [wantsG_len,<- HM1.out])
    have hor:=HO8.out.calls HB.out
    have HGT:=qz (rgate_yes va xa a23 k vc xc n23 c23 wr.heap.size (zbw A) (zbs W H (zaa g) A) A.bl wr hva hxa hor.stIn.bl (zL _) (by omega) (by rw [HM3.out];have:=HR4.out;have:=HIL.out;omega) (cellsG_once HR1.out))
    have HOR:=qz hor
    have HOV:=qz HD.out.o1
    have HBR:=qz HB.out
    have hvm:=hva.2.1
    have hvn:=hva.2.2.1
    unfold maxLen at hvn
    have HTO:Hid (gateG (zbw A) (zbs W H (zaa g) A) A.bl=toG W H (zaa g) A):=rfl
    have HTW:=qz fun i (hi:i<A.rs.length)=>toG_way (W:=W) (H:=H) HR1.out hi
    have HWI:=qz fun i (hi:i<=A.rs.length)=>workN_is (l:=zaa g) (tz:=toG W H (zaa g) A) HR1.out i hi
    have HTL:Hid ((toG W H (zaa g) A).length=k):=by unfold Hid;rw [toG_len,<- HM1.out]
    have HWY:Hid (∀ i,i<k->(waysG W H (zaa g) A).take (i+1)=(waysG W H (zaa g) A).take i++[wayG W H (zaa g) (cellR A i) ((toG W H (zaa g) A).getD i 0)]):=fun i hi=>by
     rw [takeZ_more _ (by simp [waysG,<- HM1.out,hi])]
     congr 2
     simp [waysG,List.getD,<- HM1.out,hi]
    have HWL:Hid ((waysG W H (zaa g) A).length=k):=by unfold Hid;simp [waysG,<- HM1.out]
    have HMV:Hid (moveG W H (zaa g) A=tickS (workN (zaa g) A (toG W H (zaa g) A) k)):=by unfold Hid;rw [HM1.out];rfl
    rw [HTO.out] at HGT
    generalize toG W H (zaa g) A=tz at HGT HTW HWI HTL HWY HMV
    generalize hways:waysG W H (zaa g) A=ways at HWY HWL
    have HWG:=qz hways
    clear hva hxa hct hwt hor HD HP8 HTO hways
    go_wp2_with fail
    refine HGT.out.mono ?_
    rintro e wx ⟨ga,gc,rfl,hgo,hbx⟩
    have hzx:=hbx.size
    have HBX:=qz (HBR.out.trans (hbx.mono hsz))
    have HOX:=qz (HOR.out.calls hbx)
    have HVX:=qz (HOV.out.calls hbx)
    have HTX:=qz hgo
    have hgr:=hgo.rowAt HTL.out
    have hgm1:=hgr.2.1
    have hgm2:=hgr.2.2.1
    unfold maxLen at hgm2
    have HSB:Hid (∀ b,(a21=some ⟨b,0,none⟩/\0<k\/a22=some ⟨b,0,none⟩/\0<n22)->w5.heap.size<=b/\b<w8.heap.size):=by
     rintro b (⟨hb,hn⟩|⟨hb,hn⟩)
     · exact World.ownsRow.lt (HO8.out.rs.full (by rw [<- HM1.out];exact hn)) b (by show Value.ownBlock (.slice a21 k c21)=_;rw [hb];rfl)
     · exact World.ownsRow.lt (HO8.out.ts.full (by rw [<- HM2.out];exact hn)) b (by show Value.ownBlock (.slice a22 n22 c22)=_;rw [hb];rfl)
    have HH10:=qz ((HBX.out.block w4.heap.size (by omega)).trans HH8.out)
    have HG10:=qz (HG8.out.below HBX.out (by omega))
    obtain ⟨BT,hBT⟩:∃ BT,BT=wr.heap.size:=⟨_,rfl⟩
    have hbt:w8.heap.size<=BT/\BT<=wx.heap.size:=by omega
    rw [<- hBT] at HTX
    clear hgo hbx hgr x0 x1 x2 x3 hsz hzx hBT HB HBR hlt
    go_wp2_with fail
    go_loopw [17,18] (fun v i V=>∃ j:Nat,j<=k/\i=.int .i64 j/\Hid (OwnZ V wx.heap.size v (ways.take j))/\Hid (Copy0 V w5.heap.size ⟨t2,a21,k,c21,a22,n22,c22,a23,n23,c23⟩ (workN (zaa g) A tz j))/\Hid (Alt (fun b=>a21=some ⟨b,0,none⟩/\0<k\/a22=some ⟨b,0,none⟩/\0<n22) wx V)) (fun _ i _=>k-(intOf i).toNat)
    case atStart=>exact ⟨0,Nat.zero_le _,rfl,World.ownsRow_nil _ _ _ _,HOX.out,Alt.refl _ _⟩
    case round =>
     obtain ⟨j,hj,rfl,HWV,HJ,HA⟩:=hrel
     have hsz:=HA.out.size
     have hsw:=HBX.out.size
     have hno:∀ b,b<w5.heap.size\/w8.heap.size<=b->¬ (a21=some ⟨b,0,none⟩/\0<k\/a22=some ⟨b,0,none⟩/\0<n22):=fun b hb h=>by have:=HSB.out b h;omega
     have hhx:=(HA.out.block w4.heap.size (by omega) (hno _ (by omega))).trans HH10.out
     obtain ⟨x0,x1,x2,x3⟩:=zai hhx
     simp only [] at x0 x1 x2 x3
     by_cases hlt:j<k
     · have hjn:(j:Int)<(k:Int):=by omega
       have HWJ:=qz (HWI.out j (by rw [<- HM1.out];omega))
       have hrj:=HWJ.out.rs2 j (zL _)
       have hjl:j<(workN (zaa g) A tz j).rs.length:=by rw [HWJ.out.rl,<- HM1.out];exact hlt
       obtain ⟨lb1,ha1,_,hl1,_,_⟩:=(HJ.out.rs.full (by omega)).at (by omega)
       simp only [] at ha1
       subst ha1
       obtain ⟨cb,rfl,hcb1,_,hcc,_⟩:=HVX.out.at (by rw [zbi,<- HM1.out]) hlt 0
       have hcb2:cb<wx.heap.size:=World.block_lt_of_cell? wx _ hcc
       rw [cellsG_at (by rw [<- HM1.out];exact hlt)] at hcc
       obtain ⟨tb,rfl,htb1,_,htc,_⟩:=HTX.out.at HTL.out hlt 0
       have htb2:tb<wx.heap.size:=World.block_lt_of_cell? wx _ htc
       have HW5:=qz (HWY.out j hlt)
       have HRC:=qz (show cellR A j=(A.rs.getD j zr).a from rfl)
       generalize cellR A j=ra at hcc HW5 HRC
       obtain ⟨tj,htj⟩:∃ tj,tz.getD j 0=tj:=⟨_,rfl⟩
       rw [htj] at htc HW5
       have HTJ:=qz htj
       have HFT:Hid (0<=tj/\tj<(g.size:Int)):=by
        obtain ⟨_,_,hgo⟩:=HTW.out j (by rw [<- HM1.out];exact hlt)
        have:=zaq (way_floor hgo)
        unfold Hid
        rw [<- htj,<- zag]
        exact this
       clear htj
       have q0:=(HA.out.cell (p:=⟨cb,j,none⟩) hcb2 (hno _ (.inr hcb1))).trans hcc
       have q1:=(HA.out.cell (p:=⟨tb,j,none⟩) htb2 (hno tb (.inr (by omega)))).trans htc
       obtain ⟨gg0,gg1,gg2⟩:=HG10.out
       have g0:=(HA.out.cell (p:=⟨w.heap.size,0,none⟩) (by show w.heap.size<wx.heap.size;omega) (hno _ (.inl (by show w.heap.size<w5.heap.size;omega)))).trans gg0
       have g1:=(HA.out.cell (p:=⟨w.heap.size,1,none⟩) (by show w.heap.size<wx.heap.size;omega) (hno _ (.inl (by show w.heap.size<w5.heap.size;omega)))).trans gg1
       have g2:=(HA.out.cell (p:=⟨w.heap.size,2,none⟩) (by show w.heap.size<wx.heap.size;omega) (hno _ (.inl (by show w.heap.size<w5.heap.size;omega)))).trans gg2
       obtain ⟨wj,hwj⟩:∃ wj,wj=wr:=⟨_,rfl⟩
       subst hwj
       have HHX:=qz hhx
       have HKC:Hid (∀ V,Below wj.heap.size wj V->V.cell? ⟨w.heap.size,0,none⟩=some (.int .i64 W)/\V.cell? ⟨w.heap.size,1,none⟩=some (.int .i64 H)/\V.cell? ⟨w.heap.size,2,none⟩=some (.string g)/\V.cell? ⟨cb,j,none⟩=some (.int .i64 ra)/\V.cell? ⟨tb,j,none⟩=some (.int .i64 tj)):=fun V hV=>by
        exact ⟨(hV.cell (p:=⟨w.heap.size,0,none⟩) (show w.heap.size<wj.heap.size by omega)).trans g0,(hV.cell (p:=⟨w.heap.size,1,none⟩) (show w.heap.size<wj.heap.size by omega)).trans g1,(hV.cell (p:=⟨w.heap.size,2,none⟩) (show w.heap.size<wj.heap.size by omega)).trans g2,(hV.cell (p:=⟨cb,j,none⟩) (show cb<wj.heap.size by omega)).trans q0,(hV.cell (p:=⟨tb,j,none⟩) (show tb<wj.heap.size by omega)).trans q1⟩
       clear hcc htc gg0 gg1 gg2 hhx g0 g1 g2 q0 q1
       go_wp2_with fail
       go_loopw [19,20] (fun vw vi V=>∃ m:Nat,m<=5/\vi=.int .i64 (4-(m:Int))/\vw=.int .i64 (wayN W H (zaa g) ra tj m)/\Hid (Below wj.heap.size wj V)) (fun _ vi _=>(intOf vi+1).toNat)
       case atStart=>exact ⟨0,Nat.zero_le _,rfl,rfl,zX _ _⟩
       case round =>
        obtain ⟨m,hm,rfl,rfl,HBV⟩:=hrel
        by_cases hm5:m<5
        · have e1:decide ((4-(m:Int))>=0)=true:=by rw [decide_eq_true_eq];omega
          obtain ⟨g0,g1,g2,q0,q1⟩:=HKC.out wr HBV.out
          have HGO:=qz fun V=>rgoes_any W H ra (4-(m:Int)) g V HOK.out
          have HWN:Hid (wayN W H (zaa g) ra tj (m+1)=if zak W H (zaa g) ra (4-(m:Int))=(tj,true) then 4-(m:Int) else wayN W H (zaa g) ra tj m):=rfl
          generalize zak W H (zaa g) ra (4-(m:Int))=P at HGO HWN
          obtain ⟨p1,p2⟩:=P
          have ew:IntKind.i64.wrap ((4-(m:Int))-1)=4-((m+1:Nat):Int):=by simp only [IntKind.wrap_i64];omega
          have HKS:Hid (∀ V,Kept wr V->(Kept wr V/\V.cell? ⟨w.heap.size,0,none⟩=some (.int .i64 W)/\V.cell? ⟨w.heap.size,1,none⟩=some (.int .i64 H)/\V.cell? ⟨w.heap.size,2,none⟩=some (.string g)/\V.cell? ⟨cb,j,none⟩=some (.int .i64 ra))):=fun V hV=>by
           obtain ⟨k1,k2,k3,k4,_⟩:=HKC.out V (HBV.out.trans (Below.mono hV HBV.out.size))
           exact ⟨hV,k1,k2,k3,k4⟩
          have HGC:Hid (∀ V,Kept wr V->Calls Tryz.prog 27 #[zam W H g,.int .i64 ra,.int .i64 (4-(m:Int))] V fun e V'=>e=.returned (.tuple #[.int .i64 p1,.bool p2])/\Kept wr V'):=fun V hV=>(HGO.out V).mono fun e V' ⟨he,hb⟩=>⟨he,Below.trans hV (hb.mono (Below.size hV))⟩
          have kk:Kept wr wr:=Kept.refl _
          clear g0 g1 g2 q0 q1 HGO
          go_wp2_with fail
          go_region_held3 (fun V=>Kept wr V/\V.cell? ⟨w.heap.size,0,none⟩=some (.int .i64 W)/\V.cell? ⟨w.heap.size,1,none⟩=some (.int .i64 H)/\V.cell? ⟨w.heap.size,2,none⟩=some (.string g)/\V.cell? ⟨cb,j,none⟩=some (.int .i64 ra))
           (first|exact HKS.out _ (by assumption)|exact HKS.out _ (Kept.drew (by assumption)))
           (first|(go_at_call 27;refine (HGC.out _ (by first|exact kk|exact Kept.drew kk)).mono ?_;rintro e wb ⟨rfl,kb⟩))
          have HBW:=qz (HBV.out.trans (Below.mono kb HBV.out.size))
          obtain ⟨_,_,_,_,q1⟩:=HKC.out wb HBW.out
          clear kb kk
          cases p2 with
          | false =>
            have HW1:Hid (wayN W H (zaa g) ra tj (m+1)=wayN W H (zaa g) ra tj m):=by unfold Hid;rw [HWN.out];exact if_neg (fun h=>by injection h with _ h;cases h)
            go_wp2_with fail
            go_roundw
            case rel=>exact ⟨m+1,by omega,rfl,by rw [HW1.out],HBW.out⟩
            case measure=>simp [intOf];omega
          | true =>
            by_cases hpt:p1=tj
            · have e2:(p1==tj)=true:=by simpa using hpt
              have HW1:Hid (wayN W H (zaa g) ra tj (m+1)=4-(m:Int)):=by unfold Hid;rw [HWN.out];exact if_pos (by rw [hpt])
              clear hpt
              go_wp2_with fail
              go_roundw
              case rel=>exact ⟨m+1,by omega,rfl,by rw [HW1.out],HBW.out⟩
              case measure=>simp [intOf];omega
            · have e2:(p1==tj)=false:=by simpa using hpt
              have HW1:Hid (wayN W H (zaa g) ra tj (m+1)=wayN W H (zaa g) ra tj m):=by unfold Hid;rw [HWN.out];exact if_neg (fun h=>hpt (by injection h))
              clear hpt
              go_wp2_with fail
              go_roundw
              case rel=>exact ⟨m+1,by omega,rfl,by rw [HW1.out],HBW.out⟩
              case measure=>simp [intOf];omega
        · obtain rfl:m=5:=by omega
          rw [wayN_end]
          generalize wayG W H (zaa g) ra tj=wy at HW5 ⊢
          have HKW:=qz HBV.out
          have hj0:=HJ.out.calls HBV.out
          have hv0:=HWV.out.calls HBV.out
          have hzr:=HBV.out.size
          have HA0:=qz (HA.out.calls (HBV.out.mono hsz))
          have hvl:(ways.take j).length<=100:=by rw [List.length_take];omega
          generalize ways.take j=l17 at hv0 hvl HW5 HWV
          have HROW:=qz ((ownZ_lit wr wy (zL _)).rowAt (n:=1) rfl)
          have HOA:=qz fun o=>hv0.calls ((zX wr.heap.size wr).alloc (zL _) o)
          have HBA:=qz fun o=>(zX wx.heap.size wr).alloc (Nat.le_trans hsz hzr) o
          have HJ0:=qz hj0
          clear HBV hj0 x0 x1 x2 x3
          have hbw:=Nat.le_trans hsz hzr
          have hm6:4-((5:Nat):Int)=-1:=by decide
          rw [hm6]
          clear HROW HOA HBA hm hm5 hm6
          go_upto_region 24 with (at_builtin;refine wpList_append_own_at _ rfl (.tmp 105) (.tmp 107) 26 rfl wx.heap.size 3 iz (.int .i64 0) 1 8 Tryz.underlying26 hiz hz0 hz1 hz2 rfl (by decide) _ _ _ rfl (World.ownsRow.alloc hv0 _) ⟨wr.heap.size,0,none⟩ 1 1 [.int .i64 wy] rfl rfl (one_cell _ _ _) (by simp [Value.oneCell']) (by simp only [maxLen];omega) (by omega) (by simp;omega) ?_;intro v' w11 hown11 hgrow11 _ _)
          have hk11:Below wx.heap.size wr w11:=((zX _ wr).alloc hbw _).grown hgrow11 (by simp;omega) (fun k hk=>(World.ownsRow.lt hv0 k hk).1)
          have ho11:OwnZ w11 wx.heap.size v' (l17++[wy]):=by
           unfold OwnZ
           rw [List.length_append,List.length_singleton]
           simpa [zan] using hown11
          rw [<- HW5.out] at ho11
          have HV11:=qz ho11
          have hj11:=HO8.out.upto HJ0.out hk11 hsw
          have HA11:=qz (HA0.out.calls hk11)
          have hz11:=hk11.size
          have hz11w:wx.heap.size<=w11.heap.size:=by omega
          have HG11:=qz ((hk11.cell (p:=⟨w.heap.size,2,none⟩) (by show w.heap.size<wx.heap.size;omega)).trans (HKC.out wr HKW.out).2.2.1)
          have HH11:=qz ((hk11.block w4.heap.size (by omega)).trans ((HKW.out.block w4.heap.size (by omega)).trans HHX.out))
          obtain ⟨_,_,_,_,_⟩:=HKC.out wr HKW.out
          have q0:=(hk11.cell (p:=⟨cb,j,none⟩) hcb2).trans (by assumption)
          have q1:=(hk11.cell (p:=⟨tb,j,none⟩) htb2).trans (by assumption)
          have hrest:=HR1.out.rest j (by rw [<- HM1.out];exact hlt)
          obtain ⟨_,_,hd1,he1⟩:=hrest
          have HJ11:=qz hj11
          have HTM:=qz (tail_mode HWJ.out (HR1.out.mode j (by rw [<- HM1.out];exact hlt)))
          rw [HRC.out,<- hrj] at q0
          rw [<- hrj] at hd1 he1
          have hgm2:g.size<=maxLen:=by have:=HOK.out.le;unfold maxLen;omega
          have HSUC:Hid (workS (zaa g) (workN (zaa g) A tz j) j tj=workN (zaa g) A tz (j+1)):=by unfold Hid;rw [<- HTJ.out];rfl
          refine step_tail (workN (zaa g) A tz j) ⟨t2,some ⟨lb1,0,none⟩,k,c21,a22,n22,c22,a23,n23,c23⟩ g w.heap.size w4.heap.size cb tb w5.heap.size j _ _ _ _ tj w11 _ _ _ _ _ _ _ _ _ _ _ _ _ _ _ _ _ _ _ _ _ _ _ _ _ _ _ _ _ _ _ _ _ _ _ _ _ _ _ _ _ _ _ _ _ _ _ _ _ _ _ _ _ _ _ _ _ _ _ _ _ _ _ _ _ _ _ _ _ _ _ _ _ _ _ _ _ _ _ _ _ _ _ _ _ _ _ _ _ _ _ _ _ _ _ _ _ _ _ _ _ _ _ _ _ _ _ _ _ _ _ _ _ _ _ _ _ _ _ _ _ _ _ _ _ _ _ _ _ _ _ _ _ _ _ _ _ _ _ _ _ _ _ _ _ _ _ _ _ _ _ _ _ _ _ _ _ _ _ _ _ _ _ _ _ _ _ _ _ _ _ _ _ _ _ _ _ _ _ _ _ _ _ _ _ _ _ _ _ _ _ _ _ _ _ _ _ _ _ _ _ _ _ _ _ _ _ _ _ _ _  HJ11.out hjl hm4 hgm2 HG11.out HH11.out (by omega) (by omega) (by omega) q0 q1 (by omega) (by omega) HFT.out hd1 he1 HTM.out _ _ ?_ (by assumption)
          intro v23 v24 v109 v110 v111 v112 v113 v114 v115 v116 v117 v118 v119 v120 v121 v122 v123 v124 v125 v126 v127 v128 v129 v130 v131 v132 v133 v134 v135 v136 v137 v138 v139 v140 v141 v142 v143 v144 v145 v146 v147 v148 v149 v150 v151 v152 v153 v154 v155 v156 v157 v158 v159 v160 v161 v162 v163 v164 v165 v166 v167 v168 v169 v170 v171 v172 v173 v174 v175 v176 v177 v178 v179 v180 v181 v182 v183 v184 v185 v186 v187 v188 v189 v190 v191 v192 v193 v194 v195 v196 v197 v198 v199 v200 v201 v202 v203 v204 v205 v206 v207 v208 V hcV haV
          have HCV:Hid (Copy0 V w5.heap.size ⟨t2,some ⟨lb1,0,none⟩,k,c21,a22,n22,c22,a23,n23,c23⟩ (workN (zaa g) A tz (j+1))):=by unfold Hid;rw [<- HSUC.out];exact hcV
          have HAV:=qz (HA11.out.trans haV (fun b hb _=>hb))
          have HVV:Hid (OwnZ V wx.heap.size v' (ways.take (j+1))):=own_altR HV11.out haV (fun b hb hs=>by have:=(World.ownsRow.lt HV11.out b hb).1;have:=(HSB.out b hs).2;omega)
          clear hcV haV
          go_wp2_with fail
          go_roundw
          case rel=>exact ⟨j+1,by omega,by go_num,HVV.out,HCV.out,HAV.out⟩
          case measure=>simp [intOf];omega
     · obtain rfl:j=k:=by omega
       have hwt:ways.take j=ways:=List.take_of_length_le (by rw [HWL.out];exact zL _)
       obtain ⟨ya,yc,rfl,_⟩:=HWV.out.sliced (n:=j) (by rw [hwt,HWL.out])
       have hwv:=HWV.out
       rw [hwt] at hwv
       have htick:t2=(workN (zaa g) A tz j).tick:=HJ.out.tick
       have hti:=(HWI.out j (by rw [<- HM1.out];exact zL _)).tick
       have ht0:=HR1.out.tick.1
       have ew:IntKind.i64.wrap (t2+1)=t2+1:=by
        have h3:=HR3.out
        have h4:=HTK.out
        simp only [IntKind.wrap_i64]
        omega
       have fz:=zao hhx 0
       have hbA:Below w5.heap.size wx wr:=HA.out.below (fun b hb=>(HSB.out b hb).1) (by omega)
       have hqx:wr.heap[w.heap.size+2]?=some (shO ⟨0,none,0,0,none,0,0,none,0,0⟩):=(hbA.block (w.heap.size+2) (by omega)).trans ((HBX.out.block (w.heap.size+2) (by omega)).trans HQ8.out)
       have hcx:OwnE wr w3.heap.size (.slice ac n cc) (zbr (zac (zaa g)) s ins):=zbp HC8.out ((HBX.out.mono (show w4.heap.size<=w8.heap.size by omega)).trans (hbA.mono (by omega))) (fun b hb=>(HCB.out b hb).2)
       have hbw:Below w.heap.size w wr:=(HB8.out.trans (HBX.out.mono (by omega))).trans (hbA.mono (by omega))
       obtain ⟨V1,hV1⟩:∃ V1,V1=wr.setCell ⟨w4.heap.size,0,none⟩ (.int .i64 (t2+1)):=⟨_,rfl⟩
       have hq1:V1.heap[w.heap.size+2]?=some (shO ⟨0,none,0,0,none,0,0,none,0,0⟩):=by
        rw [hV1]
        exact (Below.heap_setCell wr ⟨w4.heap.size,0,none⟩ _ _ (by show w.heap.size+2≠w4.heap.size;omega)).trans hqx
       have hj1:Copy0 V1 w5.heap.size ⟨t2+1,a21,j,c21,a22,n22,c22,a23,n23,c23⟩ (tickS (workN (zaa g) A tz j)):=by
        rw [hV1]
        obtain ⟨_,o1,o2,o3,n1,n2,n3⟩:=HJ.out
        exact ⟨by show t2+1=(workN (zaa g) A tz j).tick+1;omega,o1.imp (fun h=>ownsRow_setCell_below h (a:=⟨w4.heap.size,0,none⟩) hz45 _) id,o2.imp (fun h=>ownsRow_setCell_below h (a:=⟨w4.heap.size,0,none⟩) hz45 _) id,o3.imp (fun h=>ownsRow_setCell_below h (a:=⟨w4.heap.size,0,none⟩) hz45 _) id,n1,n2,n3⟩
       have hw1:OwnZ V1 wx.heap.size (.slice ya j yc) ways:=by rw [hV1];exact ownsRow_setCell_below hwv (a:=⟨w4.heap.size,0,none⟩) (show w4.heap.size<wx.heap.size by omega) _
       have hc1:OwnE V1 w3.heap.size (.slice ac n cc) (zbr (zac (zaa g)) s ins):=by
        rw [hV1]
        exact World.ownsRow.kept hcx (zaj wr w4.heap.size 0 _) (.inr (fun e=>by have:=(HCB.out _ e).2;omega))
       have hb1:Below w.heap.size w V1:=by rw [hV1];exact hbw.setCell (p:=⟨w4.heap.size,0,none⟩) (show w.heap.size<=w4.heap.size by omega) _
       obtain ⟨q0,q1,q2,q3⟩:=zai hq1
       have f0:=zao hq1 0
       have f1:=zao hq1 1
       have f2:=zao hq1 2
       have f3:=zao hq1 3
       obtain ⟨e0,e1,e2,e3⟩:=zcg q0 q1 q2 q3 ⟨t2+1,a21,j,c21,a22,n22,c22,a23,n23,c23⟩
       simp only [] at q0 q1 q2 q3 e0 e1 e2 e3
       have HSI:=qz (Copy0.mono (B':=w.heap.size) (⟨hj1.tick,zap hj1.rs (show w.heap.size+2<w5.heap.size by omega) (.int .i64 (t2+1)) (.slice a21 j c21) (.slice a22 n22 c22) (.slice a23 n23 c23),zap hj1.ts (show w.heap.size+2<w5.heap.size by omega) (.int .i64 (t2+1)) (.slice a21 j c21) (.slice a22 n22 c22) (.slice a23 n23 c23),zbh hj1.bl (show w.heap.size+2<w5.heap.size by omega) (.int .i64 (t2+1)) (.slice a21 j c21) (.slice a22 n22 c22) (.slice a23 n23 c23),hj1.n1,hj1.n2,hj1.n3⟩:Copy0 _ w5.heap.size ⟨t2+1,a21,j,c21,a22,n22,c22,a23,n23,c23⟩ (tickS (workN (zaa g) A tz j))) (by omega))
       have hwr:OwnZ _ _ _ _:=zbc hw1 (show w.heap.size+2<wx.heap.size by omega) (.int .i64 (t2+1)) (.slice a21 j c21) (.slice a22 n22 c22) (.slice a23 n23 c23)
       have HRW:Hid (OwnZ _ w.heap.size _ _):=own_low hwr (by omega)
       have hcr:OwnE _ _ _ _:=zbc hc1 (show w.heap.size+2<w3.heap.size by omega) (.int .i64 (t2+1)) (.slice a21 j c21) (.slice a22 n22 c22) (.slice a23 n23 c23)
       have HRC:Hid (OwnE _ w.heap.size _ _):=own_low hcr (by omega)
       have HBF:=qz (zah hb1 (show w.heap.size<=w.heap.size+2 by omega) (.int .i64 (t2+1)) (.slice a21 j c21) (.slice a22 n22 c22) (.slice a23 n23 c23))
       have HV1:=qz hV1
       have hne1:w.heap.size+2≠w4.heap.size:=by omega
       have hne2:w4.heap.size≠w.heap.size+2:=by omega
       obtain ⟨z0,z1,z2,z3⟩:=zai hqx
       have d0:=zao hqx 0
       have d1:=zao hqx 1
       have d2:=zao hqx 2
       have d3:=zao hqx 3
       simp only [] at z0 z1 z2 z3
       rw [hV1] at e0 e1 e2 e3
       clear hwr hcr hb1 hc1 hw1 hj1 hq1 hV1 hcx hqx hbw hbA hwv hhx q0 q1 q2 q3 f0 f1 f2 f3 htick hti ht0
       ·
        go_wp2_with fail
        refine bodyPost_ret (v:=.tuple #[shV ⟨t2+1,a21,j,c21,a22,n22,c22,a23,n23,c23⟩,.slice ac n cc,.slice ya j yc]) (by simp [results,Tryz.results7,go_sem,e0,e1,e2,e3]) rfl ⟨⟨t2+1,a21,j,c21,a22,n22,c22,a23,n23,c23⟩,ac,cc,ya,j,yc,rfl,?_,?_,?_,?_,?_⟩
        · rw [HE.out,HMV.out,<- HV1.out];exact HSI.out
        · rw [<- HV1.out];exact HRC.out
        · rw [HRD.out,HWG.out,<- HV1.out];exact HRW.out
        · rw [HRD.out,HWG.out];exact HWL.out
        · rw [<- HV1.out];exact HBF.out
end Go.Proofs.YtknnnbpgkfaapaaGreat.Vm
