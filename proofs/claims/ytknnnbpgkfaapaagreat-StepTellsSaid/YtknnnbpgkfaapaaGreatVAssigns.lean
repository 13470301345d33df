import Derived.Test.YtknnnbpgkfaapaaGreatQ
import Derived.Test.YtknnnbpgkfaapaaGreatVBestTens
import Derived.Test.YtknnnbpgkfaapaaGreatVRefDisps
import Derived.Test.YtknnnbpgkfaapaaGreatVCopies0
import Derived.BigRegion
set_option maxRecDepth 100000
set_option linter.unusedSimpArgs false
set_option linter.unusedVariables false
namespace Go.Proofs.YtknnnbpgkfaapaaGreat.Vm
open Go Go.RowKit
theorem info_pairP:(Tryz.prog.info? 108).map (fun i=>(i.zero,i.size,i.bytes))=some (some (.agg #[.int .i64 0,.int .i64 0]),2,16):=by kernel_rfl
set_option maxHeartbeats 1000000 in
theorem charge_any (h:Sh)(s:St)(B:Nat)(w:World)(hc:Copy0 w B h s)(hn:s.rs.length<=100000) :
 Calls Tryz.prog 40 #[.slice h.a1 h.n1 h.c1] w fun e w'=>e=.returned (.tuple #[])/\Copy0 w' B h (chargeS s)/\Alt (fun k=>h.a1=some ⟨k,0,none⟩/\0<s.rs.length) w w':=by
 have HC:=qz hc
 have hn1:h.n1=s.rs.length:=hc.n1
 have hnm:=hc.stIn.rs.len
 obtain ⟨t',a1,n1,c1,a2,n2,c2,a3,n3,c3⟩:=h
 simp only [] at hn1 hnm
 subst hn1
 clear hc
 go_enter Tryz.func40,Tryz.ntmps40
 go_wp2_with fail
 go_loopw [6] (fun i wr=>∃ j:Nat,j<=s.rs.length/\i=.int .i64 j/\Hid (Copy0 wr B ⟨t',a1,s.rs.length,c1,a2,n2,c2,a3,n3,c3⟩ (zas s j))/\Hid (Alt (fun k=>a1=some ⟨k,0,none⟩/\0<s.rs.length) w wr)) (fun i _=>s.rs.length-(intOf i).toNat)
 case atStart=>exact ⟨0,Nat.zero_le _,rfl,HC.out,Alt.refl _ _⟩
 case round =>
  obtain ⟨j,hj,rfl,HJ,HA⟩:=hrel
  by_cases hlt:j<s.rs.length
  · have hjn:(j:Int)<(s.rs.length:Int):=by omega
    have hcl:=(chargeN_len s (k:=j) (by omega)).1
    obtain ⟨lb,ha,hq,hlw,_,_⟩:=(HJ.out.rs.full (by omega)).at (by omega)
    simp only [] at ha
    subst ha
    have hcr:=HJ.out.cellR (i:=j) rfl (by omega)
    obtain ⟨r0,r1,r2,r3,r4⟩:=hcr.1
    have hfz:=hcr.2 (j*5+1)
    have HCH:Hid (zas s (j+1)=if ((zas s j).rs.getD j zr).b=0/\((zas s j).rs.getD j zr).d<100 then ⟨(zas s j).tick,(zas s j).rs.set j (setF ((zas s j).rs.getD j zr) 1 3),(zas s j).ts,(zas s j).bl⟩ else zas s j):=by unfold Hid;rw [zas]
    have HSET:=qz fun V (hV:Below wr.heap.size wr V)=>(HJ.out.calls hV).setR (i:=j) (j:=1) rfl (by omega) (by omega) 3
    obtain ⟨r,hr⟩:∃ r,(zas s j).rs.getD j zr=r:=⟨_,rfl⟩
    rw [hr] at r0 r1 r2 r3 r4 HCH HSET
    obtain ⟨V1,hV1⟩:∃ V1,V1=wr.alloc (recO r):=⟨_,rfl⟩
    have hv1:Below wr.heap.size wr V1:=by rw [hV1];exact (zX _ _).alloc (zL _) _
    have HV1:=qz hV1
    have HK1:=qz hv1
    have hmb:V1.cell? ⟨wr.heap.size,1,none⟩=some (.int .i64 r.b):=by rw [hV1];simp
    have HRD:=qz (isReady_any r V1)
    have HFZ:=qz hfz
    have HR1:=qz r1
    clear hcr hr hv1 hfz
    by_cases h1:r.b=0
    · have e1:(r.b==0)=true:=by simpa using h1
      rw [hV1] at hmb
      clear hV1
      by_cases h2:r.d<100
      · rw [show readyB r=false from decide_eq_false fun h=>by omega] at HRD
        have HCN:=qz (HCH.out.trans (if_pos ⟨h1,h2⟩))
        clear h1 HCH
        go_wp2_with fail
        rw [<- HV1.out]
        refine HRD.out.mono ?_
        rintro e V2 ⟨rfl,hb2⟩
        have hK2:=HK1.out.trans (hb2.mono HK1.out.size)
        have hS:=HSET.out V2 hK2
        have HC2:Hid (Copy0 (V2.setCell ⟨lb,j*5+1,none⟩ (.int .i64 3)) B ⟨t',some ⟨lb,0,none⟩,s.rs.length,c1,a2,n2,c2,a3,n3,c3⟩ (zas s (j+1))):=by unfold Hid;rw [HCN.out];exact hS.1
        have HA2:=qz ((HA.out.calls (hK2.mono HA.out.size)).grown (zaj V2 lb (j*5+1) (.int .i64 3)) (fun _=>⟨rfl,by omega⟩))
        have c1':=(hK2.cell (p:=⟨lb,j*5+1,none⟩) hlw).trans HR1.out
        have f1':=(hK2.frozen (p:=⟨lb,j*5+1,none⟩) hlw).trans HFZ.out
        clear hb2 hK2 hS r0 r1 r2 r3 r4
        go_wp2_with fail
        go_roundw
        case rel=>exact ⟨j+1,by omega,by go_num,HC2.out,HA2.out⟩
        case measure=>simp [intOf];omega
      · rw [show readyB r=true from decide_eq_true ⟨h1,by omega⟩] at HRD
        have HCN:=qz (HCH.out.trans (if_neg (fun h=>h2 h.2)))
        clear h1 HCH
        go_wp2_with fail
        rw [<- HV1.out]
        refine HRD.out.mono ?_
        rintro e V2 ⟨rfl,hb2⟩
        have hK2:=HK1.out.trans (hb2.mono HK1.out.size)
        have HC2:=qz (HJ.out.calls hK2)
        have HA2:=qz (HA.out.calls (hK2.mono HA.out.size))
        clear hb2 hK2 r0 r1 r2 r3 r4
        go_wp2_with fail
        go_roundw
        case rel=>exact ⟨j+1,by omega,by go_num,by rw [HCN.out];exact HC2.out,HA2.out⟩
        case measure=>simp [intOf];omega
    · have e1:(r.b==0)=false:=by simpa using h1
      have HCN:=qz (HCH.out.trans (if_neg (fun h=>h1 h.1)))
      have HC2:=qz (HJ.out.calls HK1.out)
      have HA2:=qz (HA.out.calls (HK1.out.mono HA.out.size))
      rw [hV1] at hmb
      clear hV1 h1 HCH
      go_wp2_with fail
      rw [<- HV1.out]
      go_roundw
      case rel=>exact ⟨j+1,by omega,by go_num,by rw [HCN.out];exact HC2.out,HA2.out⟩
      case measure=>simp [intOf];omega
  · obtain rfl:j=s.rs.length:=by omega
    have HE:Hid (Copy0 wr B ⟨t',a1,s.rs.length,c1,a2,n2,c2,a3,n3,c3⟩ (chargeS s)):=by unfold Hid;rw [<- chargeN_end];exact HJ.out
    go_wp2_with fail
    go_end0
    exact ⟨rfl,HE.out,HA.out⟩
theorem DistL.same {W H:Int}{l:List Nat}{s s':St}{to:Int}{L:List Int}(h:DistL W H l s to L)(hl:s'.rs.length=s.rs.length)(hb:s'.bl=s.bl)(ha:∀ k,(s'.rs.getD k zr).a=(s.rs.getD k zr).a):DistL W H l s' to L :=
 ⟨by rw [hl];exact h.1,fun k hk=>by rw [hb,ha];exact h.2 k (by omega)⟩
theorem KnD.same {w:World}{kb n B:Nat}{P:Nat->Prop}{W H:Int}{l:List Nat}{s s':St}(h:KnD w kb n B P W H l s)(hl:s'.rs.length=s.rs.length)(hb:s'.bl=s.bl)(ha:∀ k,(s'.rs.getD k zr).a=(s.rs.getD k zr).a):KnD w kb n B P W H l s':=by
 obtain ⟨f,h1,h2⟩:=h
 exact ⟨f,h1,fun z hz r hr=>by
  obtain ⟨e1,e2,L,e3,e4⟩:=h2 z hz r hr
  exact ⟨e1.trans hl.symm,e2,L,e3,e4.same hl hb ha⟩⟩
theorem own_alt {S:Nat->Prop}{w w':World}{base size n:Nat}{e:TypeId}{v:Value}{xs:List Value}(h:w.ownsRow base e size v n xs)(hA:Alt S w w')(hv:∀ k,v.ownBlock=some k->¬ S k):w'.ownsRow base e size v n xs:=by
 have hlt:=World.ownsRow.lt h
 refine ⟨h.1,?_⟩
 rcases h.2 with h2|⟨g,cap,cur,rfl,hg,hh,r⟩
 · exact .inl h2
 · exact .inr ⟨g,cap,cur,rfl,hg,(hA.block g (hlt g rfl).2 (hv g rfl)).trans hh,r⟩
structure BoxA (w:World)(S4:Nat)(W H:Int)(g:ByteArray)(h:Sh):Prop where
 gr:w.heap[S4]?=some (zar W H g)
 st:w.heap[S4+1]?=some (shO h)
 mp:w.heap[S4+3]?=some (.cells #[.map (some (S4+2))] 109)
 own:w.heap[S4+4]?=some (shO h)
theorem BoxA.keep {w w':World}{S4:Nat}{W H:Int}{g:ByteArray}{h:Sh}(b:BoxA w S4 W H g h)(hk:∀ k,S4<=k->k<=S4+4->k≠S4+2->w'.heap[k]?=w.heap[k]?):BoxA w' S4 W H g h :=
 ⟨(hk _ (by omega) (by omega) (by omega)).trans b.gr,(hk _ (by omega) (by omega) (by omega)).trans b.st,(hk _ (by omega) (by omega) (by omega)).trans b.mp,(hk _ (by omega) (by omega) (by omega)).trans b.own⟩
theorem BoxA.lt {w:World}{S4:Nat}{W H:Int}{g:ByteArray}{h:Sh}(b:BoxA w S4 W H g h):S4+4<w.heap.size:=(Array.getElem?_eq_some_iff.1 b.own).1
theorem box_grid {w:World}{b:Nat}{W H:Int}{g:ByteArray}(e:w.heap[b]?=some (zar W H g)):GridAt w b W H g :=
 ⟨(cell_of_row w b 0 _ _ (0,0) e).trans rfl,(cell_of_row w b 1 _ _ (0,0) e).trans rfl,(cell_of_row w b 2 _ _ (0,0) e).trans rfl⟩
theorem bestK_any (W H:Int)(g:ByteArray)(h:Sh)(s:St)(x:Int)(S4 n:Nat)(w:World)(hok:Okay W H g)(hin:StIn w w.heap.size h s)(hrp:RightP (zac (zaa g)) s)(hn3:h.n3<=1000000)(hn:n<=1000000)(hb:BoxA w S4 W H g h)
 (hK:KnD w (S4+2) n (S4+5) (fun _=>True) W H (zaa g) s) :
 Calls Tryz.prog 58 #[shV h,.int .i64 x,.func (.func 59) #[] #[.pointer (some ⟨S4+3,0,none⟩),.pointer (some ⟨S4,0,none⟩),.pointer (some ⟨S4+1,0,none⟩)]] w fun e w' =>
  e=.returned (.int .i64 (bestG W H (zaa g) s x))/\KnD w' (S4+2) (n+1) (S4+5) (fun _=>True) W H (zaa g) s/\Alt (fun k=>k=S4+2) w w':=by
 have hlt:=hb.lt
 have hrl:s.rs.length=h.n1:=hin.rs.1
 refine best_any W H g h s x w.heap.size w hin (zL _) hrp 59 _ (by intro args w;rfl) (fun k=>k=S4+2) (fun k hk=>by have hk:k=S4+2:=hk;omega) (fun k hk=>by have hk:k=S4+2:=hk;subst hk;exact hK.isMap)
  (fun V V'=>KnD V' (S4+2) (n+1) (S4+5) (fun k=>k<w.heap.size\/V.heap.size<=k) W H (zaa g) s/\Alt (fun k=>k=S4+2) V V')
  (fun V=>KnD V (S4+2) (n+1) (S4+5) (fun _=>True) W H (zaa g) s/\Alt (fun k=>k=S4+2) w V) ?_ ?_ ?_
 · intro V to hto hV
   have hbV:BoxA V S4 W H g h:=hb.keep fun k _ hk _=>hV.block k (by omega)
   refine (sharedFn_any W H g h s to w.heap.size S4 (S4+1) (S4+3) (S4+2) n (S4+5) (fun k=>k<w.heap.size) V hok (hin.below hV) hV.size hrp hto hn3 (box_grid hbV.gr) (zai hbV.st) ((cell_of_row V (S4+3) 0 _ _ (0,0) hbV.mp).trans rfl) ((hK.to fun k _ hk _=>hk).calls hV) hn (by have:=hV.size;omega)).mono ?_
   rintro e V' ⟨ab,he,hab,⟨L,hnum,hdl⟩,hA,hkn⟩
   exact ⟨ab,L,he,hab,⟨hnum.base.2,fun i hi=>hnum.cell (by rw [hdl.1,hrl];exact hi)⟩,hdl,hA,hkn,hA⟩
 · intro V hV
   exact ⟨(hK.calls hV).less (by omega),Alt.ofBelow hV⟩
 · rintro V V' V'' hV ⟨hkn,hA⟩ hI
   have hz:=hV.size
   exact ⟨(hkn.alt hI (fun h=>by have h:=h.1;omega) (fun k _ _ hp hs=>by have h1:=hs.1;have h2:=hs.2;rcases hp with hp|hp <;> omega)).to (fun _ _ _ _=>trivial),((Alt.ofBelow hV).trans hA (fun k hk _=>hk)).trans hI (fun k hk hl=>by have:=hk.1;omega)⟩
theorem KnD.grown {w w':World}{kb n B B' size m:Nat}{e:TypeId}{v:Value}{xs:List Value}{P:Nat->Prop}{W H:Int}{l:List Nat}{s:St}(h:KnD w kb n B P W H l s)(ho:w.ownsRow B' e size v m xs)(hg:w.grownBy w' v.ownBlock)(hne:e≠3)(hB:kb<B'):KnD w' kb n B P W H l s:=by
 obtain ⟨f,h1,h2⟩:=h
 refine ⟨f,h1.keep (hg.block kb h1.lt (fun hc=>by have:=(World.ownsRow.lt ho kb hc.symm).1;omega)),fun z hz r hr=>?_⟩
 obtain ⟨e1,e2,L,e3,e4⟩:=h2 z hz r hr
 exact ⟨e1,e2,L,World.ownsRow.kept e3 hg (zbu ho e3 hne),e4⟩
set_option maxHeartbeats 4000000 in
theorem assign_any (W H:Int)(g:ByteArray)(h:Sh)(s:St)(B S4:Nat)(w0 w:World)(hok:Okay W H g)(hrp:RightP (zac (zaa g)) s)(hn3:h.n3<=100000)(hc0:Copy0 w0 B h s)(hz0:w0.heap.size<=S4)(hB:B<=S4)(hbw:Below w0.heap.size w0 w)
 (hz:w.heap.size=S4+4) (hgr:w.heap[S4]?=some (zar W H g)) (hst:w.heap[S4+1]?=some (shO h)) (hmp:w.heap[S4+3]?=some (.cells #[.map (some (S4+2))] 109)) (hkn:KIn fieldM w (S4+2) 0 (fun _=>none)) :
 Calls Tryz.prog 38 #[shV h,.func (.func 59) #[] #[.pointer (some ⟨S4+3,0,none⟩),.pointer (some ⟨S4,0,none⟩),.pointer (some ⟨S4+1,0,none⟩)]] w fun e w' =>
  ∃ v,e=.returned v/\OwnPr w' (S4+5) 108 v (dispN W H (zaa g) s s.ts.length).2/\Copy0 w' B h (dispN W H (zaa g) s s.ts.length).1/\Below B w w':=by
 obtain ⟨i1,hi1,hy0,hy1,hy2⟩:=info_parts info_pairP
 obtain ⟨w1,hw1⟩:∃ w1,w1=w.alloc (shO h):=⟨_,rfl⟩
 have hb1:Below w.heap.size w w1:=by rw [hw1];exact (zX _ _).alloc (zL _) _
 have hz1:w1.heap.size=S4+5:=by rw [hw1];simp [hz]
 have HBX1:Hid (BoxA w1 S4 W H g h):=⟨(hb1.block _ (by omega)).trans hgr,(hb1.block _ (by omega)).trans hst,(hb1.block _ (by omega)).trans hmp,by rw [hw1];exact zbk w _ hz.symm⟩
 have HC1:Hid (Copy0 w1 B h s):=(hc0.calls hbw).calls hb1
 have HK1:Hid (KnD w1 (S4+2) 0 (S4+5) (fun _=>True) W H (zaa g) s):=⟨_,hkn.keep (hb1.block _ (by omega)),fun z _ r hr=>by cases hr⟩
 have HC0:=qz hc0
 have HB1:=qz (hb1.mono (show B<=w.heap.size by omega))
 have hrl:s.rs.length=h.n1:=hc0.n1.symm
 have htl:s.ts.length=h.n2:=hc0.n2.symm
 have hrn:=hrp.rn
 have htn:=hrp.tn
 have HL1:Hid (∀ lb,h.a1=some ⟨lb,0,none⟩->0<h.n1->lb<S4):=fun lb e hn=>by
  have:=World.ownsRow.lt (hc0.rs.full (by omega)) lb (by rw [e];rfl)
  omega
 have HL2:Hid (∀ lb,h.a2=some ⟨lb,0,none⟩->0<h.n2->lb<S4):=fun lb e hn=>by
  have:=World.ownsRow.lt (hc0.ts.full (by omega)) lb (by rw [e];rfl)
  omega
 have HOK:=qz hok
 have HRP:=qz hrp
 have HW1:=qz hw1
 have hx1:=zai HBX1.out.own
 obtain ⟨s0,s1,s2,s3⟩:=hx1
 have hzz:w.heap.size=S4+4:=hz
 obtain ⟨t',a1',n1',c1',a2',n2',c2',a3',n3',c3'⟩:=h
 simp only [] at s0 s1 s2 s3 hrl htl hn3 HL1 HL2
 rw [hw1,<- hzz] at s0 s1 s2 s3
 clear hw1 hb1 hc0 hbw hgr hst hmp hkn hok hrp hz
 go_enter Tryz.func38,Tryz.ntmps38
 go_wp2_with fail
 rw [<- HW1.out]
 clear s0 s1 s2 s3
 go_loopw [5,11] (fun v i wr=>∃ (k:Nat) (st:St) (ps:List (Nat × Nat)),k<=n2'/\i=.int .i64 k/\Hid (dispN W H (zaa g) s k=(st,ps))/\Hid (OwnPr wr (S4+5) 108 v ps)/\Hid (Copy0 wr B ⟨t',a1',n1',c1',a2',n2',c2',a3',n3',c3'⟩ st)/\Hid (KnD wr (S4+2) k (S4+5) (fun _=>True) W H (zaa g) s)/\Hid (BoxA wr S4 W H g ⟨t',a1',n1',c1',a2',n2',c2',a3',n3',c3'⟩)/\Hid (Below B w wr)) (fun _ i _=>n2'-(intOf i).toNat)
 case atStart=>exact ⟨0,s,[],Nat.zero_le _,rfl,rfl,OwnPr.nil _ _ _,HC1.out,HK1.out,HBX1.out,HB1.out⟩
 case round =>
  obtain ⟨k,st,ps,hk,rfl,HD,HO,HC,HK,HX,HB⟩:=hrel
  have hlb:S4+4<wr.heap.size:=HX.out.lt
  obtain ⟨x0,x1,x2,x3⟩:=zai HX.out.own
  simp only [] at x0 x1 x2 x3
  have hdi:=dispN_is (W:=W) (H:=H) (l:=zaa g) HRP.out k (by omega)
  rw [HD.out] at hdi
  obtain ⟨hri,hdi⟩:=hdi
  simp only [] at hri hdi
  have hsr:st.rs.length=n1':=by rw [hdi.rl];omega
  have hst:st.ts.length=n2':=by rw [hdi.tl];omega
  have HSA:Hid (s.rs.length=st.rs.length/\s.bl=st.bl/\∀ k,(s.rs.getD k zr).a=(st.rs.getD k zr).a):=⟨hdi.rl.symm,hdi.bl.symm,fun k=>(hdi.same k).1.symm⟩
  by_cases hlt:k<n2'
  · have hkn:(k:Int)<(n2':Int):=by omega
    have HBE:=qz (bestK_any W H g ⟨t',a1',n1',c1',a2',n2',c2',a3',n3',c3'⟩ st (k:Int) S4 k wr HOK.out HC.out.stIn hri (by show n3'<=1000000;omega) (by omega) HX.out (HK.out.same hdi.rl hdi.bl fun k=>(hdi.same k).1))
    have HAFT:Hid (∀ wa,KnD wa (S4+2) (k+1) (S4+5) (fun _=>True) W H (zaa g) st->Alt (fun b=>b=S4+2) wr wa->OwnPr wa (S4+5) 108 u5 ps/\Copy0 wa B ⟨t',a1',n1',c1',a2',n2',c2',a3',n3',c3'⟩ st/\KnD wa (S4+2) (k+1) (S4+5) (fun _=>True) W H (zaa g) s/\BoxA wa S4 W H g ⟨t',a1',n1',c1',a2',n2',c2',a3',n3',c3'⟩/\Below B w wa):=fun wa hka hA =>
     ⟨own_alt HO.out hA (fun b hb=>by have:=(World.ownsRow.lt HO.out b hb).1;show ¬ b=S4+2;omega),HC0.out.upto HC.out (hA.below (B:=S4+2) (fun b hb=>by have hb:b=S4+2:=hb;omega) (by omega)) (by omega),hka.same HSA.out.1 HSA.out.2.1 HSA.out.2.2,HX.out.keep (fun b _ hb hn=>hA.block b (by omega) hn),HB.out.trans (hA.below (fun b hb=>by have hb:b=S4+2:=hb;omega) (by omega))⟩
    rcases bestG_is (W:=W) (H:=H) (l:=zaa g) (s:=st) (k:Int) with ⟨h1,_⟩|⟨_,_,hd1,kk,hkk,hbe,hf⟩
    · have HD2:Hid (dispN W H (zaa g) s (k+1)=(st,ps)):=by unfold Hid;rw [dispN,HD.out];exact if_pos (by rw [h1];decide)
      rw [h1] at HBE
      clear hri hdi
      go_wp2_with fail
      refine HBE.out.mono ?_
      rintro e wa ⟨rfl,hka,hA⟩
      obtain ⟨q1,q2,q3,q4,q5⟩:=HAFT.out wa hka hA
      have Q1:=qz q1
      have Q2:=qz q2
      have Q3:=qz q3
      have Q4:=qz q4
      have Q5:=qz q5
      clear q1 q2 q3 q4 q5 hka hA
      go_wp2_with fail
      go_roundw
      case rel=>exact ⟨k+1,st,ps,by omega,by go_num,HD2,Q1,Q2,Q3,Q4,Q5⟩
      case measure=>simp [intOf];omega
    · have HD2:Hid (dispN W H (zaa g) s (k+1)=(giveS st k kk,ps++[(k,kk)])):=by
       unfold Hid
       rw [dispN,HD.out]
       simp only [hbe,Int.toNat_natCast]
       exact if_neg (by omega)
      rw [hbe] at HBE
      have hpl:ps.length<=k:=by have:=dispN_len W H (zaa g) s k;rw [HD.out] at this;exact this
      have hkkn:(kk:Int)<(n1':Int):=by omega
      have hk0:((kk:Int)==-1)=false:=by rw [beq_eq_false_iff_ne];omega
      clear hri hdi hf hd1
      go_wp2_with fail
      refine HBE.out.mono ?_
      rintro e wa ⟨rfl,hka,hA⟩
      obtain ⟨hoa,m,hkna,hxa,hbe3⟩:=HAFT.out wa hka hA
      have hza:=hA.size
      obtain ⟨lb2,ha2,hq2,_,_,_⟩:=(m.ts.full (by omega)).at (by omega)
      obtain ⟨lb1,ha1,hq1,_,_,_⟩:=(m.rs.full (by omega)).at (by omega)
      simp only [] at ha1 ha2
      subst ha1 ha2
      have hl1:=HL1.out lb1 rfl (by omega)
      have hl2:=HL2.out lb2 rfl (by omega)
      obtain ⟨z0,z1,z2,z3⟩:=zai hxa.own
      simp only [] at z0 z1 z2 z3
      have hk2:k<st.ts.length:=by omega
      obtain ⟨m1,q1⟩:=m.setT (i:=k) (j:=3) rfl hk2 (by omega) 2
      obtain ⟨m2,q2⟩:=m1.setT (i:=k) (j:=4) rfl (by simp;omega) (by omega) (kk:Int)
      simp only [zba hk2] at m2 q2
      have f1:=(m.cellT (i:=k) rfl hk2).1.2.2.2.1
      have fz1:=(m.cellT (i:=k) rfl hk2).2 (k*5+3)
      have f2:=(m.cellT (i:=k) rfl hk2).1.2.2.2.2
      have fz2:=(m.cellT (i:=k) rfl hk2).2 (k*5+4)
      have hw2s:S4+4<wa.heap.size:=by omega
      have hn2s:lb2≠S4+4:=by omega
      have hn2t:S4+4≠lb2:=by omega
      have hn1s:lb1≠S4+4:=by omega
      have hn1t:S4+4≠lb1:=by omega
      have hx1:=zax (lb:=lb2) (j:=k*5+3) (v:=.int .i64 2) hxa.own (by omega)
      have hx2:=zax (lb:=lb2) (j:=k*5+4) (v:=.int .i64 (kk:Int)) hx1 (by omega)
      have hA2:Alt (fun b=>b=lb1\/b=lb2) wa ((wa.setCell ⟨lb2,k*5+3,none⟩ (.int .i64 2)).setCell ⟨lb2,k*5+4,none⟩ (.int .i64 (kk:Int))):=((Alt.refl _ wa).grown (zaj wa lb2 (k*5+3) (.int .i64 2)) (fun _=>.inr rfl)).grown (zaj _ lb2 (k*5+4) (.int .i64 (kk:Int))) (fun _=>.inr rfl)
      obtain ⟨X2,hX2⟩:∃ X2,X2=(wa.setCell ⟨lb2,k*5+3,none⟩ (.int .i64 2)).setCell ⟨lb2,k*5+4,none⟩ (.int .i64 (kk:Int)):=⟨_,rfl⟩
      rw [<- hX2] at m2 hx2 hA2
      obtain ⟨Y,hY⟩:∃ Y,Y=X2.drew:=⟨_,rfl⟩
      have hbY:Below X2.heap.size X2 Y:=by rw [hY];exact Below.drew (zX _ _)
      have hxY:Y.heap[S4+4]?=some (shO ⟨t',some ⟨lb1,0,none⟩,n1',c1',some ⟨lb2,0,none⟩,n2',c2',a3',n3',c3'⟩):=by rw [hY];exact hx2
      have hAY:=hA2.drew
      rw [<- hY] at hAY
      have mY:=m2.calls hbY
      obtain ⟨v0,v1,v2,v3⟩:=zai hxY
      simp only [] at v0 v1 v2 v3
      have f4:Y.cell? ⟨lb2,k*5,none⟩=some (.int .i64 (st.ts.getD k zr).a):=by
       have q:=(mY.cellT (i:=k) rfl (by simp;omega)).1.1
       simp only [List.set_set,zba hk2] at q
       exact q
      have f3:=(mY.cellR (i:=kk) rfl hkk).1.2.1
      have fz3:=(mY.cellR (i:=kk) rfl hkk).2 (kk*5+1)
      have f5:=(mY.cellR (i:=kk) rfl hkk).1.2.2.1
      have fz5:=(mY.cellR (i:=kk) rfl hkk).2 (kk*5+2)
      obtain ⟨m3,q3⟩:=mY.setR (i:=kk) (j:=1) rfl hkk (by omega) 1
      obtain ⟨m4,q4⟩:=m3.setR (i:=kk) (j:=2) rfl (by simp;omega) (by omega) (st.ts.getD k zr).a
      simp only [zba hkk] at m4 q4
      rw [<- give_setF] at m4
      have hYs:S4+4<Y.heap.size:=by have:=hAY.size;omega
      generalize (st.ts.getD k zr).a=id at f4 m4 q4
      have hA4:Alt (fun b=>b=lb1\/b=lb2) wa ((Y.setCell ⟨lb1,kk*5+1,none⟩ (.int .i64 1)).setCell ⟨lb1,kk*5+2,none⟩ (.int .i64 id)).drew:=((hAY.grown (zaj Y lb1 (kk*5+1) (.int .i64 1)) (fun _=>.inl rfl)).grown (zaj _ lb1 (kk*5+2) (.int .i64 id)) (fun _=>.inl rfl)).drew
      have m5:=m4.calls (Below.drew (zX _ _))
      obtain ⟨Z,hZ⟩:∃ Z,Z=((Y.setCell ⟨lb1,kk*5+1,none⟩ (.int .i64 1)).setCell ⟨lb1,kk*5+2,none⟩ (.int .i64 id)).drew:=⟨_,rfl⟩
      rw [<- hZ] at hA4 m5
      have hSS:∀ b,S4<=b->¬ (b=lb1\/b=lb2):=fun b hb h=>by omega
      have hoZ:OwnPr Z (S4+5) 108 u5 ps:=own_alt hoa hA4 (fun b hb=>hSS b (by have:=(World.ownsRow.lt hoa b hb).1;omega))
      have hkZ:=hkna.alt hA4 (hSS _ (by omega)) (fun b hb _ _=>hSS b (by omega))
      have hxZ:=hxa.keep fun b hb hb4 _=>hA4.block b (by omega) (hSS b hb)
      have hbZ:=hbe3.trans (hA4.below (B:=B) (fun b hb=>by rcases hb with rfl|rfl <;> omega) (by omega))
      have hzZ:S4+4<Z.heap.size:=by have:=hA4.size;omega
      obtain ⟨ZA,hZA⟩:∃ ZA,ZA=Z.alloc (.cells #[.int .i64 (k:Nat),.int .i64 (kk:Nat)] 108):=⟨_,rfl⟩
      have HOZ:=qz hoZ
      have HKZ:=qz hkZ
      have HXZ:=qz hxZ
      have HBZ:=qz hbZ
      have HMZ:=qz m5
      have HZ:=qz hZ
      have HX2:=qz hX2
      have HY:=qz hY
      generalize (st.ts.getD k zr).d=o1 at f1
      generalize (st.ts.getD k zr).e=o2 at f2
      generalize (st.rs.getD kk zr).b=o3 at f3
      generalize (st.rs.getD kk zr).c=o4 at f5
      clear HL1 HL2 x0 x1 x2 x3 hka hA m m1 m2 m3 m4 m5 mY q1 q2 q3 q4 hx1 hx2 hA2 hA4 hAY hX2 hY hbY hxY hoa hkna hxa hbe3 hZ hoZ hkZ hxZ hbZ hSS hZA HAFT HBE HK HX HB HC HO HD
      go_wp2_with fail
      go_region
      rw [<- HX2.out,<- HY.out]
      clear f1 f2 fz1 fz2 z0 z1 z2 z3
      go_wp2_with fail
      go_region
      rw [<- HZ.out]
      clear f3 f4 f5 fz3 fz5 v0 v1 v2 v3
      have h1:=HOZ.out
      go_wp2_with (at_builtin;(refine wpList_append_own _ rfl (.tmp 47) (.tmp 51) 53 rfl (S4+5) 108 i1 (.agg #[.int .i64 0,.int .i64 0]) 2 16 Tryz.underlying53 hi1 hy0 hy1 hy2 rfl (by decide) _ _ _ rfl (World.ownsRow.alloc h1 _) ⟨Z.heap.size,0,none⟩ 1 1 [.int .i64 (k:Nat),.int .i64 (kk:Nat)] rfl rfl (two_cell _ _ _ _) (by simp [Value.oneCell']) (by simp only [maxLen];omega) (by omega) (by simp only [World.size_alloc];omega) ?_;intro v6 w6 hown6 hgrow6 _))
      have hbA:Below Z.heap.size Z (Z.alloc (.cells #[.int .i64 (k:Nat),.int .i64 (kk:Nat)] 108)):=(zX _ _).alloc (zL _) _
      have HK6:=qz (((HKZ.out.calls hbA).grown (World.ownsRow.alloc h1 _) hgrow6 (by decide) (show S4+2<S4+5 by omega)))
      have hb46:Below (S4+5) Z w6:=((zX _ _).alloc (by omega) _).grown hgrow6 (by simp only [World.size_alloc];omega) (fun k hk=>(World.ownsRow.lt h1 k hk).1)
      have HO6:Hid (OwnPr w6 (S4+5) 108 v6 (ps++[(k,kk)])):=by
       unfold Hid OwnPr
       rw [List.length_append,List.length_singleton,pairsL_append]
       exact hown6
      have HM6:=qz (HC0.out.upto HMZ.out hb46 (by omega))
      have HX6:=qz (HXZ.out.keep fun b hb hb4 _=>hb46.block b (by omega))
      have HB6:=qz (HBZ.out.trans (hb46.mono (by omega)))
      clear hown6 hgrow6 hb46 h1 hbA
      go_wp2_with fail
      go_roundw
      case rel=>exact ⟨k+1,_,_,by omega,by go_num,HD2,HO6,HM6,HK6.out,HX6,HB6⟩
      case measure=>simp [intOf];omega
  · obtain rfl:k=n2':=by omega
    clear hri hdi x0 x1 x2 x3
    have HDG:Hid (dispN W H (zaa g) s s.ts.length=(st,ps)):=by unfold Hid;rw [htl];exact HD.out
    go_wp2_with fail
    go_ret
    rw [HDG.out]
    exact ⟨_,rfl,HO.out,HC.out,HB.out⟩
end Go.Proofs.YtknnnbpgkfaapaaGreat.Vm
namespace Go.Proofs.YtknnnbpgkfaapaaGreat.Vm
open Go Go.RowKit
theorem CopyIn.zero {w:World}{B:Nat}{h:Sh}{s:St}(c:CopyIn w B h s):Copy0 w B h s:=⟨c.tick,.inl c.rs,.inl c.ts,.inl c.bl,c.n1,c.n2,c.n3⟩
theorem stAt_heap4 {V:World}{b:Nat}{h h':Sh}(e:V.heap[b]?=some (shO h)) :
 ((((V.setCell ⟨b,0,none⟩ (.int .i64 h'.t)).setCell ⟨b,1,none⟩ (.slice h'.a1 h'.n1 h'.c1)).setCell ⟨b,2,none⟩ (.slice h'.a2 h'.n2 h'.c2)).setCell ⟨b,3,none⟩ (.slice h'.a3 h'.n3 h'.c3)).heap[b]?=some (shO h'):=by
 simp [World.setCell,Array.getElem?_modify,e]
structure ShA (w5 V:World)(W H:Int)(g:ByteArray)(h:Sh):Prop where
 kept:Below w5.heap.size w5 V
 size:V.heap.size=w5.heap.size+4
 gr:V.heap[w5.heap.size]?=some (zar W H g)
 st:V.heap[w5.heap.size+1]?=some (shO h)
 mp:V.heap[w5.heap.size+3]?=some (.cells #[.map (some (w5.heap.size+2))] 109)
 kn:KIn fieldM V (w5.heap.size+2) 0 (fun _=>none)
set_option maxHeartbeats 4000000 in
theorem pdisp_own:SaysDispO 17:=by
 intro W H g h s B w hok hin hB hrp hn3
 obtain ⟨w2,hw2,hB2,hz2,hg2,hs2⟩:=zbv w W H g h
 obtain ⟨w3,hw3⟩:∃ w3,w3=w2.alloc (shO ⟨0,none,0,0,none,0,0,none,0,0⟩):=⟨_,rfl⟩
 have hb3:Below w2.heap.size w2 w3:=by rw [hw3];exact (zX _ _).alloc (zL _) _
 have hz3:w3.heap.size=w.heap.size+3:=by rw [hw3];simp [hz2]
 have hq3:w3.heap[w.heap.size+2]?=some (shO ⟨0,none,0,0,none,0,0,none,0,0⟩):=by rw [hw3];exact zbk w2 _ hz2.symm
 have hx2:w2.heap[w.heap.size+1]?=some (shO h):=by rw [hw2];exact zbk _ _ (by simp)
 have hx3:=(hb3.block (w.heap.size+1) (by omega)).trans hx2
 have hB3:=hB2.trans (hb3.mono (by omega))
 have hrl:s.rs.length=h.n1:=hin.rs.1
 have htl:s.ts.length=h.n2:=hin.ts.1
 have hbl:s.bl.length=h.n3:=hin.bl.1
 have hrn:=hrp.rn
 have htn:=hrp.tn
 have HCO:=qz (copy_any h s B w3 (hin.below (hB3.mono hB)) (Nat.le_trans hB hB3.size) (by omega) (by omega) (by omega))
 have HG3:=qz (hg2.below hb3 (by omega))
 have HQ3:=qz hq3
 have HX3:=qz hx3
 have HB3:=qz hB3
 have HW3:Hid (w3=((w.alloc (zar W H g)).alloc (shO h)).alloc (shO ⟨0,none,0,0,none,0,0,none,0,0⟩)):=by unfold Hid;rw [hw3,hw2]
 have HOK:=qz hok
 have HRP:=qz hrp
 obtain ⟨s0,s1,s2,s3⟩:=zai hx3
 have HASS:=qz (assign_any W H g)
 obtain ⟨t,a1,n1,c1,a2,n2,c2,a3,n3,c3⟩:=h
 simp only [] at s0 s1 s2 s3 hn3 hbl
 rw [HW3.out] at s0 s1 s2 s3
 have hzz3:w.heap.size+3<=w3.heap.size:=by omega
 rw [hz3] at HCO
 clear hw2 hB2 hg2 hs2 hw3 hb3 hq3 hx2 hx3 hB3 hrp hok hin hz2 hrl htl
 go_enter Tryz.func17,Tryz.ntmps17
 go_wp2_with fail
 rw [<- HW3.out]
 refine HCO.out.mono ?_
 rintro e w4 ⟨h',rfl,hc4,hb4⟩
 rw [<- hz3] at hb4
 have hz4:w3.heap.size<=w4.heap.size:=hb4.size
 have hx4:=(hb4.block (w.heap.size+1) (by omega)).trans HX3.out
 obtain ⟨y0,y1,y2,y3⟩:=zai hx4
 have hf4:∀ i,w4.frozen? ⟨w.heap.size+1,i,none⟩=false:=fun i=>by
  unfold World.frozen?
  rw [hx4]
  simp
 have g0:=hf4 0
 have g1:=hf4 1
 have g2:=hf4 2
 have g3:=hf4 3
 have HM3:Hid (h'.n3<=100000):=by unfold Hid;rw [hc4.n3,hbl];exact hn3
 obtain ⟨w5,hw5⟩:∃ w5,w5=(((w4.setCell ⟨w.heap.size+1,0,none⟩ (.int .i64 h'.t)).setCell ⟨w.heap.size+1,1,none⟩ (.slice h'.a1 h'.n1 h'.c1)).setCell ⟨w.heap.size+1,2,none⟩ (.slice h'.a2 h'.n2 h'.c2)).setCell ⟨w.heap.size+1,3,none⟩ (.slice h'.a3 h'.n3 h'.c3):=⟨_,rfl⟩
 have hc5:Copy0 w5 (w.heap.size+3) h' s:=by rw [hw5];exact (copy_set4 hc4 (by omega) _ _ _ _).zero
 have hx5:w5.heap[w.heap.size+1]?=some (shO h'):=by rw [hw5];exact stAt_heap4 hx4
 have hz5:w5.heap.size=w4.heap.size:=by rw [hw5];simp [World.setCell]
 have hb5:Below (w.heap.size+1) w3 w5:=by rw [hw5];exact zah (hb4.mono (by omega)) (zL _) _ _ _ _
 have hq5:w5.heap[w.heap.size+2]?=some (shO ⟨0,none,0,0,none,0,0,none,0,0⟩):=by
  rw [hw5]
  exact (Below.heap_setCell _ ⟨w.heap.size+1,3,none⟩ _ _ (by show w.heap.size+2≠w.heap.size+1;omega)).trans ((Below.heap_setCell _ ⟨w.heap.size+1,2,none⟩ _ _ (by show w.heap.size+2≠w.heap.size+1;omega)).trans ((Below.heap_setCell _ ⟨w.heap.size+1,1,none⟩ _ _ (by show w.heap.size+2≠w.heap.size+1;omega)).trans ((Below.heap_setCell _ ⟨w.heap.size+1,0,none⟩ _ _ (by show w.heap.size+2≠w.heap.size+1;omega)).trans ((hb4.block (w.heap.size+2) (by omega)).trans HQ3.out))))
 have HC5:=qz hc5
 have HX5:=qz hx5
 have HQ5:=qz hq5
 have HB5:=qz (HB3.out.trans (hb5.mono (by omega)))
 have HG5:=qz (HG3.out.below hb5 (by omega))
 have HW5:=qz hw5
 have hs5:w.heap.size+3<=w5.heap.size:=by omega
 have HSH:Hid (∀ V,V=w5\/V=w5.drew->Calls Tryz.prog 39 #[zam W H g,shV h'] V fun e V'=>e=.returned (.func (.func 59) #[] #[.pointer (some ⟨w5.heap.size+3,0,none⟩),.pointer (some ⟨w5.heap.size,0,none⟩),.pointer (some ⟨w5.heap.size+1,0,none⟩)])/\ShA w5 V' W H g h'):=by
  rintro V (rfl|rfl)
  · exact (shared_any W H g h' V).mono fun e V' ⟨he,h1,h2,h3,h4,h5,h6⟩=>⟨he,h6,h5,h1,h2,h3,h4⟩
  · exact (shared_any W H g h' w5.drew).mono fun e V' ⟨he,h1,h2,h3,h4,h5,h6⟩=>⟨he,(Below.drew (zX _ _)).trans h6,h5,h1,h2,h3,h4⟩
 have HAS:Hid (∀ V,ShA w5 V W H g h'->Calls Tryz.prog 38 #[shV h',.func (.func 59) #[] #[.pointer (some ⟨w5.heap.size+3,0,none⟩),.pointer (some ⟨w5.heap.size,0,none⟩),.pointer (some ⟨w5.heap.size+1,0,none⟩)]] V fun e V' =>
  ∃ v,e=.returned v/\OwnPr V' (w5.heap.size+5) 108 v (dispN W H (zaa g) s s.ts.length).2/\Copy0 V' (w.heap.size+3) h' (dispN W H (zaa g) s s.ts.length).1/\Below (w.heap.size+3) w5 V'):=fun V hV =>
  (HASS.out h' s (w.heap.size+3) w5.heap.size w5 V HOK.out HRP.out HM3.out HC5.out (zL _) hs5 hV.kept hV.size hV.gr hV.st hV.mp hV.kn).mono fun e V' ⟨v,he,ho,hc,hb⟩=>⟨v,he,ho,hc,(hV.kept.mono hs5).trans hb⟩
 obtain ⟨x0,x1,x2,x3⟩:=zai hx5
 obtain ⟨p0,p1,p2⟩:=id HG5.out
 have HKS:Hid (∀ V,Below (w.heap.size+3) w5 V->(Below (w.heap.size+3) w5 V/\V.cell? ⟨w.heap.size,0,none⟩=some (.int .i64 W)/\V.cell? ⟨w.heap.size,1,none⟩=some (.int .i64 H)/\V.cell? ⟨w.heap.size,2,none⟩=some (.string g)/\V.cell? ⟨w.heap.size+1,0,none⟩=some (.int .i64 h'.t)/\V.cell? ⟨w.heap.size+1,1,none⟩=some (.slice h'.a1 h'.n1 h'.c1)/\V.cell? ⟨w.heap.size+1,2,none⟩=some (.slice h'.a2 h'.n2 h'.c2)/\V.cell? ⟨w.heap.size+1,3,none⟩=some (.slice h'.a3 h'.n3 h'.c3))):=fun V hV =>
  ⟨hV,(hV.cell (p:=⟨w.heap.size,0,none⟩) (show w.heap.size<w.heap.size+3 by omega)).trans p0,(hV.cell (p:=⟨w.heap.size,1,none⟩) (show w.heap.size<w.heap.size+3 by omega)).trans p1,(hV.cell (p:=⟨w.heap.size,2,none⟩) (show w.heap.size<w.heap.size+3 by omega)).trans p2,(hV.cell (p:=⟨w.heap.size+1,0,none⟩) (show w.heap.size+1<w.heap.size+3 by omega)).trans x0,(hV.cell (p:=⟨w.heap.size+1,1,none⟩) (show w.heap.size+1<w.heap.size+3 by omega)).trans x1,(hV.cell (p:=⟨w.heap.size+1,2,none⟩) (show w.heap.size+1<w.heap.size+3 by omega)).trans x2,(hV.cell (p:=⟨w.heap.size+1,3,none⟩) (show w.heap.size+1<w.heap.size+3 by omega)).trans x3⟩
 have HDG:Hid (dispG W H (zaa g) s=(chargeS (dispN W H (zaa g) s s.ts.length).1,(dispN W H (zaa g) s s.ts.length).2)):=rfl
 have HRL:Hid (∀ st ps,dispN W H (zaa g) s s.ts.length=(st,ps)->st.rs.length=s.rs.length):=fun st ps hd=>by
  have h2:=(dispN_is (W:=W) (H:=H) (l:=zaa g) HRP.out s.ts.length (zL _)).2.rl
  rw [hd] at h2
  exact h2
 generalize hD:dispN W H (zaa g) s s.ts.length=D at HDG HAS HRL
 obtain ⟨st,ps⟩:=D
 have HST:Hid (st.rs.length=s.rs.length):=HRL.out st ps rfl
 obtain ⟨t',a1',n1',c1',a2',n2',c2',a3',n3',c3'⟩:=h'
 simp only [] at y0 y1 y2 y3 x0 x1 x2 x3 HSH HAS HKS HDG hw5
 have k0:Below (w.heap.size+3) w5 w5:=zX _ _
 clear hz3 hz5 hc4 hb4 hx4 hc5 hx5 hq5 hb5 hD s0 s1 s2 s3 x0 x1 x2 x3 p0 p1 p2 hw5 hf4 HRL HASS
 go_wp2_with fail
 rw [<- HW5.out]
 clear y0 y1 y2 y3 g0 g1 g2 g3
 go_region_held3 (fun V=>Below (w.heap.size+3) w5 V/\V.cell? ⟨w.heap.size,0,none⟩=some (.int .i64 W)/\V.cell? ⟨w.heap.size,1,none⟩=some (.int .i64 H)/\V.cell? ⟨w.heap.size,2,none⟩=some (.string g)/\V.cell? ⟨w.heap.size+1,0,none⟩=some (.int .i64 t')/\V.cell? ⟨w.heap.size+1,1,none⟩=some (.slice a1' n1' c1')/\V.cell? ⟨w.heap.size+1,2,none⟩=some (.slice a2' n2' c2')/\V.cell? ⟨w.heap.size+1,3,none⟩=some (.slice a3' n3' c3'))
  (first|exact HKS.out _ (by assumption)|exact HKS.out _ (Below.drew (by assumption)))
  (first|(go_at_call 39;refine (HSH.out _ (by with_reducible first|exact Or.inr rfl|exact Or.inl rfl)).mono ?_;rintro e w6 ⟨rfl,hs6⟩;have k6:=hs6.kept.mono hs5)|(go_at_call 38;refine (HAS.out _ (by first|exact hs6|exact hs6.drew)).mono ?_;rintro e w7 ⟨v,rfl,ho7,hc7,k7⟩))
 clear k0 k6 hs6
 obtain ⟨ap,cp,rfl,_⟩:=OwnPr.row ho7
 have hz7:=k7.size
 have hx7:=(k7.block (w.heap.size+1) (by omega)).trans HX5.out
 have hq7:=(k7.block (w.heap.size+2) (by omega)).trans HQ5.out
 have HA1:Hid (∀ b,a1'=some ⟨b,0,none⟩/\0<st.rs.length->w.heap.size+3<=b/\b<w5.heap.size):=fun b ⟨hb,hn⟩ =>
  World.ownsRow.lt (HC5.out.rs.full (by rw [<- HST.out];exact hn)) b (by rw [hb];rfl)
 have HCH:=qz (charge_any ⟨t',a1',n1',c1',a2',n2',c2',a3',n3',c3'⟩ st (w.heap.size+3) w7 hc7 (by rw [HST.out];omega))
 have HO7:=qz ho7
 have HK7:=qz k7
 have HX7:=qz hx7
 have HQ7:=qz hq7
 obtain ⟨x0,x1,x2,x3⟩:=zai hx7
 simp only [] at x0 x1 x2 x3 HCH
 clear ho7 hc7 k7 hx7 hq7
 go_wp2_with fail
 refine HCH.out.mono ?_
 rintro e w8 ⟨rfl,hc8,hA8⟩
 have hno:∀ b,(b<w.heap.size+3\/w5.heap.size<=b)->¬ (a1'=some ⟨b,0,none⟩/\0<st.rs.length):=fun b hb h=>by have:=HA1.out b h;omega
 have hz8:=hA8.size
 have hx8:=(hA8.block (w.heap.size+1) (by omega) (hno _ (by omega))).trans HX7.out
 have hq8:=(hA8.block (w.heap.size+2) (by omega) (hno _ (by omega))).trans HQ7.out
 have ho8:OwnPr w8 (w5.heap.size+5) 108 (.slice ap ps.length cp) ps:=own_alt HO7.out hA8 (fun b hb=>hno b (by have:=(World.ownsRow.lt HO7.out b hb).1;omega))
 have hb8:Below (w.heap.size+3) w5 w8:=HK7.out.trans (hA8.below (fun b hb=>(HA1.out b hb).1) (by omega))
 obtain ⟨z0,z1,z2,z3⟩:=zai hx8
 obtain ⟨q0,q1,q2,q3⟩:=zai hq8
 have hfz:∀ i,w8.frozen? ⟨w.heap.size+2,i,none⟩=false:=fun i=>by
  unfold World.frozen?
  rw [hq8]
  simp
 have f0:=hfz 0
 have f1:=hfz 1
 have f2:=hfz 2
 have f3:=hfz 3
 simp only [] at z0 z1 z2 z3 q0 q1 q2 q3
 obtain ⟨r0,r1,r2,r3⟩:=zcg q0 q1 q2 q3 ⟨t',a1',n1',c1',a2',n2',c2',a3',n3',c3'⟩
 simp only [] at r0 r1 r2 r3
 have HSI:=qz (Copy0.lower (⟨hc8.tick,zap hc8.rs (show w.heap.size+2<w.heap.size+3 by omega) (.int .i64 t') (.slice a1' n1' c1') (.slice a2' n2' c2') (.slice a3' n3' c3'),zap hc8.ts (show w.heap.size+2<w.heap.size+3 by omega) (.int .i64 t') (.slice a1' n1' c1') (.slice a2' n2' c2') (.slice a3' n3' c3'),zbh hc8.bl (show w.heap.size+2<w.heap.size+3 by omega) (.int .i64 t') (.slice a1' n1' c1') (.slice a2' n2' c2') (.slice a3' n3' c3'),hc8.n1,hc8.n2,hc8.n3⟩:Copy0 _ (w.heap.size+3) ⟨t',a1',n1',c1',a2',n2',c2',a3',n3',c3'⟩ (chargeS st)) (show w.heap.size<=w.heap.size+3 by omega))
 have hro:OwnPr _ _ _ _ _:=zbc ho8 (show w.heap.size+2<w5.heap.size+5 by omega) (.int .i64 t') (.slice a1' n1' c1') (.slice a2' n2' c2') (.slice a3' n3' c3')
 obtain ⟨ax,cx,ex,hrow⟩:=hro.row
 injection ex with ex1 ex2 ex3
 subst ex1 ex3
 have HRO:=qz hrow
 have HBF:=qz (zah (HB5.out.trans (hb8.mono (by omega))) (show w.heap.size<=w.heap.size+2 by omega) (.int .i64 t') (.slice a1' n1' c1') (.slice a2' n2' c2') (.slice a3' n3' c3'))
 clear hrow hro ex2 hc8 ho8 hb8 hA8 hx8 hq8 hno hfz x0 x1 x2 x3
 go_wp2_with fail
 exact bodyPost_ret (v:=.tuple #[shV ⟨t',a1',n1',c1',a2',n2',c2',a3',n3',c3'⟩,.slice ap ps.length cp]) (by simp [results,Tryz.results17,go_sem,r0,r1,r2,r3]) rfl
  ⟨⟨t',a1',n1',c1',a2',n2',c2',a3',n3',c3'⟩,ap,_,cp,rfl,by rw [HDG.out];exact HSI.out,by rw [HDG.out];exact HRO.out,HBF.out⟩
end Go.Proofs.YtknnnbpgkfaapaaGreat.Vm
