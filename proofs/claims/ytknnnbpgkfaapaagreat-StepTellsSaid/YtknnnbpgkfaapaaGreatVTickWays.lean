import Derived.Test.YtknnnbpgkfaapaaGreatQ
import Derived.Test.YtknnnbpgkfaapaaGreatVTicks
import Derived.Test.YtknnnbpgkfaapaaGreatVPlanPlansC
import Derived.Test.YtknnnbpgkfaapaaGreatVIntRows
import Derived.Test.YtknnnbpgkfaapaaGreatVGateStops
import Derived.Test.YtknnnbpgkfaapaaGreatVLeadMath
import Derived.Test.YtknnnbpgkfaapaaGreatVBestTens
import Derived.BigRegion
import Derived.Deep.CutRange
set_option maxRecDepth 100000
set_option linter.unusedSimpArgs false
set_option linter.unusedVariables false
namespace Go.Proofs.YtknnnbpgkfaapaaGreat.Vm
open Go Go.RowKit
theorem way_first {W H:Int}{l:List Nat}{a t:Int}{m:Nat}(hm:m<5)(hn:∀ k:Nat,k<m->zak W H l a (k:Int)≠(t,true))(hy:zak W H l a (m:Int)=(t,true)):wayG W H l a t=(m:Int):=by
 unfold wayG
 match m,hm with
 | 0,_=>exact if_pos hy
 | 1,_=>rw [if_neg (show ¬ zak W H l a 0=(t,true) from hn 0 (by omega))];exact if_pos hy
 | 2,_=>rw [if_neg (show ¬ zak W H l a 0=(t,true) from hn 0 (by omega)),if_neg (show ¬ zak W H l a 1=(t,true) from hn 1 (by omega))];exact if_pos hy
 | 3,_=>rw [if_neg (show ¬ zak W H l a 0=(t,true) from hn 0 (by omega)),if_neg (show ¬ zak W H l a 1=(t,true) from hn 1 (by omega)),if_neg (show ¬ zak W H l a 2=(t,true) from hn 2 (by omega))];exact if_pos hy
 | 4,_=>rw [if_neg (show ¬ zak W H l a 0=(t,true) from hn 0 (by omega)),if_neg (show ¬ zak W H l a 1=(t,true) from hn 1 (by omega)),if_neg (show ¬ zak W H l a 2=(t,true) from hn 2 (by omega)),if_neg (show ¬ zak W H l a 3=(t,true) from hn 3 (by omega))];rfl
theorem way_some {W H:Int}{l:List Nat}{a t:Int}(hex:zak W H l a (wayG W H l a t)=(t,true))(hn:∀ k:Nat,k<5->zak W H l a (k:Int)≠(t,true)):False:=by
 have e:wayG W H l a t=4:=by
  unfold wayG
  rw [if_neg (show ¬ zak W H l a 0=(t,true) from hn 0 (by omega)),if_neg (show ¬ zak W H l a 1=(t,true) from hn 1 (by omega)),if_neg (show ¬ zak W H l a 2=(t,true) from hn 2 (by omega)),if_neg (show ¬ zak W H l a 3=(t,true) from hn 3 (by omega))]
 rw [e] at hex
 exact hn 4 (by omega) hex
theorem leastWay_any (W H a t:Int)(g:ByteArray)(w:World)(hok:Okay W H g)(hex:zak W H (zaa g) a (wayG W H (zaa g) a t)=(t,true)) :
 Calls Tryz.prog 43 #[zam W H g,.int .i64 a,.int .i64 t] w fun e w'=>e=.returned (.int .i64 (wayG W H (zaa g) a t))/\Below w.heap.size w w':=by
 obtain ⟨w1,hw1⟩:∃ w1,w1=w.alloc (zar W H g):=⟨_,rfl⟩
 have hb1:Below w.heap.size w w1:=by rw [hw1];exact (zX _ _).alloc (zL _) _
 have hz1:w1.heap.size=w.heap.size+1:=by rw [hw1];simp
 have g0:w1.cell? ⟨w.heap.size,0,none⟩=some (.int .i64 W):=by rw [hw1];simp
 have g1:w1.cell? ⟨w.heap.size,1,none⟩=some (.int .i64 H):=by rw [hw1];simp
 have g2:w1.cell? ⟨w.heap.size,2,none⟩=some (.string g):=by rw [hw1];simp
 have hlt1:w.heap.size<w1.heap.size:=by omega
 have HG:Hid (∀ V,Below w1.heap.size w1 V->V.cell? ⟨w.heap.size,0,none⟩=some (.int .i64 W)/\V.cell? ⟨w.heap.size,1,none⟩=some (.int .i64 H)/\V.cell? ⟨w.heap.size,2,none⟩=some (.string g)):=fun V hV =>
  ⟨(hV.cell (p:=⟨w.heap.size,0,none⟩) hlt1).trans g0,(hV.cell (p:=⟨w.heap.size,1,none⟩) hlt1).trans g1,(hV.cell (p:=⟨w.heap.size,2,none⟩) hlt1).trans g2⟩
 have HW1:=qz hw1
 have HB1:=qz hb1
 have HGO:=qz fun (m:Nat) V=>goes_any W H a (m:Int) g V hok
 have HX:=qz hex
 have HWF:=qz fun (m:Nat)=>way_first (W:=W) (H:=H) (l:=zaa g) (a:=a) (t:=t) (m:=m)
 have HWS:=qz fun h=>way_some (W:=W) (H:=H) (l:=zaa g) (a:=a) (t:=t) hex h
 generalize wayG W H (zaa g) a t=N at HWF HX ⊢
 clear hw1 hb1 hz1 g0 g1 g2 hex
 go_enter Tryz.func43,Tryz.ntmps43
 go_wp2_with fail
 rw [<- HW1.out]
 go_loopw [7] (fun v V=>∃ m:Nat,m<=5/\v=.int .i64 (m:Nat)/\Hid (∀ k:Nat,k<m->zak W H (zaa g) a (k:Int)≠(t,true))/\Hid (Below w1.heap.size w1 V)) (fun v _=>5-(intOf v).toNat)
 case atStart=>exact ⟨0,by omega,rfl,qz fun k hk=>absurd hk (Nat.not_lt_zero _),zX _ _⟩
 case round =>
  obtain ⟨m,hm,rfl,HN,HB⟩:=hrel
  by_cases hm5:m<5
  · have c1:decide ((m:Int)<=4)=true:=by rw [decide_eq_true_eq];omega
    have hmi:(m:Int)<=4:=by omega
    have ew:IntKind.i64.wrap ((m:Int)+1)=((m+1:Nat):Int):=by simp only [IntKind.wrap_i64];omega
    have HC:=qz (HGO.out m wr)
    obtain ⟨P,hP⟩:∃ P,zak W H (zaa g) a (m:Int)=P:=⟨_,rfl⟩
    rw [hP] at HC
    have HP:=qz hP
    obtain ⟨p1,p2⟩:=P
    obtain ⟨g0,g1,g2⟩:=HG.out wr HB.out
    clear hP
    go_wp2_with fail
    refine HC.out.mono ?_
    rintro e w2 ⟨rfl,hb2⟩
    have HB2:=qz (HB.out.trans (hb2.mono HB.out.size))
    clear hb2 g0 g1 g2
    cases p2 with
    | false =>
      have HN2:Hid (∀ k:Nat,k<m+1->zak W H (zaa g) a (k:Int)≠(t,true)):=fun k hk=>by
       by_cases e:k=m
       · subst e;rw [HP.out];intro q;injection q with _ q;cases q
       · exact HN.out k (by omega)
      go_wp2_with fail
      go_roundw
      case rel=>exact ⟨m+1,by omega,by go_num,HN2,HB2.out⟩
      case measure=>simp [intOf];omega
    | true =>
      by_cases hpt:p1=t
      · have e2:(p1==t)=true:=by simpa using hpt
        have HE:Hid (N=(m:Int)):=HWF.out m hm5 HN.out (by rw [HP.out,hpt])
        clear hpt
        go_wp2_with fail
        go_ret
        exact ⟨by rw [HE.out];rfl,HB1.out.trans (HB2.out.mono (by omega))⟩
      · have e2:(p1==t)=false:=by simpa using hpt
        have HN2:Hid (∀ k:Nat,k<m+1->zak W H (zaa g) a (k:Int)≠(t,true)):=fun k hk=>by
         by_cases e:k=m
         · subst e;rw [HP.out];intro q;injection q with q _;exact hpt q
         · exact HN.out k (by omega)
        clear hpt
        go_wp2_with fail
        go_roundw
        case rel=>exact ⟨m+1,by omega,by go_num,HN2,HB2.out⟩
        case measure=>simp [intOf];omega
  · obtain rfl:m=5:=by omega
    exact (HWS.out fun k hk=>HN.out k hk).elim
theorem tickWays_any (W H:Int)(g:ByteArray)(h:Sh)(s:St)(tb B nt ct:Nat)(ta:Option Addr)(tz:List Int)(w:World)(hok:Okay W H g)(T:TickIn w tb B W H g h s)(hn:h.n1<=1024)(hr:RowZ .i64 w w.heap.size ta nt ct tz)(hl:tz.length=s.rs.length)
 (hex:∀ i,i<s.rs.length->zak W H (zaa g) (s.rs.getD i zr).a (wayG W H (zaa g) (s.rs.getD i zr).a (tz.getD i 0))=(tz.getD i 0,true)) :
 Calls Tryz.prog 19 #[.pointer (some ⟨tb,0,none⟩),.slice ta nt ct] w fun e w'=>∃ (lb:Nat) (L:List Int),e=.returned (.slice (some ⟨lb,0,none⟩) h.n1 h.n1)/\NumsZ w' w.heap.size lb L/\L.length=h.n1/\(∀ i,i<s.rs.length->L.getD i 0=wayG W H (zaa g) (s.rs.getD i zr).a (tz.getD i 0))/\Below w.heap.size w w':=by
 obtain ⟨t0,t1,t2,t3,t4,t5,t6⟩:=zbz T.box
 have htb:=T.lt
 have hn1:=T.cp.n1
 have hnt:nt=h.n1:=by rw [hn1,<- hl,hr.1]
 subst hnt
 have HT:=qz T
 have HR:=qz hr
 have HEX:=qz hex
 have HLW:=qz fun (i:Nat) (hi:i<s.rs.length) V=>leastWay_any W H (s.rs.getD i zr).a (tz.getD i 0) g V hok (hex i hi)
 have hm2:=hr.2.1
 have hm3:=hr.2.2.1
 unfold maxLen at hm3
 have hs1:=T.cp.stIn.rs.2.1
 have hs2:=T.cp.stIn.rs.2.2.1
 unfold maxLen at hs2
 obtain ⟨t',a1,n1,c1,a2,n2,c2,a3,n3,c3⟩:=h
 simp only [] at t0 t1 t2 t3 hn hm2 hm3 hs1 hs2 hn1
 have hmk:=make_ints w n1 (by omega)
 obtain ⟨w4,hw4⟩:∃ w4,w4=w.alloc (.cells ⟨zan (List.replicate n1 0)⟩ 3):=⟨_,rfl⟩
 have HM4:Hid (NumsZ w4 w.heap.size w.heap.size (List.replicate n1 0)):=by unfold Hid;rw [hw4];exact numsZ_made w n1 (by omega)
 have HB4:Hid (Below w.heap.size w w4):=by unfold Hid;rw [hw4];exact (zX _ _).alloc (zL _) _
 have HW4:=qz hw4
 have HTC:Hid (∀ V,Below w.heap.size w V->V.cell? ⟨tb,1,none⟩=some (.slice a1 n1 c1)/\V.cell? ⟨tb,4,none⟩=some (.int .i64 W)/\V.cell? ⟨tb,5,none⟩=some (.int .i64 H)/\V.cell? ⟨tb,6,none⟩=some (.string g)):=fun V hV =>
  ⟨(hV.cell (p:=⟨tb,1,none⟩) htb).trans t1,(hV.cell (p:=⟨tb,4,none⟩) htb).trans t4,(hV.cell (p:=⟨tb,5,none⟩) htb).trans t5,(hV.cell (p:=⟨tb,6,none⟩) htb).trans t6⟩
 obtain ⟨y1,y4,y5,y6⟩:=HTC.out w4 HB4.out
 rw [hw4] at y1 y4 y5 y6
 have HN1:=qz hn1
 clear hw4 T hr hok hex hl hn1
 go_enter Tryz.func19,Tryz.ntmps19
 go_wp2_with fail
 rw [<- HW4.out]
 clear hmk t0 t1 t2 t3 t4 t5 t6 y1 y4 y5 y6
 go_loopw [20] (fun i wr=>∃ (k:Nat) (L:List Int),k<=n1/\i=.int .i64 k/\Hid (NumsZ wr w.heap.size w.heap.size L)/\Hid (L.length=n1)/\Hid (∀ j,j<k->L.getD j 0=wayG W H (zaa g) (s.rs.getD j zr).a (tz.getD j 0))/\Hid (Below w.heap.size w wr)) (fun i _=>n1-(intOf i).toNat)
 case atStart=>exact ⟨0,_,Nat.zero_le _,rfl,HM4,qz (by simp),qz (fun j hj=>absurd hj (Nat.not_lt_zero _)),HB4⟩
 case round =>
  obtain ⟨k,L,hk,rfl,HM,HLL,HL,HB⟩:=hrel
  have hsz:=HB.out.size
  by_cases hlt:k<n1
  · have hkn:(k:Int)<(n1:Int):=by omega
    have hks:k<s.rs.length:=by rw [<- HN1.out];exact hlt
    obtain ⟨lb,ha,hlb,hne,_,hrc,_⟩:=HT.out.rob hks
    simp only [] at ha
    subst ha
    obtain ⟨qb,qo,rfl,hqb,hqc⟩:=HR.out.cells (by omega)
    have hq0:=hqc k (by omega)
    have r0:=hrc.1
    have HCA:Hid (∀ V,Below w.heap.size w V->(Below w.heap.size w V/\(V.cell? ⟨tb,1,none⟩=some (.slice (some ⟨lb,0,none⟩) n1 c1)/\V.cell? ⟨tb,4,none⟩=some (.int .i64 W)/\V.cell? ⟨tb,5,none⟩=some (.int .i64 H)/\V.cell? ⟨tb,6,none⟩=some (.string g))/\V.cell? ⟨lb,k*5,none⟩=some (.int .i64 (s.rs.getD k zr).a)/\V.cell? ⟨qb,qo+k,none⟩=some (.int .i64 (tz.getD k 0)))):=fun V hV=>by
     have hb:=hV
     exact ⟨hV,HTC.out V hb,(hb.cell (p:=⟨lb,k*5,none⟩) hlb).trans r0,(hb.cell (p:=⟨qb,qo+k,none⟩) (by show qb<_;omega)).trans hq0⟩
    have HLC:=qz (HLW.out k hks)
    obtain ⟨N,hN⟩:∃ N,wayG W H (zaa g) (s.rs.getD k zr).a (tz.getD k 0)=N:=⟨_,rfl⟩
    rw [hN] at HLC
    have HLN:Hid (∀ j,j<k+1->(L.set k N).getD j 0=wayG W H (zaa g) (s.rs.getD j zr).a (tz.getD j 0)):=fun j hj=>by
     rw [getD_setZ (by rw [HLL.out];exact hlt)]
     by_cases e:j=k
     · rw [if_pos e,e,hN]
     · rw [if_neg e]
       exact HL.out j (by omega)
    have HL2:Hid ((L.set k N).length=n1):=by unfold Hid;rw [List.length_set];exact HLL.out
    generalize (s.rs.getD k zr).a=ra at HCA HLC r0 hN
    generalize tz.getD k 0=tj at HCA HLC hq0 hN
    have HFC:Hid (∀ V,Kept wr V->Calls Tryz.prog 43 #[zam W H g,.int .i64 ra,.int .i64 tj] V fun e V'=>e=.returned (.int .i64 N)/\Kept wr V'/\V'.cell? ⟨w.heap.size,k,none⟩=some (.int .i64 (L.getD k 0))/\V'.frozen? ⟨w.heap.size,k,none⟩=false):=fun V hV=>(HLC.out V).mono fun e V' ⟨he,hb⟩=>by
     have hk':Kept wr V':=Below.trans hV (hb.mono (Below.size hV))
     have hlw:=HM.out.base.2
     exact ⟨he,hk',(Below.cell (p:=⟨w.heap.size,k,none⟩) hk' hlw).trans (HM.out.cell (by rw [HLL.out];exact hlt)),(Below.frozen (p:=⟨w.heap.size,k,none⟩) hk' hlw).trans (HM.out.frozen k)⟩
    have HFIN:Hid (∀ V,Kept wr V->NumsZ (V.setCell ⟨w.heap.size,k,none⟩ (.int .i64 N)) w.heap.size w.heap.size (L.set k N)/\Below w.heap.size w (V.setCell ⟨w.heap.size,k,none⟩ (.int .i64 N))):=fun V hV =>
     ⟨(HM.out.calls hV).set k N,(HB.out.trans (Below.mono hV hsz)).setCell (p:=⟨w.heap.size,k,none⟩) (zL _) _⟩
    generalize L.getD k 0=old at HFC
    have kk:Kept wr wr:=Kept.refl _
    have kw:Below w.heap.size w wr:=HB.out
    obtain ⟨_,⟨x1,x4,x5,x6⟩,x7,x8⟩:=HCA.out wr kw
    clear r0 hrc hq0 hqc hN HL
    go_upto_region 5 with fail
    go_region_held3 (fun V=>Below w.heap.size w V/\(V.cell? ⟨tb,1,none⟩=some (.slice (some ⟨lb,0,none⟩) n1 c1)/\V.cell? ⟨tb,4,none⟩=some (.int .i64 W)/\V.cell? ⟨tb,5,none⟩=some (.int .i64 H)/\V.cell? ⟨tb,6,none⟩=some (.string g))/\V.cell? ⟨lb,k*5,none⟩=some (.int .i64 ra)/\V.cell? ⟨qb,qo+k,none⟩=some (.int .i64 tj))
     (first|exact HCA.out _ (by assumption)|exact HCA.out _ (Below.drew (by assumption)))
     (first|(go_at_call 43;refine (HFC.out _ (by first|exact kk|exact Kept.drew kk)).mono ?_;rintro e wb ⟨rfl,kb,z1,z2⟩;have kb1:Below w.heap.size w wb:=Below.trans kw (Below.mono kb hsz);have kb2:=Below.setCell (p:=⟨w.heap.size,k,none⟩) kb1 (zL _) (.int .i64 N)))
    have HF:=qz (HFIN.out _ kb)
    clear x1 x4 x5 x6 x7 x8 z1 z2 kb kb1 kb2 kk kw
    go_wp2_with fail
    go_roundw
    case rel=>exact ⟨k+1,_,by omega,by go_num,HF.out.1,HL2.out,HLN.out,HF.out.2⟩
    case measure=>simp [intOf];omega
  · obtain rfl:k=n1:=by omega
    have hme:=HM.out
    have HBE:=qz HB.out
    go_wp2_with fail
    go_ret
    exact ⟨_,L,rfl,HM.out,HLL.out,fun j hj=>HL.out j (by rw [HN1.out];exact hj),HBE.out⟩
theorem targets_any (W H:Int)(g:ByteArray)(h:Sh)(s:St)(tb B:Nat)(w:World)(hok:Okay W H g)(T:TickIn w tb B W H g h s)(hrp:RightP (zac (zaa g)) s)(hn3:h.n3<=1000) :
 Calls Tryz.prog 18 #[.pointer (some ⟨tb,0,none⟩)] w fun e w'=>∃ a c,e=.returned (.slice a h.n1 c)/\OwnZ w' w.heap.size (.slice a h.n1 c) (toG W H (zaa g) s)/\Below w.heap.size w w':=by
 obtain ⟨t0,t1,t2,t3,t4,t5,t6⟩:=zbz T.box
 have htb:=T.lt
 have hn1:=T.cp.n1
 have HT:=qz T
 have hle:(zaa g).length<=65536:=by rw [zag];exact hok.le
 have HPL:=qz fun V (hV:Below w.heap.size w V)=>planPlans_any W H g h s V.heap.size V hok (T.cp.calls hV).stIn (zL _) hrp hn3
 have hrn:h.n1<=1024:=by rw [hn1];exact hrp.rn
 have hs1:=T.cp.stIn.rs.2.1
 have hs2:=T.cp.stIn.rs.2.2.1
 unfold maxLen at hs2
 have HN1:=qz hn1
 have HR:=qz hrp
 obtain ⟨t',a1,n1,c1,a2,n2,c2,a3,n3,c3⟩:=h
 simp only [] at t0 t1 t2 t3 hrn hs1 hs2 hn3 HPL
 have HKS:Hid (∀ V,Kept w V->(Kept w V/\(V.cell? ⟨tb,0,none⟩=some (.int .i64 t')/\V.cell? ⟨tb,1,none⟩=some (.slice a1 n1 c1)/\V.cell? ⟨tb,2,none⟩=some (.slice a2 n2 c2)/\V.cell? ⟨tb,3,none⟩=some (.slice a3 n3 c3)/\V.cell? ⟨tb,4,none⟩=some (.int .i64 W)/\V.cell? ⟨tb,5,none⟩=some (.int .i64 H)/\V.cell? ⟨tb,6,none⟩=some (.string g)))):=fun V hV =>
  ⟨hV,(Below.cell (p:=⟨tb,0,none⟩) hV htb).trans t0,(Below.cell (p:=⟨tb,1,none⟩) hV htb).trans t1,(Below.cell (p:=⟨tb,2,none⟩) hV htb).trans t2,(Below.cell (p:=⟨tb,3,none⟩) hV htb).trans t3,(Below.cell (p:=⟨tb,4,none⟩) hV htb).trans t4,(Below.cell (p:=⟨tb,5,none⟩) hV htb).trans t5,(Below.cell (p:=⟨tb,6,none⟩) hV htb).trans t6⟩
 have kk:Kept w w:=Kept.refl _
 clear T hrp hn1 hok
 go_enter Tryz.func18,Tryz.ntmps18
 go_wp2_with fail
 go_region_held3 (fun V=>Kept w V/\(V.cell? ⟨tb,0,none⟩=some (.int .i64 t')/\V.cell? ⟨tb,1,none⟩=some (.slice a1 n1 c1)/\V.cell? ⟨tb,2,none⟩=some (.slice a2 n2 c2)/\V.cell? ⟨tb,3,none⟩=some (.slice a3 n3 c3)/\V.cell? ⟨tb,4,none⟩=some (.int .i64 W)/\V.cell? ⟨tb,5,none⟩=some (.int .i64 H)/\V.cell? ⟨tb,6,none⟩=some (.string g)))
  (first|exact HKS.out _ (by assumption)|exact HKS.out _ (Kept.drew (by assumption)))
  (first|(go_at_call 41;refine (HPL.out _ (by first|exact kk|exact Kept.drew kk)).mono ?_;rintro e w1 ⟨pa,pc,rfl,hpl,hb1⟩;have k1:Kept w w1:=Below.trans (by first|exact kk|exact Kept.drew kk) (Below.mono hb1 (by first|exact zL _|exact Below.size kk))))
 clear t0 t1 t2 t3 t4 t5 t6 kk
 have hk1:Below w.heap.size w w1:=k1
 have hz1:=hk1.size
 obtain ⟨_,t0,t1,t2,t3,t4,t5,t6⟩:=HKS.out w1 k1
 have hmk:=fun (V:World)=>make_ints V n1 (by omega)
 obtain ⟨O,hO⟩:∃ O:Obj,O=.cells ⟨zan (List.replicate n1 0)⟩ 3:=⟨_,rfl⟩
 rw [<- hO] at hmk
 have HO:=qz hO
 have hta:tb<w1.heap.size:=by omega
 have y1:(w1.alloc O).cell? ⟨tb,1,none⟩=some (.slice a1 n1 c1):=(((zX w1.heap.size w1).alloc (zL _) O).cell (p:=⟨tb,1,none⟩) hta).trans t1
 have H1:Hid (NumsZ ((w1.alloc O).alloc O) w1.heap.size w1.heap.size (List.replicate n1 0)/\NumsZ ((w1.alloc O).alloc O) w1.heap.size (w1.heap.size+1) (List.replicate n1 0)):=by
  unfold Hid
  rw [HO.out]
  refine ⟨(numsZ_made w1 n1 (by omega)).alloc _,?_⟩
  have q:=numsZ_made (w1.alloc (.cells ⟨zan (List.replicate n1 0)⟩ 3)) n1 (by omega)
  rw [show (w1.alloc (.cells ⟨zan (List.replicate n1 0)⟩ 3)).heap.size=w1.heap.size+1 by simp] at q
  exact q.mono (by omega)
 have H2:Hid (Below w1.heap.size w1 ((w1.alloc O).alloc O)):=((zX _ _).alloc (zL _) _).alloc (by simp) _
 clear hO
 go_upto_region 2 with fail
 go_cut [4,5] from 18 to 31 (fun v4 v5 V=>∃ cb wb,v4=.slice (some ⟨cb,0,none⟩) n1 n1/\v5=.slice (some ⟨wb,0,none⟩) n1 n1/\cb≠wb/\Hid (NumsZ V w1.heap.size cb (List.replicate n1 0))/\Hid (NumsZ V w1.heap.size wb (List.replicate n1 0))/\Hid (Below w1.heap.size w1 V))
 case first =>
  go_region
  · go_wp2_with fail
    go_meet
    case rel=>exact ⟨w1.heap.size,w1.heap.size+1,rfl,rfl,by omega,World.ownsRow.drew H1.out.1,World.ownsRow.drew H1.out.2,Below.drew H2.out⟩
  · go_wp2_with fail
    go_meet
    case rel=>exact ⟨w1.heap.size+1,w1.heap.size,rfl,rfl,by omega,World.ownsRow.drew H1.out.2,World.ownsRow.drew H1.out.1,Below.drew H2.out⟩
 case rest =>
 obtain ⟨cb,wb,rfl,rfl,hcw,HC0,HW0,HB0⟩:=hcut
 clear H1 H2 HO y1 hmk t0 t1 t2 t3 t4 t5 t6
 have HTC:Hid (∀ V,Below w1.heap.size w1 V->V.cell? ⟨tb,1,none⟩=some (.slice a1 n1 c1)/\V.cell? ⟨tb,3,none⟩=some (.slice a3 n3 c3)):=fun V hV=>by
  have hb:Below w.heap.size w V:=hk1.trans (hV.mono hz1)
  obtain ⟨_,q1,_,q3,_⟩:=zbz (HT.out.calls hb).box
  exact ⟨q1,q3⟩
 have HPL1:=qz hpl
 have HK1:=qz hk1
 clear hpl hb1 k1 hk1 HKS HPL
 obtain ⟨t1,t3⟩:=HTC.out wc HB0.out
 go_wp2_with fail
 go_loopw [38] (fun i wr=>∃ (k:Nat) (L1 L2:List Int),k<=n1/\i=.int .i64 k/\Hid (NumsZ wr w1.heap.size cb L1)/\Hid (NumsZ wr w1.heap.size wb L2)/\Hid (L1.length=n1)/\Hid (L2.length=n1)/\Hid (∀ j,j<k->L1.getD j 0=(s.rs.getD j zr).a)/\Hid (∀ j,j<k->L2.getD j 0=(planG W H (zaa g) s n1 j).getD 1 0)/\Hid (Below w1.heap.size w1 wr)) (fun i _=>n1-(intOf i).toNat)
 case atStart=>exact ⟨0,_,_,Nat.zero_le _,rfl,HC0,HW0,qz (by simp),qz (by simp),qz (fun j hj=>absurd hj (Nat.not_lt_zero _)),qz (fun j hj=>absurd hj (Nat.not_lt_zero _)),HB0⟩
 case round =>
  obtain ⟨k,L1,L2,hk,rfl,HM1,HM2,HL1,HL2,HG1,HG2,HB⟩:=hrel
  have hsz:=HB.out.size
  obtain ⟨t1,t3⟩:=HTC.out wr HB.out
  by_cases hlt:k<n1
  · have hkn:(k:Int)<(n1:Int):=by omega
    have hks:k<s.rs.length:=by rw [<- HN1.out];exact hlt
    obtain ⟨lb,ha,hlb,hne,_,hrc,_⟩:=HT.out.rob hks
    simp only [] at ha
    subst ha
    have r0:=((HB.out.cell (p:=⟨lb,k*5,none⟩) (by show lb<_;omega)).trans (HK1.out.cell (p:=⟨lb,k*5,none⟩) hlb)).trans hrc.1
    obtain ⟨pb,po,rfl,hpb,hpc⟩:=HPL1.out.cells (by omega)
    obtain ⟨qa,qn,qc,p0,hq⟩:=hpc k hlt
    rw [plansG_at hlt] at hq
    have hqn:qn=7:=by rw [<- hq.1];exact planG_len _ _
    subst hqn
    obtain ⟨qb,qo,rfl,hqb,hqc⟩:=hq.cells (by omega)
    have p1:=hqc 1 (by omega)
    have p0':=(HB.out.cell (p:=⟨pb,po+k,none⟩) hpb).trans p0
    have p1':=(HB.out.cell (p:=⟨qb,qo+1,none⟩) hqb).trans p1
    have hq7:=hq.2.1
    have hpm:=HPL1.out.2.1
    have hcb:=HM1.out.base
    have hwb:=HM2.out.base
    obtain ⟨y,hy⟩:∃ y,(planG W H (zaa g) s n1 k).getD 1 0=y:=⟨_,rfl⟩
    rw [hy] at p1'
    obtain ⟨x,hx⟩:∃ x,(s.rs.getD k zr).a=x:=⟨_,rfl⟩
    rw [hx] at r0
    have z1:=HM1.out.cell (i:=k) (by rw [HL1.out];exact hlt)
    have z2:=HM2.out.cell (i:=k) (by rw [HL2.out];exact hlt)
    have f1:=HM1.out.frozen k
    have f2:=HM2.out.frozen k
    have HM1':=qz (World.ownsRow.kept (HM1.out.set k x) (zaj _ wb k (.int .i64 y)) (.inr (fun e=>hcw (by injection e))))
    have HM2':Hid (NumsZ ((wr.setCell ⟨cb,k,none⟩ (.int .i64 x)).setCell ⟨wb,k,none⟩ (.int .i64 y)) w1.heap.size wb (L2.set k y)):=NumsZ.set (World.ownsRow.kept HM2.out (zaj _ cb k (.int .i64 x)) (.inr (fun e=>hcw (by injection e with e;exact e.symm)))) k y
    have HG1':Hid (∀ j,j<k+1->(L1.set k x).getD j 0=(s.rs.getD j zr).a):=fun j hj=>by
     rw [getD_setZ (by rw [HL1.out];exact hlt)]
     by_cases e:j=k
     · rw [if_pos e,e,hx]
     · rw [if_neg e];exact HG1.out j (by omega)
    have HG2':Hid (∀ j,j<k+1->(L2.set k y).getD j 0=(planG W H (zaa g) s n1 j).getD 1 0):=fun j hj=>by
     rw [getD_setZ (by rw [HL2.out];exact hlt)]
     by_cases e:j=k
     · rw [if_pos e,e,hy]
     · rw [if_neg e];exact HG2.out j (by omega)
    have HL1':Hid ((L1.set k x).length=n1):=by unfold Hid;rw [List.length_set];exact HL1.out
    have HL2':Hid ((L2.set k y).length=n1):=by unfold Hid;rw [List.length_set];exact HL2.out
    have HB':=qz ((HB.out.setCell (p:=⟨cb,k,none⟩) hcb.1 (.int .i64 x)).setCell (p:=⟨wb,k,none⟩) hwb.1 (.int .i64 y))
    generalize L1.getD k 0=o1 at z1
    generalize L2.getD k 0=o2 at z2
    have hlb1:lb≠cb:=by omega
    have hlb2:lb≠wb:=by omega
    have hpb1:pb≠cb:=by have:=hcb.1;omega
    have hpb2:pb≠wb:=by have:=hwb.1;omega
    have hqb1:qb≠cb:=by have:=hcb.1;omega
    have hqb2:qb≠wb:=by have:=hwb.1;omega
    have htb1:tb≠cb:=by have:=hcb.1;omega
    have htb2:tb≠wb:=by have:=hwb.1;omega
    have hwc2:wb≠cb:=fun e=>hcw e.symm
    clear p0 p1 hq hqc hpc hrc hx hy HG1 HG2 HM1 HM2 HL1 HL2
    go_upto_region 6 with fail
    go_region
    go_wp2_with fail
    go_roundw
    case rel=>exact ⟨k+1,_,_,by omega,by go_num,World.ownsRow.drew HM1'.out,World.ownsRow.drew HM2'.out,HL1',HL2',HG1',HG2',Below.drew HB'.out⟩
    case measure=>simp [intOf];omega
  · obtain rfl:k=n1:=by omega
    have hrn1:s.rs.length=k:=HN1.out.symm
    have e1:L1=zbw s:=by
     apply List.ext_getElem
     · rw [HL1.out,zbi,hrn1]
     · intro i h1 h2
       have q:=HG1.out i (by rw [<- HL1.out];exact h1)
       have q2:=cellsG_at (a:=s) (i:=i) (by rw [hrn1,<- HL1.out];exact h1)
       unfold cellR at q2
       rw [<- q2] at q
       simpa [List.getD,h1,h2] using q
    have e2:L2=zbs W H (zaa g) s:=by
     apply List.ext_getElem
     · rw [HL2.out,wantsG_len,hrn1]
     · intro i h1 h2
       have q:=HG2.out i (by rw [<- HL2.out];exact h1)
       have q2:(zbs W H (zaa g) s).getD i 0=(planG W H (zaa g) s k i).getD 1 0:=by
        have hi:i<s.rs.length:=by rw [hrn1,<- HL2.out];exact h1
        simp [zbs,List.getD,hi,<- hrn1]
       rw [<- q2] at q
       simpa [List.getD,h1,h2] using q
    subst e1 e2
    have hfl:=fun i (hi:i<s.rs.length)=>(wants_way (W:=W) (H:=H) HR.out hi).1
    have hgm:g.size<=maxLen:=by unfold maxLen;rw [zag] at hle;omega
    have wf1:WfZ (zbw s):=fun z hz=>by
     obtain ⟨i,hi,rfl⟩:=List.mem_map.1 hz
     exact floor_wf hgm (HR.out.rest i (List.mem_range.1 hi)).1
    have wf2:WfZ (zbs W H (zaa g) s):=fun z hz=>by
     obtain ⟨i,hi,rfl⟩:=List.mem_map.1 hz
     have hi2:=List.mem_range.1 hi
     obtain ⟨m,hm,hgo⟩:=hfl i hi2
     have q:(zbs W H (zaa g) s).getD i 0=(planG W H (zaa g) s s.rs.length i).getD 1 0:=by simp [zbs,List.getD,hi2]
     rw [q] at hgo
     exact floor_wf hgm (way_floor hgo)
    have wf3:WfZ s.bl:=right_bl HR.out hle
    have hm1:=HM1.out.row
    have hm2:=HM2.out.row
    rw [HL1.out] at hm1
    rw [HL2.out] at hm2
    have hst:=(HT.out.calls (HK1.out.trans (HB.out.mono hz1))).cp.stIn.bl
    have HGT:=qz (gate_own _ _ _ _ _ _ _ _ _ _ _ _ _ wr hm1 hm2 hst (zL _) (by omega) (by omega) (by show n3<=100000;omega) wf1 wf2 wf3)
    have HBE:=qz (HK1.out.trans (HB.out.mono hz1))
    clear hm1 hm2 hst wf1 wf2 wf3 hfl HG1 HG2
    go_wp2_with fail
    refine HGT.out.mono ?_
    rintro e w9 ⟨a,n,c,x,out,rfl,hgo,hro,hol,hb9⟩
    rcases hgo with ⟨h1,_⟩|⟨_,h1,_⟩|⟨_,_,rfl,rfl⟩
    · exact absurd (by rw [zbi,wantsG_len]) h1
    · exact absurd h1 (cellsG_once HR.out)
    have hl:n=k:=by rw [<- hol];show (toG W H (zaa g) s).length=k;rw [toG_len,hrn1]
    subst hl
    have HRO:=qz (hro.lower (show w.heap.size<=wr.heap.size by omega))
    have HB9:=qz (HBE.out.trans (hb9.mono HBE.out.size))
    clear hro hb9
    go_wp2_with fail
    go_ret
    exact ⟨a,c,rfl,HRO.out,HB9.out⟩
end Go.Proofs.YtknnnbpgkfaapaaGreat.Vm
