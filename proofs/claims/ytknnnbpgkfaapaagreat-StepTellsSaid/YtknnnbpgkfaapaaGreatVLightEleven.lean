import Derived.Test.YtknnnbpgkfaapaaGreatQ
import Derived.Test.YtknnnbpgkfaapaaGreatVRefFinds
import Derived.Test.YtknnnbpgkfaapaaGreatVRights
import Derived.Test.YtknnnbpgkfaapaaGreatVOpenInputs
import Derived.Deep.CutRange
import Derived.Deep.CutBlock
set_option maxRecDepth 100000
set_option linter.unusedSimpArgs false
set_option linter.unusedVariables false
namespace Go.Proofs.YtknnnbpgkfaapaaGreat.Vm
open Go Go.RowKit
structure L11 (W H:Int)(g:ByteArray)(h:Sh)(s:St)(ls:List (List Inp)):Prop where
 gz:g.size<=60
 n1:h.n1<=5
 n2:h.n2<=12
 n3:h.n3<=20
 ns:ls.length<=30
 ls:∀ i,i<ls.length->i<40->(ls.getD i []).length<=20
 gr:rightS W H (zaa g)=true
 sr:RightP (zac (zaa g)) s
 tick:s.tick<2147383647
noncomputable def light11 (W H:Int)(g:ByteArray)(h:Sh)(s:St)(ls:List (List Inp)):Bool:=@decide (L11 W H g h s ls) (Classical.propDecidable _)
theorem light11_yes {W H:Int}{g:ByteArray}{h:Sh}{s:St}{ls:List (List Inp)}:L11 W H g h s ls->light11 W H g h s ls=true:=fun q=>@decide_eq_true _ (Classical.propDecidable _) q
theorem light11_no {W H:Int}{g:ByteArray}{h:Sh}{s:St}{ls:List (List Inp)}:¬ L11 W H g h s ls->light11 W H g h s ls=false:=fun q=>@decide_eq_false _ (Classical.propDecidable _) q
theorem light11_in {W H:Int}{g:ByteArray}{h:Sh}{s:St}{ls:List (List Inp)}(q:light11 W H g h s ls=true):L11 W H g h s ls:=@of_decide_eq_true _ (Classical.propDecidable _) q
set_option maxHeartbeats 2000000 in
theorem light11_any (W H:Int)(g:ByteArray)(h:Sh)(s:St)(a:Option Addr)(n c:Nat)(ls:List (List Inp))(w:World)(hg:g.size<=maxLen)(hin:StIn w w.heap.size h s)(hl:RowLI w w.heap.size a n c ls) :
 Calls Tryz.prog 5 #[zam W H g,shV h,.slice a n c] w fun e w'=>e=.returned (.bool (light11 W H g h s ls))/\Below w.heap.size w w':=by
 obtain ⟨w2,hw2,hB2,hz2,hg2,hs2⟩:=zbv w W H g h
 have HRI:=qz fun V=>rright_any W H g V hg
 have HIN:=qz (hin.below hB2)
 have HRR:=qz fun (V:World) (hV:Below w2.heap.size w2 V)=>rstRight_any W H g h s w.heap.size V hg (HIN.out.below (hV.mono hB2.size)) (by have:=hV.size;have:=hB2.size;omega)
 have HB2:=qz hB2
 have HG2:=qz hg2
 have HS2:=qz hs2
 have HW:=qz hw2
 have HL:=qz hl
 have HLL:Hid (ls.length=n):=hl.1
 have HT:Hid (h.t=s.tick):=hin.tick
 have HRY:Hid (rightB (zac (zaa g)) s=true ↔ RightP (zac (zaa g)) s):=yes_iff
 have HY:=qz (light11_yes (W:=W) (H:=H) (g:=g) (h:=h) (s:=s) (ls:=ls))
 have HN:=qz (light11_no (W:=W) (H:=H) (g:=g) (h:=h) (s:=s) (ls:=ls))
 generalize light11 W H g h s ls=X at HY HN ⊢
 obtain ⟨R,hR⟩:∃ R,rightS W H (zaa g)=R:=⟨_,rfl⟩
 rw [hR] at HRI
 have HRS:=qz hR
 clear hR
 generalize rightB (zac (zaa g)) s=Q at HRR HRY
 have hnc:=hl.2.1
 have hcm:=hl.2.2.1
 have hr1:=hin.rs.2.1
 have hr2:=hin.rs.2.2.1
 have ht1:=hin.ts.2.1
 have ht2:=hin.ts.2.2.1
 have hb1:=hin.bl.2.1
 have hb2:=hin.bl.2.2.1
 unfold maxLen at hg hcm hr2 ht2 hb2
 obtain ⟨t,a1,n1,c1,a2,n2,c2,a3,n3,c3⟩:=h
 obtain ⟨g0,g1,g2⟩:=hg2
 obtain ⟨s0,s1,s2,s3⟩:=hs2
 simp only [] at s0 s1 s2 s3 hr1 hr2 ht1 ht2 hb1 hb2
 rw [hw2] at g0 g1 g2 s0 s1 s2 s3
 clear hw2 hB2 hin hl
 go_enter Tryz.func5,Tryz.ntmps5
 go_upto_block 0 with fail
 rw [<- HW.out]
 clear g0 g1 g2 s0 s1 s2 s3
 go_cut [7] from 8 to 23 (fun v7 V=>(∃ z:Int,v7=.int .i64 z)/\Hid (∀ i,i<ls.length->i<40->(ls.getD i []).length<=20)/\Hid (Below w2.heap.size w2 V))
 case first =>
  go_wp2_with fail
  go_loopw [7] (fun v V=>∃ k:Nat,k<=n/\v=.int .i64 (k:Nat)/\Hid (∀ i,i<k->i<40->(ls.getD i []).length<=20)/\Hid (Below w2.heap.size w2 V)) (fun v _=>n-(intOf v).toNat)
  case atStart=>exact ⟨0,Nat.zero_le _,rfl,qz fun i hi=>absurd hi (Nat.not_lt_zero _),zX _ _⟩
  case round =>
   obtain ⟨k,hk,rfl,HK,HB⟩:=hrel
   by_cases hlt:k<n
   · have e1:decide ((k:Int)<(n:Int))=true:=by rw [decide_eq_true_eq];omega
     have hki:(k:Int)<(n:Int):=by omega
     by_cases h40:k<40
     · have e2:decide ((k:Int)<40)=true:=by rw [decide_eq_true_eq];omega
       have hk40:(k:Int)<40:=by omega
       obtain ⟨lb,lo,rfl,hlb,hlc⟩:=(HL.out.below (HB2.out.trans (HB.out.mono HB2.out.size))).cells (by omega)
       obtain ⟨ai,ni,ci,p0,hI⟩:=hlc k hlt
       have hil:(ls.getD k []).length=ni:=hI.1
       have hi2:=hI.2.1
       have hi3:=hI.2.2.1
       unfold maxLen at hi3
       clear hlc hI
       by_cases h20:20<ni
       · have e3:decide ((ni:Int)>20)=true:=by rw [decide_eq_true_eq];omega
         have hni:(20:Int)<(ni:Int):=by omega
         have HBE:=qz (HB2.out.trans (HB.out.mono HB2.out.size))
         have HX:=qz (HN.out (fun q=>by have:=q.ls k (by rw [HLL.out];exact hlt) h40;omega))
         clear hil
         go_wp2_with fail
         go_ret
         exact ⟨by rw [HX.out];rfl,HBE.out⟩
       · have e3:decide ((ni:Int)>20)=false:=by rw [decide_eq_false_iff_not];omega
         have hni:(ni:Int)<=20:=by omega
         have HK2:Hid (∀ i,i<k+1->i<40->(ls.getD i []).length<=20):=fun i h1 h2=>by
          by_cases e:i=k
          · subst e;rw [hil];omega
          · exact HK.out i (by omega) h2
         clear hil
         go_wp2_with fail
         go_roundw
         case rel=>exact ⟨k+1,by omega,by go_num,HK2.out,HB.out⟩
         case measure=>simp [intOf];omega
     · have e2:decide ((k:Int)<40)=false:=by rw [decide_eq_false_iff_not];omega
       have hk40:(40:Int)<=(k:Int):=by omega
       have HK2:Hid (∀ i,i<ls.length->i<40->(ls.getD i []).length<=20):=fun i h1 h2=>HK.out i (by omega) h2
       go_wp2_with fail
       go_meet
       case rel=>exact ⟨⟨_,rfl⟩,HK2.out,HB.out⟩
   · obtain rfl:k=n:=by omega
     have HK2:Hid (∀ i,i<ls.length->i<40->(ls.getD i []).length<=20):=fun i h1 h2=>HK.out i (by rw [<- HLL.out];exact h1) h2
     go_wp2_with fail
     go_meet
     case rel=>exact ⟨⟨_,rfl⟩,HK2.out,HB.out⟩
 case rest =>
 obtain ⟨⟨z,rfl⟩,HK,HB⟩:=hcut
 have HBE:=qz (HB2.out.trans (HB.out.mono HB2.out.size))
 obtain ⟨g0,g1,g2⟩:=HG2.out.below HB.out (by omega)
 obtain ⟨s0,s1,s2,s3⟩:=HS2.out.below HB.out (by omega)
 simp only [] at s0 s1 s2 s3
 clear HW
 by_cases q1:g.size<=60
 case neg =>
  have eq1:decide ((g.size:Int)<=60)=false:=by rw [decide_eq_false_iff_not];omega
  have HX:=qz (HN.out (fun q=>q1 q.gz))
  clear q1
  go_wp2_with fail
  go_ret
  exact ⟨by rw [HX.out];rfl,HBE.out⟩
 have eq1:decide ((g.size:Int)<=60)=true:=by rw [decide_eq_true_eq];omega
 have i1:(g.size:Int)<=60:=by omega
 by_cases q2:n1<=5
 case neg =>
  have eq2:decide ((n1:Int)<=5)=false:=by rw [decide_eq_false_iff_not];omega
  have HX:=qz (HN.out (fun q=>q2 q.n1))
  clear q2
  go_wp2_with fail
  go_ret
  exact ⟨by rw [HX.out];rfl,HBE.out⟩
 have eq2:decide ((n1:Int)<=5)=true:=by rw [decide_eq_true_eq];omega
 have i2:(n1:Int)<=5:=by omega
 by_cases q3:n2<=12
 case neg =>
  have eq3:decide ((n2:Int)<=12)=false:=by rw [decide_eq_false_iff_not];omega
  have HX:=qz (HN.out (fun q=>q3 q.n2))
  clear q3
  go_wp2_with fail
  go_ret
  exact ⟨by rw [HX.out];rfl,HBE.out⟩
 have eq3:decide ((n2:Int)<=12)=true:=by rw [decide_eq_true_eq];omega
 have i3:(n2:Int)<=12:=by omega
 by_cases q4:n3<=20
 case neg =>
  have eq4:decide ((n3:Int)<=20)=false:=by rw [decide_eq_false_iff_not];omega
  have HX:=qz (HN.out (fun q=>q4 q.n3))
  clear q4
  go_wp2_with fail
  go_ret
  exact ⟨by rw [HX.out];rfl,HBE.out⟩
 have eq4:decide ((n3:Int)<=20)=true:=by rw [decide_eq_true_eq];omega
 have i4:(n3:Int)<=20:=by omega
 by_cases q5:n<=30
 case neg =>
  have eq5:decide ((n:Int)<=30)=false:=by rw [decide_eq_false_iff_not];omega
  have HX:=qz (HN.out (fun q=>q5 (by rw [<- HLL.out];exact q.ns)))
  clear q5
  go_wp2_with fail
  go_ret
  exact ⟨by rw [HX.out];rfl,HBE.out⟩
 have eq5:decide ((n:Int)<=30)=true:=by rw [decide_eq_true_eq];omega
 have i5:(n:Int)<=30:=by omega
 go_wp2_with fail
 refine (HRI.out _).mono ?_
 rintro e w4 ⟨rfl,hb4⟩
 have HB4:=qz (HB.out.trans (hb4.mono HB.out.size))
 have hg4:=HG2.out.below HB4.out (by omega)
 have hs4:=HS2.out.below HB4.out (by omega)
 have HBE4:=qz (HB2.out.trans (HB4.out.mono HB2.out.size))
 clear g0 g1 g2 s0 s1 s2 s3 hb4 HRI
 obtain ⟨g0,g1,g2⟩:=hg4
 obtain ⟨s0,s1,s2,s3⟩:=hs4
 simp only [] at s0 s1 s2 s3
 cases R
 · have HX:=qz (HN.out (fun q=>by have:=q.gr;rw [HRS.out] at this;cases this))
   go_wp2_with fail
   go_ret
   exact ⟨by rw [HX.out];rfl,HBE4.out⟩
 go_wp2_with fail
 refine (HRR.out _ HB4.out).mono ?_
 rintro e w5 ⟨rfl,hb5⟩
 have HB5:=qz (HB4.out.trans (hb5.mono HB4.out.size))
 have HBE5:=qz (HB2.out.trans (HB5.out.mono HB2.out.size))
 clear g0 g1 g2 s0 s1 s2 s3
 obtain ⟨s0,s1,s2,s3⟩:=HS2.out.below HB5.out (by omega)
 simp only [] at s0 s1 s2 s3
 clear hb5 HRR
 cases Q with
 | false =>
   have HX:=qz (HN.out (fun q=>by have:=HRY.out.2 q.sr;cases this))
   go_wp2_with fail
   go_ret
   exact ⟨by rw [HX.out];rfl,HBE5.out⟩
 | true =>
   have HSR:=qz (HRY.out.1 rfl)
   by_cases q6:t<2147383647
   case neg =>
    have e6:decide (t<2147383647)=false:=by rw [decide_eq_false_iff_not];exact q6
    have HX:=qz (HN.out (fun q=>q6 (by rw [HT.out];exact q.tick)))
    clear q6
    go_wp2_with fail
    go_ret
    exact ⟨by rw [HX.out];rfl,HBE5.out⟩
   have e6:decide (t<2147383647)=true:=by rw [decide_eq_true_eq];exact q6
   have HQ6:=qz q6
   have HX:=qz (HY.out ⟨q1,q2,q3,q4,by rw [HLL.out];exact q5,HK.out,HRS.out,HSR.out,by rw [<- HT.out];exact HQ6.out⟩)
   go_wp2_with fail
   go_ret
   exact ⟨by rw [HX.out];rfl,HBE5.out⟩
end Go.Proofs.YtknnnbpgkfaapaaGreat.Vm
