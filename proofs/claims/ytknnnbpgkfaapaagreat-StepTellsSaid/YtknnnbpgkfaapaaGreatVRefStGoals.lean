import Derived.Test.YtknnnbpgkfaapaaGreatQ
import Derived.Test.YtknnnbpgkfaapaaGreatVRefFinds
import Derived.Test.YtknnnbpgkfaapaaGreatVFars
import Derived.Test.YtknnnbpgkfaapaaGreatVInMath
import Derived.Test.YtknnnbpgkfaapaaGreatVOfs
import Derived.Test.YtknnnbpgkfaapaaGreatVAppendZ
import Derived.Test.YtknnnbpgkfaapaaGreatVRefBests
import Derived.Deep.RegionHeld3
set_option maxRecDepth 100000
set_option linter.unusedSimpArgs false
set_option linter.unusedVariables false
namespace Go.Proofs.YtknnnbpgkfaapaaGreat.Vm
open Go Go.RowKit
theorem ret_E {R E:Int × Bool}(h:R=E):Ending.returned (.tuple #[.int .i64 E.1,.bool E.2])=.returned (.tuple #[.int .i64 R.1,.bool R.2]):=by rw [h]
def ofZ (l:List Nat):List Int:=(ofS l 67).map fun k:Nat=>(k:Int)
theorem ofZ_len (l:List Nat):(ofZ l).length<=l.length:=by
 unfold ofZ ofS
 rw [List.length_map]
 exact filter_len _ _
theorem ofZ_wf {l:List Nat}(hl:l.length<=1000000):∀ z∈ofZ l,(Lit.int .i64 z).wf=true:=by
 intro z hz
 obtain ⟨k,hk,rfl⟩:=List.mem_map.1 hz
 have h1:=List.mem_range.1 (List.mem_filter.1 hk).1
 exact WalkArith.wf_i64 (by omega)
theorem ownI_rowZ {w:World}{B:Nat}{v:Value}{l:List Nat}(h:OwnI w B v l):∃ a n c,v=.slice a n c/\n=l.length/\RowZ .i64 w w.heap.size a n c (l.map fun k:Nat=>(k:Int)):=by
 have h2:OwnZ w B v (l.map fun k:Nat=>(k:Int)):=by
  unfold OwnZ
  have e:zan (l.map fun k:Nat=>(k:Int))=i64s l:=by simp [zan,i64s]
  rw [e,List.length_map]
  exact h
 obtain ⟨a,c,e,hr⟩:=h2.row
 rw [List.length_map] at e hr
 exact ⟨a,_,c,e,rfl,hr⟩
noncomputable def zay (W H:Int)(l:List Nat)(s:St)(x:Int):Int × Bool :=
 if 0<=x/\x<s.rs.length then
  if 0<(s.rs.getD x.toNat zr).e\/(s.rs.getD x.toNat zr).d=0 then (0,false)
  else if (s.rs.getD x.toNat zr).b=1\/(s.rs.getD x.toNat zr).b=2 then errandS s.ts (s.rs.getD x.toNat zr)
  else if (s.rs.getD x.toNat zr).b=3 then
   if (nearG W H l s.bl (ofZ l) (s.rs.getD x.toNat zr).a).2<0 then (0,false) else ((nearG W H l s.bl (ofZ l) (s.rs.getD x.toNat zr).a).1,true)
  else (0,false)
 else (0,false)
section
variable {W H:Int} {l:List Nat} {s:St} {x:Int} {r:Rec} {k:Nat}
theorem goal_out (h:¬ (0<=x/\x<s.rs.length)):zay W H l s x=(0,false):=by unfold zay;rw [if_neg h]
theorem goal_in (hk:k<s.rs.length)(hr:s.rs.getD k zr=r):zay W H l s (k:Int) =
 if 0<r.e\/r.d=0 then (0,false) else if r.b=1\/r.b=2 then errandS s.ts r else if r.b=3 then
  if (nearG W H l s.bl (ofZ l) r.a).2<0 then (0,false) else ((nearG W H l s.bl (ofZ l) r.a).1,true) else (0,false):=by
 unfold zay
 rw [if_pos (by omega),Int.toNat_natCast,hr]
end
theorem of_row {f:FuncId}{args:Array Value}{V:World}{l:List Nat}(h:Calls Tryz.prog f args V (ListPost V l)) :
 Calls Tryz.prog f args V fun e V'=>∃ a n c,e=.returned (.slice a n c)/\n=l.length/\RowZ .i64 V' V'.heap.size a n c (l.map fun k:Nat=>(k:Int))/\Below V.heap.size V V' :=
 h.mono fun e V' ⟨v,he,ho,hb⟩=>by
  obtain ⟨a,n,c,e',hn,hr⟩:=ownI_rowZ ho
  subst e'
  exact ⟨a,n,c,he,hn,hr,hb⟩
set_option maxHeartbeats 2000000 in
theorem goal_any (W H:Int)(g:ByteArray)(h:Sh)(s:St)(x:Int)(B:Nat)(w:World)(hok:Okay W H g)(hin:StIn w B h s)(hB:B<=w.heap.size)(hbw:∀ z∈s.bl,(Lit.int .i64 z).wf=true)(hn3:h.n3<=1000000) :
 Calls Tryz.prog 89 #[zam W H g,shV h,.int .i64 x] w fun e w'=>e=.returned (.tuple #[.int .i64 (zay W H (zaa g) s x).1,.bool (zay W H (zaa g) s x).2])/\Below w.heap.size w w':=by
 obtain ⟨w2,hw2,hB2,hz2,hg2,hs2⟩:=zbv w W H g h
 have hgle:=hok.le
 have hR:=hin.rs.mono hB
 have HIN:=qz (hin.mono hB)
 have hnl:=hin.rs.len
 have HNL:=qz hnl
 have hlen:zay W H (zaa g) s x=zay W H (zaa g) s x:=rfl
 obtain ⟨t,a1,n1,c1,a2,n2,c2,a3,n3,c3⟩:=h
 obtain ⟨tick,rs,ts,bl⟩:=s
 simp only [] at hR hbw hn3 hnl HNL
 have HRL:=qz hR.1
 have HW2:=qz hw2
 have HG2:=qz hg2
 have HS2:=qz hs2
 have HOK:=qz hok
 have HBW:=qz hbw
 unfold maxLen at hnl
 obtain ⟨g1,g2,g3⟩:=hg2
 obtain ⟨s0,s1,s2,s3⟩:=hs2
 simp only [] at s0 s1 s2 s3
 clear hin hw2 hok hbw hlen
 by_cases hx:¬ (0<=x/\x<(n1:Int))
 · have HY:Hid (zay W H (zaa g) ⟨tick,rs,ts,bl⟩ x=(0,false)):=goal_out (by show ¬ (0<=x/\x<(rs.length:Int));rw [HRL.out];exact hx)
   have HIR:=qz fun V=>isRobot_no a1 (n:=n1) c1 V HNL.out hx
   clear hx
   generalize zay W H (zaa g) ⟨tick,rs,ts,bl⟩ x=R at HY
   go_enter Tryz.func89,Tryz.ntmps89
   go_wp2_with fail
   rw [<- HW2.out]
   refine (HIR.out _).mono ?_
   rintro e w' ⟨rfl,rfl⟩
   go_wp2_with fail
   go_ret2
   exact ⟨zau HY.out,hB2⟩
 have hx:=Classical.not_not.1 hx
 obtain ⟨k,rfl⟩:=Int.eq_ofNat_of_zero_le hx.1
 have hkn:k<n1:=by omega
 have hk0:(0:Int)<=((k:Nat):Int):=by omega
 have HIR:=qz fun V=>isRobot_yes a1 (n:=n1) c1 V HNL.out hx
 obtain ⟨b,off,rfl,hb,hcs⟩:=hR.cells (by omega)
 have hr:∃ r,rs.getD k zr=r:=⟨_,rfl⟩
 obtain ⟨r,hr⟩:=hr
 have hcell:=(hcs k hkn).below hB2 (by omega)
 rw [hr] at hcell
 obtain ⟨p1,p2,p3,p4,p5⟩:=hcell
 have hbz:b<w2.heap.size:=by omega
 have HGI:=qz (goal_in (W:=W) (H:=H) (l:=zaa g) (s:=⟨tick,rs,ts,bl⟩) (k:=k) (by show k<rs.length;rw [HRL.out];exact hkn) hr)
 obtain ⟨R,hRR⟩:∃ R,zay W H (zaa g) ⟨tick,rs,ts,bl⟩ (k:Int)=R:=⟨_,rfl⟩
 rw [hRR] at HGI ⊢
 have hra:=recAt_new w2 r 46
 have hba:Below w2.heap.size w2 (w2.alloc (.cells #[.int .i64 r.a,.int .i64 r.b,.int .i64 r.c,.int .i64 r.d,.int .i64 r.e] 46)):=(zX _ _).alloc (zL _) _
 have hza:(w2.alloc (.cells #[.int .i64 r.a,.int .i64 r.b,.int .i64 r.c,.int .i64 r.d,.int .i64 r.e] 46)).heap.size=w.heap.size+3:=by simp [hz2]
 rw [hz2] at hra
 have hga:=HG2.out.below hba (by omega)
 have hsa:=HS2.out.below hba (by omega)
 have hB3:=hB2.trans (hba.mono hB2.size)
 obtain ⟨w3,hw3⟩:∃ w3,w3=w2.alloc (.cells #[.int .i64 r.a,.int .i64 r.b,.int .i64 r.c,.int .i64 r.d,.int .i64 r.e] 46):=⟨_,rfl⟩
 rw [<- hw3] at hra hza hga hsa hB3
 have HW3:=qz hw3
 have HR3:=qz hra
 have HG3:=qz hga
 have HS3:=qz hsa
 have HB3:=qz hB3
 clear hRR hr hcs hR hx hra hga hsa hba hw3
 go_enter Tryz.func89,Tryz.ntmps89
 go_wp2_with fail
 rw [<- HW2.out]
 refine (HIR.out _).mono ?_
 rintro e w' ⟨rfl,rfl⟩
 by_cases he:0<r.e
 · have HY:Hid (R=(0,false)):=by unfold Hid;rw [HGI.out,if_pos (.inl he)]
   clear HGI
   go_wp2_with fail
   go_ret2
   rw [HW3.out] at HB3
   exact ⟨zau HY.out,HB3.out⟩
 by_cases hd:r.d=0
 · have HY:Hid (R=(0,false)):=by unfold Hid;rw [HGI.out,if_pos (.inr hd)]
   have e1:(r.d==0)=true:=by simpa using hd
   clear HGI hd
   go_wp2_with fail
   go_ret2
   rw [HW3.out] at HB3
   exact ⟨zau HY.out,HB3.out⟩
 have hgi:=HGI.out
 rw [if_neg (by omega)] at hgi
 have e1:(r.d==0)=false:=by simpa using hd
 clear HGI hd
 by_cases hm12:r.b=1\/r.b=2
 · rw [if_pos hm12] at hgi
   have HY:=qz hgi
   have HER:=qz fun (V:World) (hV:Below w.heap.size w V)=>errand_any ⟨t,some ⟨b,off,none⟩,n1,c1,a2,n2,c2,a3,n3,c3⟩ ts r w.heap.size V (HIN.out.ts.below hV) hV.size
   clear hgi
   rcases hm12 with h1|h2
   · have e2:(r.b==1)=true:=by simpa using h1
     clear h1
     go_wp2_with fail
     rw [<- HW3.out]
     refine (HER.out _ HB3.out).mono ?_
     rintro e w4 ⟨rfl,hv4⟩
     have hB4:=HB3.out.trans (hv4.mono HB3.out.size)
     generalize errandS ts r=E at HY
     go_wp2_with fail
     go_ret2
     exact ⟨ret_E HY.out,hB4⟩
   · have e2:(r.b==1)=false:=by rw [beq_eq_false_iff_ne];omega
     have e3:(r.b==2)=true:=by simpa using h2
     clear h2
     go_wp2_with fail
     rw [<- HW3.out]
     refine (HER.out _ HB3.out).mono ?_
     rintro e w4 ⟨rfl,hv4⟩
     have hB4:=HB3.out.trans (hv4.mono HB3.out.size)
     generalize errandS ts r=E at HY
     go_wp2_with fail
     go_ret2
     exact ⟨ret_E HY.out,hB4⟩
 rw [if_neg hm12] at hgi
 have e2:(r.b==1)=false:=by rw [beq_eq_false_iff_ne];omega
 have e3:(r.b==2)=false:=by rw [beq_eq_false_iff_ne];omega
 by_cases hm3:r.b=3
 · rw [if_pos hm3] at hgi
   have e4:(r.b==3)=true:=by simpa using hm3
   have HY:=qz hgi
   clear hgi hm3 hm12
   have k0:Kept w3 w3:=Kept.refl _
   have hks:∀ V,Kept w3 V->(Kept w3 V/\V.cell? ⟨w.heap.size,0,none⟩=some (.int .i64 W)/\V.cell? ⟨w.heap.size,1,none⟩=some (.int .i64 H)/\V.cell? ⟨w.heap.size,2,none⟩=some (.string g)/\V.cell? ⟨w.heap.size+1,3,none⟩=some (.slice a3 n3 c3)/\V.cell? ⟨w.heap.size+2,0,none⟩=some (.int .i64 r.a)):=fun V hV=>by
    have hg':=HG3.out.below hV (by omega)
    have hs':=HS3.out.below hV (by omega)
    have hr':=HR3.out.below hV (by omega)
    exact ⟨hV,hg'.1,hg'.2.1,hg'.2.2,hs'.2.2.2,hr'.1⟩
   have hof:∀ V,Kept w3 V->Calls Tryz.prog 120 #[zam W H g,.int .u8 67] V fun e V'=>∃ a n c,e=.returned (.slice a n c)/\n<=1000000/\RowZ .i64 V' V'.heap.size a n c (ofZ (zaa g))/\Kept w3 V':=fun V hV =>
    (of_row (of_any W H 67 g V HOK.out (by omega))).mono fun e V' ⟨a,n,c,he,hn,hr,hb⟩=>by
     refine ⟨a,n,c,he,?_,hr,Below.trans hV (hb.mono hV.size)⟩
     have h1:=ofZ_len (zaa g)
     unfold ofZ at h1
     rw [List.length_map,zag] at h1
     omega
   have hnr:∀ V a n c,Kept w3 V->n<=1000000->RowZ .i64 V V.heap.size a n c (ofZ (zaa g))->Calls Tryz.prog 119 #[zam W H g,.int .i64 r.a,.slice a n c,.slice a3 n3 c3] V fun e V'=>e=.returned (.tuple #[.int .i64 (nearG W H (zaa g) bl (ofZ (zaa g)) r.a).1,.int .i64 (nearG W H (zaa g) bl (ofZ (zaa g)) r.a).2])/\Kept w3 V':=fun V a n c hV hn hr =>
    (nearest_any W H r.a g bl (ofZ (zaa g)) a3 a n3 c3 n c V.heap.size V HOK.out ((HIN.out.bl.below (HB3.out.trans (Below.mono hV (by omega)))).mono (by have:=Below.size hV;have:=HB3.out.size;omega)) hr (zL _) HBW.out (ofZ_wf (by rw [zag];omega)) hn3 hn).mono fun e V' ⟨he,hb⟩=>⟨he,Below.trans hV (hb.mono hV.size)⟩
   generalize nearG W H (zaa g) bl (ofZ (zaa g)) r.a=N at hnr HY
   have HKS:=qz hks
   have HOF:=qz hof
   have HNR:=qz hnr
   clear hks hof hnr
   go_wp2_with fail
   rw [<- HW3.out]
   go_region_held3 (fun V=>Kept w3 V/\V.cell? ⟨w.heap.size,0,none⟩=some (.int .i64 W)/\V.cell? ⟨w.heap.size,1,none⟩=some (.int .i64 H)/\V.cell? ⟨w.heap.size,2,none⟩=some (.string g)/\V.cell? ⟨w.heap.size+1,3,none⟩=some (.slice a3 n3 c3)/\V.cell? ⟨w.heap.size+2,0,none⟩=some (.int .i64 r.a))
    (first|exact HKS.out _ (by assumption)|exact HKS.out _ (Kept.drew (by assumption)))
    (first
     | (go_at_call 120;refine (HOF.out _ (by first|exact k0|exact Kept.drew k0)).mono ?_;rintro e wa ⟨xa,xn,xc,rfl,hxn,hxr,ka⟩)
     | (go_at_call 119;refine (HNR.out _ _ _ _ (by first|exact ka|exact Kept.drew ka) hxn (by first|exact hxr|exact hxr.below (zX _ _).drew)).mono ?_;rintro e wb ⟨rfl,kb⟩))
   all_goals
    have HKB:Hid (Kept w3 _):=qz (by first|exact kb|exact Kept.drew kb)
    by_cases hN:N.2<0
    · have HZ:Hid (R=(0,false)):=by unfold Hid;rw [HY.out,if_pos hN]
      go_wp2_with fail
      go_ret2
      refine ⟨zau HZ.out,HB3.out.trans (Below.mono ?_ HB3.out.size)⟩
      first|exact kb|exact Kept.drew kb
    · have HZ:Hid (R=(N.1,true)):=by unfold Hid;rw [HY.out,if_neg hN]
      go_wp2_with fail
      go_ret2
      refine ⟨zau HZ.out,HB3.out.trans (Below.mono ?_ HB3.out.size)⟩
      first|exact kb|exact Kept.drew kb
 · rw [if_neg hm3] at hgi
   have HY:=qz hgi
   have e4:(r.b==3)=false:=by simpa using hm3
   clear hgi hm12 hm3
   go_wp2_with fail
   go_ret2
   rw [HW3.out] at HB3
   exact ⟨zau HY.out,HB3.out⟩
theorem kept_set5 {A V:World}{b:Nat}(h:Kept A V)(hb:A.heap.size<=b)(v0 v1 v2 v3 v4:Value):Kept A (((((V.setCell ⟨b,0,none⟩ v0).setCell ⟨b,1,none⟩ v1).setCell ⟨b,2,none⟩ v2).setCell ⟨b,3,none⟩ v3).setCell ⟨b,4,none⟩ v4) :=
 ((((Below.setCell h (p:=⟨b,0,none⟩) hb v0).setCell (p:=⟨b,1,none⟩) hb v1).setCell (p:=⟨b,2,none⟩) hb v2).setCell (p:=⟨b,3,none⟩) hb v3).setCell (p:=⟨b,4,none⟩) hb v4
theorem mode_find {ts:List Rec}{r:Rec}{i:Nat}(h:ModeP ts r i)(hb:r.b=1\/r.b=2):∃ j:Nat,j<ts.length/\zat ts r.c=j:=by
 unfold ModeP at h
 rcases h with h|⟨_,j,hj,e,_⟩|⟨_,j,hj,e,_⟩|h
 · omega
 · exact ⟨j,hj,e⟩
 · exact ⟨j,hj,e⟩
 · omega
theorem mode_five {ts:List Rec}{r:Rec}{i:Nat}(h:ModeP ts r i):r.b=0\/r.b=1\/r.b=2\/r.b=3\/r.b=4:=by
 unfold ModeP at h
 omega
set_option maxHeartbeats 2000000 in
theorem rgoal_any (W H:Int)(g:ByteArray)(h:Sh)(s:St)(x:Int)(B:Nat)(w:World)(hok:Okay W H g)(hin:StIn w B h s)(hB:B<=w.heap.size)(hrp:∀ i,i<s.rs.length->ModeP s.ts (s.rs.getD i zr) i)(hn3:h.n3<=1000000) :
 Calls Tryz.prog 49 #[zam W H g,shV h,.int .i64 x] w fun e w'=>e=.returned (.tuple #[.int .i64 (zay W H (zaa g) s x).1,.bool (zay W H (zaa g) s x).2])/\Below w.heap.size w w':=by
 obtain ⟨w2,hw2,hB2,hz2,hg2,hs2⟩:=zbv w W H g h
 have hgle:=hok.le
 have hR:=hin.rs.mono hB
 have HIN:=qz (hin.mono hB)
 have hnl:=hin.rs.len
 obtain ⟨t,a1,n1,c1,a2,n2,c2,a3,n3,c3⟩:=h
 obtain ⟨tick,rs,ts,bl⟩:=s
 simp only [] at hR hn3 hnl hrp
 have HRL:=qz hR.1
 have HW2:=qz hw2
 have HG2:=qz hg2
 have HS2:=qz hs2
 have HOK:=qz hok
 unfold maxLen at hnl
 obtain ⟨g1,g2,g3⟩:=hg2
 obtain ⟨s0,s1,s2,s3⟩:=hs2
 simp only [] at s0 s1 s2 s3
 have HBA:=qz hB2
 rw [HW2.out] at HBA
 clear hin hw2 hok
 by_cases hx0:x<0
 · have HY:Hid (zay W H (zaa g) ⟨tick,rs,ts,bl⟩ x=(0,false)):=goal_out (by show ¬ (0<=x/\x<(rs.length:Int));omega)
   generalize zay W H (zaa g) ⟨tick,rs,ts,bl⟩ x=R at HY
   go_enter Tryz.func49,Tryz.ntmps49
   go_wp2_with fail
   go_ret2
   exact ⟨zau HY.out,HBA.out⟩
 by_cases hx1:(n1:Int)<=x
 · have HY:Hid (zay W H (zaa g) ⟨tick,rs,ts,bl⟩ x=(0,false)):=goal_out (by show ¬ (0<=x/\x<(rs.length:Int));rw [HRL.out];omega)
   generalize zay W H (zaa g) ⟨tick,rs,ts,bl⟩ x=R at HY
   go_enter Tryz.func49,Tryz.ntmps49
   go_wp2_with fail
   go_ret2
   exact ⟨zau HY.out,HBA.out⟩
 obtain ⟨k,rfl⟩:=Int.eq_ofNat_of_zero_le (show 0<=x by omega)
 have hkn:k<n1:=by omega
 have hk0:(0:Int)<=((k:Nat):Int):=by omega
 have hkl:k<rs.length:=by rw [HRL.out];exact hkn
 have hmode:=hrp k hkl
 obtain ⟨b,off,rfl,hb,hcs⟩:=hR.cells (by omega)
 have hr:∃ r,rs.getD k zr=r:=⟨_,rfl⟩
 obtain ⟨r,hr⟩:=hr
 have hcell0:=hcs k hkn
 rw [hr] at hcell0 hmode
 have hcell:=hcell0.below hB2 (by omega)
 obtain ⟨p1,p2,p3,p4,p5⟩:=hcell0
 have HGI:=qz (goal_in (W:=W) (H:=H) (l:=zaa g) (s:=⟨tick,rs,ts,bl⟩) (k:=k) hkl hr)
 obtain ⟨R,hRR⟩:∃ R,zay W H (zaa g) ⟨tick,rs,ts,bl⟩ (k:Int)=R:=⟨_,rfl⟩
 rw [hRR] at HGI ⊢
 have hra:=recAt_new w2 r 46
 have hba:Below w2.heap.size w2 (w2.alloc (.cells #[.int .i64 r.a,.int .i64 r.b,.int .i64 r.c,.int .i64 r.d,.int .i64 r.e] 46)):=(zX _ _).alloc (zL _) _
 have hza:(w2.alloc (.cells #[.int .i64 r.a,.int .i64 r.b,.int .i64 r.c,.int .i64 r.d,.int .i64 r.e] 46)).heap.size=w.heap.size+3:=by simp [hz2]
 rw [hz2] at hra
 have hga:=HG2.out.below hba (by omega)
 have hsa:=HS2.out.below hba (by omega)
 have hB3:=hB2.trans (hba.mono hB2.size)
 obtain ⟨w3,hw3⟩:∃ w3,w3=w2.alloc (.cells #[.int .i64 r.a,.int .i64 r.b,.int .i64 r.c,.int .i64 r.d,.int .i64 r.e] 46):=⟨_,rfl⟩
 rw [<- hw3] at hra hza hga hsa hB3
 have HW3:Hid (w3=((w.alloc (zar W H g)).alloc (shO ⟨t,some ⟨b,off,none⟩,n1,c1,a2,n2,c2,a3,n3,c3⟩)).alloc (.cells #[.int .i64 r.a,.int .i64 r.b,.int .i64 r.c,.int .i64 r.d,.int .i64 r.e] 46)):=by unfold Hid;rw [<- HW2.out];exact hw3
 have HR3:=qz hra
 have HG3:=qz hga
 have HS3:=qz hsa
 have HB3:=qz hB3
 have HB3':=qz hB3
 rw [HW3.out] at HB3'
 have HMODE:=qz hmode
 have h5:=mode_five hmode
 clear hRR hr hcs hR hra hga hsa hba hw3 hcell hrp hmode g1 g2 g3 s0 s1 s2 s3 hx0 hx1 hkl HW2 HBA hB2 hB3
 by_cases h0:r.b=0
 · have HY:Hid (R=(0,false)):=by
    unfold Hid
    rw [HGI.out]
    by_cases hh:0<r.e\/r.d=0
    · rw [if_pos hh]
    · rw [if_neg hh,if_neg (by omega),if_neg (by omega)]
   have e0:(r.b==0)=true:=by simpa using h0
   clear HGI h0 h5
   go_enter Tryz.func49,Tryz.ntmps49
   go_wp2_with fail
   go_ret2
   exact ⟨zau HY.out,HB3'.out⟩
 have e0:(r.b==0)=false:=by simpa using h0
 by_cases h4:r.b=4
 · have HY:Hid (R=(0,false)):=by
    unfold Hid
    rw [HGI.out]
    by_cases hh:0<r.e\/r.d=0
    · rw [if_pos hh]
    · rw [if_neg hh,if_neg (by omega),if_neg (by omega)]
   have e4:(r.b==4)=true:=by simpa using h4
   clear HGI h0 h4 h5
   go_enter Tryz.func49,Tryz.ntmps49
   go_wp2_with fail
   go_ret2
   exact ⟨zau HY.out,HB3'.out⟩
 have e4:(r.b==4)=false:=by simpa using h4
 by_cases he:0<r.e
 · have HY:Hid (R=(0,false)):=by unfold Hid;rw [HGI.out,if_pos (.inl he)]
   clear HGI h0 h4 h5
   go_enter Tryz.func49,Tryz.ntmps49
   go_wp2_with fail
   go_ret2
   exact ⟨zau HY.out,HB3'.out⟩
 by_cases hd:r.d=0
 · have HY:Hid (R=(0,false)):=by unfold Hid;rw [HGI.out,if_pos (.inr hd)]
   have ed:(r.d==0)=true:=by simpa using hd
   clear HGI h0 h4 h5 hd
   go_enter Tryz.func49,Tryz.ntmps49
   go_wp2_with fail
   go_ret2
   exact ⟨zau HY.out,HB3'.out⟩
 have ed:(r.d==0)=false:=by simpa using hd
 have hgi:=HGI.out
 rw [if_neg (by omega)] at hgi
 have k0:Kept w3 w3:=Kept.refl _
 have hg3:=HG3.out
 have hr3:=HR3.out
 have hs3:=HS3.out
 clear HGI hd
 by_cases h3:r.b=3
 · have e3:(r.b==3)=true:=by simpa using h3
   rw [if_neg (by omega),if_pos h3] at hgi
   have HY:=qz hgi
   clear hgi h0 h3 h4 h5
   have hks:∀ V,Kept w3 V->(Kept w3 V/\V.cell? ⟨w.heap.size,0,none⟩=some (.int .i64 W)/\V.cell? ⟨w.heap.size,1,none⟩=some (.int .i64 H)/\V.cell? ⟨w.heap.size,2,none⟩=some (.string g)/\V.cell? ⟨w.heap.size+1,3,none⟩=some (.slice a3 n3 c3)/\V.cell? ⟨w.heap.size+1+1,0,none⟩=some (.int .i64 r.a)):=fun V hV=>by
    have hg':=hg3.below hV (by omega)
    have hs':=hs3.below hV (by omega)
    have hr':=hr3.below hV (by omega)
    exact ⟨hV,hg'.1,hg'.2.1,hg'.2.2,hs'.2.2.2,hr'.1⟩
   have hof:∀ V,Kept w3 V->Calls Tryz.prog 80 #[zam W H g,.int .u8 67] V fun e V'=>∃ a n c,e=.returned (.slice a n c)/\n<=1000000/\RowZ .i64 V' V'.heap.size a n c (ofZ (zaa g))/\Kept w3 V':=fun V hV =>
    (of_row (rof_any W H 67 g V HOK.out)).mono fun e V' ⟨a,n,c,he,hn,hr,hb⟩=>by
     refine ⟨a,n,c,he,?_,hr,Below.trans hV (hb.mono hV.size)⟩
     have h1:=ofZ_len (zaa g)
     unfold ofZ at h1
     rw [List.length_map,zag] at h1
     omega
   have hnr:∀ V a n c,Kept w3 V->n<=1000000->RowZ .i64 V V.heap.size a n c (ofZ (zaa g))->Calls Tryz.prog 79 #[zam W H g,.int .i64 r.a,.slice a n c,.slice a3 n3 c3] V fun e V'=>e=.returned (.tuple #[.int .i64 (nearG W H (zaa g) bl (ofZ (zaa g)) r.a).1,.int .i64 (nearG W H (zaa g) bl (ofZ (zaa g)) r.a).2])/\Kept w3 V':=fun V a n c hV hn hr =>
    (rnearest_any W H r.a g bl (ofZ (zaa g)) a3 a n3 c3 n c V.heap.size V HOK.out ((HIN.out.bl.below (HB3.out.trans (Below.mono hV (by omega)))).mono (by have:=Below.size hV;have:=HB3.out.size;omega)) hr (zL _) hn3 hn).mono fun e V' ⟨he,hb⟩=>⟨he,Below.trans hV (hb.mono hV.size)⟩
   generalize nearG W H (zaa g) bl (ofZ (zaa g)) r.a=N at hnr HY
   have HKS:=qz hks
   have HOF:=qz hof
   have HNR:=qz hnr
   clear hks hof hnr hg3 hr3 hs3
   go_enter Tryz.func49,Tryz.ntmps49
   go_wp2_with fail
   rw [<- HW3.out]
   go_region_held3 (fun V=>Kept w3 V/\V.cell? ⟨w.heap.size,0,none⟩=some (.int .i64 W)/\V.cell? ⟨w.heap.size,1,none⟩=some (.int .i64 H)/\V.cell? ⟨w.heap.size,2,none⟩=some (.string g)/\V.cell? ⟨w.heap.size+1,3,none⟩=some (.slice a3 n3 c3)/\V.cell? ⟨w.heap.size+1+1,0,none⟩=some (.int .i64 r.a))
    (first|exact HKS.out _ (by assumption)|exact HKS.out _ (Kept.drew (by assumption)))
    (first
     | (go_at_call 80;refine (HOF.out _ (by first|exact k0|exact Kept.drew k0)).mono ?_;rintro e wa ⟨xa,xn,xc,rfl,hxn,hxr,ka⟩)
     | (go_at_call 79;refine (HNR.out _ _ _ _ (by first|exact ka|exact Kept.drew ka) hxn (by first|exact hxr|exact hxr.below (zX _ _).drew)).mono ?_;rintro e wb ⟨rfl,kb⟩))
   all_goals
    by_cases hN:N.2<0
    · have HZ:Hid (R=(0,false)):=by unfold Hid;rw [HY.out,if_pos hN]
      go_wp2_with fail
      go_ret2
      refine ⟨zau HZ.out,HB3.out.trans (Below.mono ?_ HB3.out.size)⟩
      first|exact kb|exact Kept.drew kb
    · have HZ:Hid (R=(N.1,true)):=by unfold Hid;rw [HY.out,if_neg hN]
      go_wp2_with fail
      go_ret2
      refine ⟨zau HZ.out,HB3.out.trans (Below.mono ?_ HB3.out.size)⟩
      first|exact kb|exact Kept.drew kb
 have e3:(r.b==3)=false:=by simpa using h3
 have h12:r.b=1\/r.b=2:=by omega
 rw [if_pos h12] at hgi
 obtain ⟨j,hj,hfj⟩:=mode_find HMODE.out h12
 have hjn:j<n2:=by have:=HIN.out.ts.1;simp only [] at this;omega
 obtain ⟨b2,off2,e',hb2,hcs2⟩:=HIN.out.ts.cells (show 0<n2 by omega)
 simp only [] at e'
 subst e'
 have hcj:=(hcs2 j hjn).below HB3.out (by omega)
 have hy:∃ y,ts.getD j zr=y:=⟨_,rfl⟩
 obtain ⟨y,hy⟩:=hy
 simp only [] at hcj
 rw [hy] at hcj
 have hj0:(0:Int)<=(j:Int):=by omega
 have hjn2:(j:Int)<(n2:Int):=by omega
 have hfd:∀ V,Kept w3 V->Calls Tryz.prog 28 #[shV ⟨t,some ⟨b,off,none⟩,n1,c1,some ⟨b2,off2,none⟩,n2,c2,a3,n3,c3⟩,.int .i64 r.c] V fun e V'=>e=.returned (.int .i64 (j:Int))/\Kept w3 V'/\Below V.heap.size V V':=fun V hV=>by
  have h1:=rfind_any ⟨t,some ⟨b,off,none⟩,n1,c1,some ⟨b2,off2,none⟩,n2,c2,a3,n3,c3⟩ ts r.c w.heap.size V (HIN.out.ts.below (HB3.out.trans (Below.mono hV (by omega)))) (by have:=Below.size hV;omega)
  rw [hfj] at h1
  exact h1.mono fun e V' ⟨he,hb⟩=>⟨he,Below.trans hV (hb.mono hV.size),hb⟩
 have hks:∀ V,Kept w3 V->(Kept w3 V/\V.cell? ⟨w.heap.size+1,0,none⟩=some (.int .i64 t)/\V.cell? ⟨w.heap.size+1,1,none⟩=some (.slice (some ⟨b,off,none⟩) n1 c1)/\V.cell? ⟨w.heap.size+1,2,none⟩=some (.slice (some ⟨b2,off2,none⟩) n2 c2)/\V.cell? ⟨w.heap.size+1,3,none⟩=some (.slice a3 n3 c3)/\V.cell? ⟨w.heap.size+1+1,1,none⟩=some (.int .i64 r.b)/\V.cell? ⟨w.heap.size+1+1,2,none⟩=some (.int .i64 r.c) /\
  V.cell? ⟨b2,off2+j*5,none⟩=some (.int .i64 y.a)/\V.cell? ⟨b2,off2+j*5+1,none⟩=some (.int .i64 y.b)/\V.cell? ⟨b2,off2+j*5+2,none⟩=some (.int .i64 y.c)/\V.cell? ⟨b2,off2+j*5+3,none⟩=some (.int .i64 y.d)/\V.cell? ⟨b2,off2+j*5+4,none⟩=some (.int .i64 y.e)):=fun V hV=>by
  have hs':=hs3.below hV (by omega)
  have hr':=hr3.below hV (by omega)
  have hc':=hcj.below hV (by omega)
  exact ⟨hV,hs'.1,hs'.2.1,hs'.2.2.1,hs'.2.2.2,hr'.2.1,hr'.2.2.1,hc'.1,hc'.2.1,hc'.2.2.1,hc'.2.2.2.1,hc'.2.2.2.2⟩
 have HY1:Hid (r.b=1->R=(y.b,true)):=fun h1=>by
  rw [hgi]
  unfold errandS
  simp only []
  rw [hfj,if_neg (by omega),if_pos h1,Int.toNat_natCast,hy]
 have HY2:Hid (r.b≠1->R=(y.c,true)):=fun h1=>by
  rw [hgi]
  unfold errandS
  simp only []
  rw [hfj,if_neg (by omega),if_neg h1,Int.toNat_natCast,hy]
 have hnew:∀ V,Below (w3.heap.size+1) (w3.alloc (.cells #[.int .i64 0,.int .i64 0,.int .i64 0,.int .i64 0,.int .i64 0] 48)) V ->
  (V.cell? ⟨w3.heap.size,0,none⟩=some (.int .i64 0)/\V.cell? ⟨w3.heap.size,1,none⟩=some (.int .i64 0)/\V.cell? ⟨w3.heap.size,2,none⟩=some (.int .i64 0)/\V.cell? ⟨w3.heap.size,3,none⟩=some (.int .i64 0)/\V.cell? ⟨w3.heap.size,4,none⟩=some (.int .i64 0)) /\
  V.frozen? ⟨w3.heap.size,0,none⟩=false/\V.frozen? ⟨w3.heap.size,1,none⟩=false/\V.frozen? ⟨w3.heap.size,2,none⟩=false/\V.frozen? ⟨w3.heap.size,3,none⟩=false/\V.frozen? ⟨w3.heap.size,4,none⟩=false:=fun V hV=>by
  have hc:∀ i v,(w3.alloc (.cells #[.int .i64 0,.int .i64 0,.int .i64 0,.int .i64 0,.int .i64 0] 48)).cell? ⟨w3.heap.size,i,none⟩=some v->V.cell? ⟨w3.heap.size,i,none⟩=some v:=fun i v h=>(hV.cell (p:=⟨w3.heap.size,i,none⟩) (Nat.lt_succ_self _)).trans h
  have hf:∀ i,V.frozen? ⟨w3.heap.size,i,none⟩=false:=fun i=>(hV.frozen (p:=⟨w3.heap.size,i,none⟩) (Nat.lt_succ_self _)).trans (by simp)
  exact ⟨⟨hc 0 _ (by simp),hc 1 _ (by simp),hc 2 _ (by simp),hc 3 _ (by simp),hc 4 _ (by simp)⟩,hf 0,hf 1,hf 2,hf 3,hf 4⟩
 rw [hza] at hnew
 have HNEW:=qz hnew
 have HKS:=qz hks
 have HFD:=qz hfd
 clear hnew hks hfd hgi hfj hj hcs2 hy hcj hg3 hs3 h0 h3 h4 h5
 go_enter Tryz.func49,Tryz.ntmps49
 go_wp2_with fail
 rw [<- HW3.out]
 go_region_held3 (fun V=>Kept w3 V/\V.cell? ⟨w.heap.size+1,0,none⟩=some (.int .i64 t)/\V.cell? ⟨w.heap.size+1,1,none⟩=some (.slice (some ⟨b,off,none⟩) n1 c1)/\V.cell? ⟨w.heap.size+1,2,none⟩=some (.slice (some ⟨b2,off2,none⟩) n2 c2)/\V.cell? ⟨w.heap.size+1,3,none⟩=some (.slice a3 n3 c3)/\V.cell? ⟨w.heap.size+1+1,1,none⟩=some (.int .i64 r.b)/\V.cell? ⟨w.heap.size+1+1,2,none⟩=some (.int .i64 r.c) /\
  V.cell? ⟨b2,off2+j*5,none⟩=some (.int .i64 y.a)/\V.cell? ⟨b2,off2+j*5+1,none⟩=some (.int .i64 y.b)/\V.cell? ⟨b2,off2+j*5+2,none⟩=some (.int .i64 y.c)/\V.cell? ⟨b2,off2+j*5+3,none⟩=some (.int .i64 y.d)/\V.cell? ⟨b2,off2+j*5+4,none⟩=some (.int .i64 y.e))
  (first|with_reducible exact HKS.out _ (kept_set5 (by with_reducible assumption) (Nat.le_of_eq hza) _ _ _ _ _)|with_reducible exact HKS.out _ (kept_set5 (Kept.drew (by with_reducible assumption)) (Nat.le_of_eq hza) _ _ _ _ _)|with_reducible exact HKS.out _ (by with_reducible assumption)|with_reducible exact HKS.out _ (Kept.drew (by with_reducible assumption))|with_reducible exact HKS.out _ (Kept.alloc (by with_reducible assumption) _)|with_reducible exact HKS.out _ (Kept.alloc (Kept.drew (by with_reducible assumption)) _)|with_reducible exact HKS.out _ (Kept.drew (Kept.alloc (by with_reducible assumption) _)))
  (first
   | (go_at_call 28;refine (HFD.out _ (by first|exact k0|exact Kept.drew k0)).mono ?_;rintro e wa ⟨rfl,ka,hbe⟩)
   | (go_at_call 28;refine (HFD.out _ (by first|exact Kept.alloc k0 _|exact Kept.drew (Kept.alloc k0 _)|exact Kept.alloc (Kept.drew k0) _)).mono ?_;rintro e wa ⟨rfl,ka,hbe⟩;obtain ⟨⟨z0,z1,z2,z3,z4⟩,y0,y1,y2,y3,y4⟩:=HNEW.out wa (by first|exact ((zX _ _).drew).trans (hbe.mono (Nat.le_of_eq (by simp [hza])))|exact hbe.mono (Nat.le_of_eq (by simp [hza])))))
 all_goals
  have hHH:=‹Kept w3 _/\_›
  have HKK:=qz hHH.1
  by_cases h1:r.b=1
  · have HZ:=qz (HY1.out h1)
    have e1:(r.b==1)=true:=by simpa using h1
    clear h1 h12
    go_wp2_with fail
    go_ret2
    exact ⟨zau HZ.out,HB3.out.trans (Below.mono HKK.out HB3.out.size)⟩
  · have HZ:=qz (HY2.out h1)
    have e1:(r.b==1)=false:=by simpa using h1
    clear h1 h12
    go_wp2_with fail
    go_ret2
    exact ⟨zau HZ.out,HB3.out.trans (Below.mono HKK.out HB3.out.size)⟩
end Go.Proofs.YtknnnbpgkfaapaaGreat.Vm
