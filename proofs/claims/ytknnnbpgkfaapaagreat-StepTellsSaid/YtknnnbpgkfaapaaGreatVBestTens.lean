import Derived.Test.YtknnnbpgkfaapaaGreatQ
import Derived.Test.YtknnnbpgkfaapaaGreatVRefBests
import Derived.Test.YtknnnbpgkfaapaaGreatVStSames
import Derived.Test.YtknnnbpgkfaapaaGreatVFars
import Derived.Test.YtknnnbpgkfaapaaGreatVAppendZ
import Derived.Test.YtknnnbpgkfaapaaGreatVTraffic
import Derived.Test.YtknnnbpgkfaapaaGreatVCopies0
import Derived.Deep.RegionHeld3
import Derived.Laws.StructEq
import Derived.StillTailTactics
set_option maxRecDepth 100000
set_option linter.unusedSimpArgs false
set_option linter.unusedVariables false
namespace Go.Proofs.YtknnnbpgkfaapaaGreat.Vm
open Go Go.RowKit
def readyB (r:Rec):Bool:=decide (r.b=0/\100<=r.d)
def readyR (r:Rec):Rec:=⟨r.a,0,r.c,max r.d 100,r.e⟩
abbrev recO (r:Rec):Obj:=.cells #[.int .i64 r.a,.int .i64 r.b,.int .i64 r.c,.int .i64 r.d,.int .i64 r.e] 46
set_option maxHeartbeats 400000 in
theorem ready_any (r:Rec)(w:World) :
 Calls Tryz.prog 88 #[recV r] w fun e w'=>e=.returned (recV (readyR r))/\Below w.heap.size w w':=by
 obtain ⟨a,b,c,d,m⟩:=r
 go_enter Tryz.func88,Tryz.ntmps88
 go_wp2_with fail
 all_goals
  first
   | exact bodyPost_ret (v:=recV ⟨a,0,c,d,m⟩) (by simp [results,Tryz.results88,go_sem]) rfl ⟨by rw [readyR,show max d 100=d by omega],((zX _ _).alloc (zL _) _).alloc (by simp) _⟩
   | exact bodyPost_ret (v:=recV ⟨a,0,c,100,m⟩) (by simp [results,Tryz.results88,go_sem]) rfl ⟨by rw [readyR,show max d 100=100 by omega],((zX _ _).alloc (zL _) _).alloc (by simp) _⟩
set_option maxHeartbeats 800000 in
theorem isReady_any (r:Rec)(w:World) :
 Calls Tryz.prog 61 #[recV r] w fun e w'=>e=.returned (.bool (readyB r))/\Below w.heap.size w w':=by
 obtain ⟨V1,hV1⟩:∃ V1,V1=w.alloc (recO r):=⟨_,rfl⟩
 have hb1:Below w.heap.size w V1:=by rw [hV1];exact (zX _ _).alloc (zL _) _
 have hz1:V1.heap.size=w.heap.size+1:=by rw [hV1];simp
 have k0:V1.cell? ⟨w.heap.size,0,none⟩=some (.int .i64 r.a):=by rw [hV1];simp
 have k1:V1.cell? ⟨w.heap.size,1,none⟩=some (.int .i64 r.b):=by rw [hV1];simp
 have k2:V1.cell? ⟨w.heap.size,2,none⟩=some (.int .i64 r.c):=by rw [hV1];simp
 have k3:V1.cell? ⟨w.heap.size,3,none⟩=some (.int .i64 r.d):=by rw [hV1];simp
 have k4:V1.cell? ⟨w.heap.size,4,none⟩=some (.int .i64 r.e):=by rw [hV1];simp
 have HKS:Hid (∀ V,Kept V1 V->(Kept V1 V/\V.cell? ⟨w.heap.size,0,none⟩=some (.int .i64 r.a)/\V.cell? ⟨w.heap.size,1,none⟩=some (.int .i64 r.b)/\V.cell? ⟨w.heap.size,2,none⟩=some (.int .i64 r.c)/\V.cell? ⟨w.heap.size,3,none⟩=some (.int .i64 r.d)/\V.cell? ⟨w.heap.size,4,none⟩=some (.int .i64 r.e))):=fun V hV =>
  ⟨hV,(Below.cell hV (p:=⟨w.heap.size,0,none⟩) (show w.heap.size<V1.heap.size by omega)).trans k0,(Below.cell hV (p:=⟨w.heap.size,1,none⟩) (show w.heap.size<V1.heap.size by omega)).trans k1,(Below.cell hV (p:=⟨w.heap.size,2,none⟩) (show w.heap.size<V1.heap.size by omega)).trans k2,(Below.cell hV (p:=⟨w.heap.size,3,none⟩) (show w.heap.size<V1.heap.size by omega)).trans k3,(Below.cell hV (p:=⟨w.heap.size,4,none⟩) (show w.heap.size<V1.heap.size by omega)).trans k4⟩
 have HRC:Hid (∀ V,Kept V1 V->Calls Tryz.prog 88 #[recV r] V fun e V'=>e=.returned (recV (readyR r))/\Kept V1 V'):=fun V hV =>
  (ready_any r V).mono fun e V' ⟨he,hb⟩=>⟨he,Below.trans hV (hb.mono (Below.size hV))⟩
 have HB1:=qz hb1
 have HV1:=qz hV1
 have kk:Kept V1 V1:=Kept.refl _
 obtain ⟨a,b,c,d,m⟩:=r
 simp only [readyR] at HKS HRC k0 k1 k2 k3 k4
 have s1:(a==a)=true:=by simp
 have s3:(c==c)=true:=by simp
 have s5:(m==m)=true:=by simp
 by_cases h1:b=0
 · subst h1
   by_cases h2:100<=d
   · have HE:Hid (readyB ⟨a,0,c,d,m⟩=true):=decide_eq_true ⟨rfl,h2⟩
     rw [show max d 100=d by omega] at HRC
     have s4:(d==d)=true:=by simp
     clear hb1 hV1 k0 k1 k2 k3 k4 hz1 h2
     go_enter Tryz.func61,Tryz.ntmps61
     go_wp2_with fail
     rw [<- HV1.out]
     go_region_held3 (fun V=>Kept V1 V/\V.cell? ⟨w.heap.size,0,none⟩=some (.int .i64 a)/\V.cell? ⟨w.heap.size,1,none⟩=some (.int .i64 0)/\V.cell? ⟨w.heap.size,2,none⟩=some (.int .i64 c)/\V.cell? ⟨w.heap.size,3,none⟩=some (.int .i64 d)/\V.cell? ⟨w.heap.size,4,none⟩=some (.int .i64 m))
      (first|exact HKS.out _ (by assumption)|exact HKS.out _ (Kept.drew (by assumption)))
      (first|(go_at_call 88;refine (HRC.out _ (by first|exact kk|exact Kept.drew kk)).mono ?_;rintro e wb ⟨rfl,kb⟩))
     have HBW:Hid (Below w.heap.size w wb):=HB1.out.trans (Below.mono kb HB1.out.size)
     clear kb kk
     go_wp2_with fail
     go_ret
     exact ⟨zad HE.out.symm,HBW.out⟩
   · have HE:Hid (readyB ⟨a,0,c,d,m⟩=false):=decide_eq_false fun h=>h2 h.2
     rw [show max d 100=100 by omega] at HRC
     have s4:(d==100)=false:=by rw [beq_eq_false_iff_ne];omega
     clear hb1 hV1 k0 k1 k2 k3 k4 hz1 h2
     go_enter Tryz.func61,Tryz.ntmps61
     go_wp2_with fail
     rw [<- HV1.out]
     go_region_held3 (fun V=>Kept V1 V/\V.cell? ⟨w.heap.size,0,none⟩=some (.int .i64 a)/\V.cell? ⟨w.heap.size,1,none⟩=some (.int .i64 0)/\V.cell? ⟨w.heap.size,2,none⟩=some (.int .i64 c)/\V.cell? ⟨w.heap.size,3,none⟩=some (.int .i64 d)/\V.cell? ⟨w.heap.size,4,none⟩=some (.int .i64 m))
      (first|exact HKS.out _ (by assumption)|exact HKS.out _ (Kept.drew (by assumption)))
      (first|(go_at_call 88;refine (HRC.out _ (by first|exact kk|exact Kept.drew kk)).mono ?_;rintro e wb ⟨rfl,kb⟩))
     have HBW:Hid (Below w.heap.size w wb):=HB1.out.trans (Below.mono kb HB1.out.size)
     clear kb kk
     go_wp2_with fail
     go_ret
     exact ⟨zad HE.out.symm,HBW.out⟩
 · have HE:Hid (readyB ⟨a,b,c,d,m⟩=false):=decide_eq_false fun h=>h1 h.1
   obtain ⟨mx,hmx⟩:∃ mx,max d 100=mx:=⟨_,rfl⟩
   rw [hmx] at HRC
   have s2:(b==0)=false:=by rw [beq_eq_false_iff_ne];exact h1
   clear hb1 hV1 k0 k1 k2 k3 k4 hz1 h1 hmx
   go_enter Tryz.func61,Tryz.ntmps61
   go_wp2_with fail
   rw [<- HV1.out]
   go_region_held3 (fun V=>Kept V1 V/\V.cell? ⟨w.heap.size,0,none⟩=some (.int .i64 a)/\V.cell? ⟨w.heap.size,1,none⟩=some (.int .i64 b)/\V.cell? ⟨w.heap.size,2,none⟩=some (.int .i64 c)/\V.cell? ⟨w.heap.size,3,none⟩=some (.int .i64 d)/\V.cell? ⟨w.heap.size,4,none⟩=some (.int .i64 m))
    (first|exact HKS.out _ (by assumption)|exact HKS.out _ (Kept.drew (by assumption)))
    (first|(go_at_call 88;refine (HRC.out _ (by first|exact kk|exact Kept.drew kk)).mono ?_;rintro e wb ⟨rfl,kb⟩))
   have HBW:Hid (Below w.heap.size w wb):=HB1.out.trans (Below.mono kb HB1.out.size)
   clear kb kk
   go_wp2_with fail
   go_ret
   exact ⟨zad HE.out.symm,HBW.out⟩
set_option maxHeartbeats 400000 in
theorem indexReady_any (a:Option Addr)(n c B:Nat)(rs:List Rec)(w:World)(hin:RowR w B a n c rs)(hB:B<=w.heap.size) :
 Calls Tryz.prog 115 #[.slice a n c,.func (.func 61) #[] #[]] w fun e w'=>(∃ i:Int,e=.returned (.int .i64 i)/\(0<=i ↔ ∃ k,k<n/\readyB (rs.getD k zr)=true))/\Below w.heap.size w w':=by
 have hm2:=hin.len
 unfold maxLen at hm2
 have HC:=qz hin.cells
 clear hin
 go_enter Tryz.func115,Tryz.ntmps115
 go_wp2_with fail
 go_loopw [8] (fun i wr=>∃ k:Nat,k<=n/\i=.int .i64 k/\Below w.heap.size w wr/\Hid (∀ j,j<k->¬ readyB (rs.getD j zr)=true)) (fun i _=>n-(intOf i).toNat)
 case atStart=>exact ⟨0,Nat.zero_le _,rfl,zX _ _,fun j hj=>absurd hj (Nat.not_lt_zero _)⟩
 case round =>
  obtain ⟨k,hk,rfl,hbel,HA⟩:=hrel
  by_cases hlt:k<n
  · obtain ⟨b1,off,rfl,hb,hcs⟩:=HC.out (by omega)
    have hcell:=(hcs k hlt).below hbel (by omega)
    obtain ⟨x,hx⟩:∃ x,rs.getD k zr=x:=⟨_,rfl⟩
    rw [hx] at hcell
    have HX:=qz hx
    obtain ⟨p1,p2,p3,p4,p5⟩:=hcell
    have HCALL:=qz (isReady_any x wr)
    generalize hq:readyB x=q at HCALL
    have HQ:=qz hq
    clear hcs hx hq
    cases q with
    | true =>
      go_wp2_with fail
      refine HCALL.out.mono ?_
      rintro e w1 ⟨rfl,hv1⟩
      have hb1:=hbel.trans (hv1.mono hbel.size)
      go_wp2_with fail
      go_ret
      exact ⟨⟨_,rfl,⟨fun _=>⟨k,hlt,by rw [HX.out];exact HQ.out⟩,fun _=>by omega⟩⟩,hb1⟩
    | false =>
      go_wp2_with fail
      refine HCALL.out.mono ?_
      rintro e w1 ⟨rfl,hv1⟩
      have hb1:=hbel.trans (hv1.mono hbel.size)
      go_wp2_with fail
      go_roundw
      case rel=>exact ⟨k+1,by omega,by go_num,hb1,upto_more HA.out (by rw [HX.out,HQ.out];simp)⟩
      case measure=>simp [intOf];omega
  · have hkn:k=n:=by omega
    rw [hkn] at HA
    go_wp2_with fail
    go_ret
    exact ⟨⟨_,rfl,⟨fun h=>absurd h (by decide),fun ⟨j,hj,h⟩=>absurd h (HA.out j hj)⟩⟩,hbel⟩
set_option maxHeartbeats 400000 in
theorem containsReady_any (a:Option Addr)(n c B:Nat)(rs:List Rec)(w:World)(hin:RowR w B a n c rs)(hB:B<=w.heap.size) :
 Calls Tryz.prog 85 #[.slice a n c,.func (.func 61) #[] #[]] w fun e w'=>(∃ q:Bool,e=.returned (.bool q)/\(q=true ↔ ∃ k,k<n/\readyB (rs.getD k zr)=true))/\Below w.heap.size w w':=by
 have HC:=qz (indexReady_any a n c B rs w hin hB)
 clear hin
 go_enter Tryz.func85,Tryz.ntmps85
 go_wp2_with fail
 refine HC.out.mono ?_
 rintro e w1 ⟨⟨i,rfl,hi⟩,hb1⟩
 have HI:=qz hi
 have HB1:=qz hb1
 clear hi hb1
 by_cases h0:0<=i
 · have e1:decide (i>=0)=true:=by rw [decide_eq_true_eq];exact h0
   go_wp2_with fail
   go_ret
   exact ⟨⟨_,rfl,⟨fun _=>HI.out.1 h0,fun _=>rfl⟩⟩,HB1.out⟩
 · have e1:decide (i>=0)=false:=by rw [decide_eq_false_iff_not];exact h0
   go_wp2_with fail
   go_ret
   exact ⟨⟨_,rfl,⟨fun h=>by simp at h,fun h=>absurd (HI.out.2 h) (by omega)⟩⟩,HB1.out⟩
def WaitP (ts:List Rec)(x:Int):Prop:=0<=x/\x<(ts.length:Int)/\(ts.getD x.toNat zr).d=1
set_option maxHeartbeats 400000 in
theorem isWaiting_any (a:Option Addr)(n c B:Nat)(ts:List Rec)(x:Int)(w:World)(hin:RowR w B a n c ts)(hB:B<=w.heap.size) :
 Calls Tryz.prog 84 #[.slice a n c,.int .i64 x] w fun e w'=>e=.returned (.bool (yes (WaitP ts x)))/\Below w.heap.size w w':=by
 have hl:ts.length=n:=hin.1
 by_cases h0:0<=x
 · obtain ⟨k,rfl⟩:=Int.eq_ofNat_of_zero_le h0
   have e1:decide ((k:Int)>=0)=true:=by rw [decide_eq_true_eq];exact h0
   by_cases h1:k<n
   · have e2:(k:Int)<(n:Int):=by omega
     obtain ⟨b,off,rfl,hb,hcs⟩:=hin.cells (by omega)
     have f4:=(hcs k h1).2.2.2.1
     by_cases h2:(ts.getD k zr).d=1
     · have HE:Hid (yes (WaitP ts (k:Int))=true):=zby ⟨h0,by omega,by rw [Int.toNat_natCast];exact h2⟩
       rw [h2] at f4
       clear hcs hl
       go_enter Tryz.func84,Tryz.ntmps84
       go_wp2_with fail
       go_ret
       exact ⟨zad HE.out.symm,zX _ _⟩
     · have HE:Hid (yes (WaitP ts (k:Int))=false):=zal fun h=>h2 (by have:=h.2.2;rwa [Int.toNat_natCast] at this)
       generalize (ts.getD k zr).d=d at f4 h2
       have e3:(d==1)=false:=by simpa using h2
       clear hcs hl
       go_enter Tryz.func84,Tryz.ntmps84
       go_wp2_with fail
       go_ret
       exact ⟨zad HE.out.symm,zX _ _⟩
   · have HE:Hid (yes (WaitP ts (k:Int))=false):=zal fun h=>h1 (by have:=h.2.1;omega)
     have e2:decide ((k:Int)<(n:Int))=false:=by rw [decide_eq_false_iff_not];omega
     clear hl
     go_enter Tryz.func84,Tryz.ntmps84
     go_wp2_with fail
     go_ret
     exact ⟨zad HE.out.symm,zX _ _⟩
 · have HE:Hid (yes (WaitP ts x)=false):=zal fun h=>h0 h.1
   have e1:decide (x>=0)=false:=by rw [decide_eq_false_iff_not];exact h0
   clear hl
   go_enter Tryz.func84,Tryz.ntmps84
   go_wp2_with fail
   go_ret
   exact ⟨zad HE.out.symm,zX _ _⟩
end Go.Proofs.YtknnnbpgkfaapaaGreat.Vm
namespace Go.Proofs.YtknnnbpgkfaapaaGreat.Vm
open Go Go.RowKit
def DistL (W H:Int)(l:List Nat)(s:St)(to:Int)(L:List Int):Prop:=L.length=s.rs.length/\∀ k,k<s.rs.length->L.getD k 0=farG W H l s.bl (s.rs.getD k zr).a to
theorem getD_setZ {L:List Int}{k j:Nat}{x:Int}(hk:k<L.length):(L.set k x).getD j 0=if j=k then x else L.getD j 0:=by
 by_cases e:j=k
 · subst e;simp [List.getD,hk]
 · rw [if_neg e];simp [List.getD,List.getElem?_set_ne (fun h=>e h.symm)]
set_option maxHeartbeats 2000000 in
theorem distances_any (W H:Int)(g:ByteArray)(h:Sh)(s:St)(to:Int)(B:Nat)(w:World)(hok:Okay W H g)(hin:StIn w B h s)(hB:B<=w.heap.size)(hrp:RightP (zac (zaa g)) s)(hto:zac (zaa g) to=true)(hn3:h.n3<=1000000) :
 Calls Tryz.prog 60 #[zam W H g,shV h,.int .i64 to] w fun e w' =>
  (∃ lb L,e=.returned (.slice (some ⟨lb,0,none⟩) h.n1 h.n1)/\NumsZ w' w.heap.size lb L/\DistL W H (zaa g) s to L)/\Below w.heap.size w w':=by
 obtain ⟨w2,hw2,hB2,hz2,hg2,hs2⟩:=zbv w W H g h
 have hti:=zaq hto
 obtain ⟨t,rfl⟩:=Int.eq_ofNat_of_zero_le hti.1
 have hin2:=hin.below (hB2.mono hB)
 have hwf:∀ z∈s.bl,(Lit.int .i64 z).wf=true:=fun z hz=>by
  obtain ⟨i,hi,rfl⟩:=List.getElem_of_mem hz
  have h1:=(hrp.shut i hi).1
  rw [show s.bl.getD i 0=s.bl[i] by simp [List.getD,hi]] at h1
  have h2:=zaq h1
  have:=hok.le
  rw [zag] at h2
  exact WalkArith.wf_i64 (by omega)
 have HFY:=qz (field_yes W H t g s.bl h.a3 h.n3 h.c3 B w2 hok hto hin2.bl (Nat.le_trans hB hB2.size) hwf hn3)
 have hrl:s.rs.length=h.n1:=hin.rs.1
 have hrn:=hrp.rn
 have HFL:Hid (∀ k,k<s.rs.length->∃ c:Nat,(s.rs.getD k zr).a=(c:Int)/\c<g.size/\∀ l:List Int,IsField (zav W H (zaa g) s.bl) t g.size l->l.getD c 0=farG W H (zaa g) s.bl (s.rs.getD k zr).a (t:Nat)):=fun k hk=>by
  have h1:=(hrp.rest k hk).1
  have h2:=zaq h1
  rw [zag] at h2
  obtain ⟨c,hc⟩:=Int.eq_ofNat_of_zero_le h2.1
  have hc:(s.rs.getD k zr).a=(c:Int):=hc
  refine ⟨c,hc,by omega,fun l hl=>?_⟩
  rw [hl.at (by omega)]
  unfold farG
  rw [if_pos ⟨h1,hto⟩,hc,Int.toNat_natCast,Int.toNat_natCast]
 have HIN:=qz hin
 have HB2:=qz hB2
 have HS2:=qz hs2
 have HW2:=qz hw2
 obtain ⟨s0,s1,s2,s3⟩:=hs2
 obtain ⟨g0,g1,g2⟩:=hg2
 obtain ⟨t',a1,n1,c1,a2,n2,c2,a3,n3,c3⟩:=h
 simp only [] at s0 s1 s2 s3 hrl HFY
 rw [hw2] at s0 s1 s2 s3 g0 g1 g2
 have hsB:B<=w.heap.size:=hB
 clear hw2 hB2 hin hin2 hrp hto hti hwf hok hn3 hB
 go_enter Tryz.func60,Tryz.ntmps60
 go_wp2_with fail
 rw [<- HW2.out]
 refine HFY.out.mono ?_
 rintro e w3 ⟨lb,l,rfl,hfd,hnum,hb3⟩
 have HFD:=qz hfd
 have hll:l.length=g.size:=hfd.1
 have hlb:=hnum.base
 have HNU:=qz hnum
 have HB3:=qz (HB2.out.trans (hb3.mono HB2.out.size))
 have HK3:=qz hb3
 have hz3:w.heap.size+2<=w3.heap.size:=by have:=hb3.size;omega
 obtain ⟨x0,x1,x2,x3⟩:=HS2.out.below hb3 (by omega)
 simp only [] at x0 x1 x2 x3
 have hmk:=make_ints w3 n1 (by omega)
 obtain ⟨w4,hw4⟩:∃ w4,w4=w3.alloc (.cells ⟨zan (List.replicate n1 0)⟩ 3):=⟨_,rfl⟩
 have HM4:Hid (NumsZ w4 w3.heap.size w3.heap.size (List.replicate n1 0)):=by unfold Hid;rw [hw4];exact numsZ_made w3 n1 (by omega)
 have HB4:Hid (Below w3.heap.size w3 w4):=by unfold Hid;rw [hw4];exact (zX _ _).alloc (zL _) _
 have HS4:Hid (StAt w4 (w.heap.size+1) ⟨t',a1,n1,c1,a2,n2,c2,a3,n3,c3⟩):=(HS2.out.below hb3 (by omega)).below HB4.out (by omega)
 have HW4:=qz hw4
 obtain ⟨y0,y1,y2,y3⟩:=HS4.out
 simp only [] at y0 y1 y2 y3
 rw [hw4] at y0 y1 y2 y3
 clear hfd hnum hb3 s0 s1 s2 s3 g0 g1 g2 hw4
 go_wp2_with fail
 rw [<- HW4.out]
 clear hmk x0 x1 x2 x3 y0 y1 y2 y3
 go_loopw [27] (fun i wr=>∃ (k:Nat) (L:List Int),k<=n1/\i=.int .i64 k/\Hid (NumsZ wr w3.heap.size w3.heap.size L)/\Hid (L.length=n1)/\Hid (∀ j,j<k->L.getD j 0=farG W H (zaa g) s.bl (s.rs.getD j zr).a (t:Nat))/\Hid (Below w3.heap.size w3 wr)) (fun i _=>n1-(intOf i).toNat)
 case atStart=>exact ⟨0,_,Nat.zero_le _,rfl,HM4,qz (by simp),qz (fun j hj=>absurd hj (Nat.not_lt_zero _)),HB4⟩
 case round =>
  obtain ⟨k,L,hk,rfl,HM,HLL,HL,HB⟩:=hrel
  have hsz:=HB.out.size
  by_cases hlt:k<n1
  · have hkn:(k:Int)<(n1:Int):=by omega
    obtain ⟨b,off,rfl,hb,hcs⟩:=(HIN.out.rs.below ((HB3.out.trans (HB.out.mono (by omega))).mono hsB)).cells (by show 0<n1;omega)
    obtain ⟨r0,r1,r2,r3,r4⟩:=hcs k hlt
    obtain ⟨c,hc,hcg,hcf⟩:=HFL.out k (by omega)
    have hfe:=hcf l HFD.out
    obtain ⟨N,hN⟩:∃ N,farG W H (zaa g) s.bl (s.rs.getD k zr).a (t:Nat)=N:=⟨_,rfl⟩
    rw [hN] at hfe
    have HLN:Hid (∀ j,j<k+1->((L.set k (-1)).set k N).getD j 0=farG W H (zaa g) s.bl (s.rs.getD j zr).a (t:Nat)):=fun j hj=>by
     rw [getD_setZ (by rw [List.length_set,HLL.out];exact hlt)]
     by_cases e:j=k
     · rw [if_pos e,e,hN]
     · rw [if_neg e,getD_setZ (by rw [HLL.out];exact hlt),if_neg e]
       exact HL.out j (by omega)
    generalize hr:s.rs.getD k zr=r at r0 r1 r2 r3 r4 hc
    obtain ⟨ra,rb,rc,rd,re⟩:=r
    simp only [] at r0 r1 r2 r3 r4 hc
    subst hc
    have e1:decide ((c:Int)>=0)=true:=by rw [decide_eq_true_eq];omega
    have e2:(c:Int)<(g.size:Int):=by omega
    have hcl:=(HB.out.cell (p:=⟨lb,c,none⟩) hlb.2).trans (HNU.out.cell (i:=c) (by omega))
    have hmc:=HM.out.cell (i:=k) (by rw [HLL.out];exact hlt)
    have hmf:=HM.out.frozen k
    have hlb2:lb<wr.heap.size:=by omega
    have hw3r:w3.heap.size<wr.heap.size:=HM.out.base.2
    have hne:lb≠w3.heap.size:=by omega
    have HM2:=qz (((HM.out.set k (-1)).set k N).alloc (.cells #[.int .i64 (c:Nat),.int .i64 rb,.int .i64 rc,.int .i64 rd,.int .i64 re] 46))
    have HL2:Hid (((L.set k (-1)).set k N).length=n1):=by unfold Hid;rw [List.length_set,List.length_set];exact HLL.out
    have hbs:=(HB.out.setCell (p:=⟨w3.heap.size,k,none⟩) (zL _) (.int .i64 (-1))).setCell (p:=⟨w3.heap.size,k,none⟩) (zL _) (.int .i64 N)
    have HB2':=qz (hbs.alloc hbs.size (.cells #[.int .i64 (c:Nat),.int .i64 rb,.int .i64 rc,.int .i64 rd,.int .i64 re] 46))
    rw [hfe] at hcl
    clear hcs hfe hcf hr hbs hN
    go_wp2_with fail
    go_roundw
    case rel=>exact ⟨k+1,_,by omega,by go_num,HM2,HL2,HLN,HB2'⟩
    case measure=>simp [intOf];omega
  · obtain rfl:k=n1:=by omega
    have HBE:=qz (HB3.out.trans (HB.out.mono (by omega)))
    have hme:=HM.out
    go_wp2_with fail
    go_ret
    exact ⟨⟨_,L,rfl,NumsZ.mono HM.out (by omega),by rw [HLL.out];exact hrl.symm,fun j hj=>HL.out j (by omega)⟩,HBE.out⟩
theorem Alt.rowR {S:Nat->Prop}{A V:World}{B:Nat}{a:Option Addr}{n c:Nat}{rs:List Rec}(h:Alt S A V)(hS:∀ k,S k->MapAt A k)(hr:RowR A B a n c rs):RowR V B a n c rs :=
 ⟨hr.1,hr.2.1,hr.2.2.1,fun hn=>by
  obtain ⟨b,off,e,hb,hc⟩:=hr.2.2.2 hn
  exact ⟨b,off,e,hb,fun i hi=>⟨h.keep hS (hc i hi).1,h.keep hS (hc i hi).2.1,h.keep hS (hc i hi).2.2.1,h.keep hS (hc i hi).2.2.2.1,h.keep hS (hc i hi).2.2.2.2⟩⟩⟩
theorem Alt.stIn {S:Nat->Prop}{A V:World}{B:Nat}{h:Sh}{s:St}(hA:Alt S A V)(hS:∀ k,S k->MapAt A k)(hs:StIn A B h s):StIn V B h s:=⟨hs.tick,hA.rowR hS hs.rs,hA.rowR hS hs.ts,hA.rowZ hS hs.bl⟩
theorem MapAt.keep {A V:World}{B k:Nat}(h:MapAt A k)(hb:Below B A V)(hk:k<B):MapAt V k:=by
 obtain ⟨es,clock,e⟩:=h
 exact ⟨es,clock,(hb.block k hk).trans e⟩
def updB (p q i n:Int):Int × Int:=if n≠-1/\(p=-1\/n<q) then (i,n) else (p,q)
set_option maxHeartbeats 400000 in
theorem consider_any (b7 b8:Nat)(p q i n:Int)(w:World)(h7:w.cell? ⟨b7,0,none⟩=some (.int .i64 p))(h8:w.cell? ⟨b8,0,none⟩=some (.int .i64 q))(f7:w.frozen? ⟨b7,0,none⟩=false)(f8:w.frozen? ⟨b8,0,none⟩=false)(hne:b8≠b7) :
 Calls Tryz.prog 86 #[.int .i64 i,.int .i64 n,.pointer (some ⟨b7,0,none⟩),.pointer (some ⟨b8,0,none⟩)] w fun e w'=>e=.returned (.tuple #[]) /\
  w'.cell? ⟨b7,0,none⟩=some (.int .i64 (updB p q i n).1)/\w'.cell? ⟨b8,0,none⟩=some (.int .i64 (updB p q i n).2)/\w'.frozen? ⟨b7,0,none⟩=false/\w'.frozen? ⟨b8,0,none⟩=false/\Alt (fun k=>k=b7\/k=b8) w w':=by
 have H7:=qz h7
 have H8:=qz h8
 have F7:=qz f7
 have F8:=qz f8
 have hne':b7≠b8:=fun h=>hne h.symm
 have HSET:Hid (updB p q i n=(i,n)->((w.setCell ⟨b7,0,none⟩ (.int .i64 i)).setCell ⟨b8,0,none⟩ (.int .i64 n)).cell? ⟨b7,0,none⟩=some (.int .i64 (updB p q i n).1)/\((w.setCell ⟨b7,0,none⟩ (.int .i64 i)).setCell ⟨b8,0,none⟩ (.int .i64 n)).cell? ⟨b8,0,none⟩=some (.int .i64 (updB p q i n).2)/\((w.setCell ⟨b7,0,none⟩ (.int .i64 i)).setCell ⟨b8,0,none⟩ (.int .i64 n)).frozen? ⟨b7,0,none⟩=false/\((w.setCell ⟨b7,0,none⟩ (.int .i64 i)).setCell ⟨b8,0,none⟩ (.int .i64 n)).frozen? ⟨b8,0,none⟩=false/\Alt (fun k=>k=b7\/k=b8) w ((w.setCell ⟨b7,0,none⟩ (.int .i64 i)).setCell ⟨b8,0,none⟩ (.int .i64 n))):=fun hu=>by
  rw [hu]
  refine ⟨by simp [go_sem,h7,h8,hne,hne'],by simp [go_sem,h7,h8,hne,hne'],by simp [f7,f8],by simp [f7,f8],?_⟩
  exact ((Alt.refl _ w).grown (zaj w b7 0 _) (fun _=>.inl rfl)).grown (zaj _ b8 0 _) (fun _=>.inr rfl)
 by_cases h1:n=-1
 · have e1:(n != -1)=false:=by simpa using h1
   have HU:Hid (updB p q i n=(p,q)):=if_neg fun h=>h.1 h1
   clear h1
   go_enter Tryz.func86,Tryz.ntmps86
   go_wp2_with fail
   go_end0
   rw [HU.out]
   exact ⟨rfl,H7.out,H8.out,F7.out,F8.out,Alt.refl _ _⟩
 · have e1:(n != -1)=true:=by rw [bne_iff_ne];exact h1
   by_cases h2:p=-1
   · have e2:(p==-1)=true:=by simpa using h2
     have HU:Hid (updB p q i n=(i,n)):=if_pos ⟨h1,.inl h2⟩
     clear h1 h2
     go_enter Tryz.func86,Tryz.ntmps86
     go_wp2_with fail
     go_end0
     exact ⟨rfl,HSET.out HU.out⟩
   · have e2:(p==-1)=false:=by simpa using h2
     by_cases h3:n<q
     · have e3:decide (n<q)=true:=decide_eq_true h3
       have HU:Hid (updB p q i n=(i,n)):=if_pos ⟨h1,.inr h3⟩
       clear h1 h2
       go_enter Tryz.func86,Tryz.ntmps86
       go_wp2_with fail
       go_end0
       exact ⟨rfl,HSET.out HU.out⟩
     · have e3:decide (n<q)=false:=decide_eq_false h3
       have HU:Hid (updB p q i n=(p,q)):=if_neg fun h=>h.2.elim h2 h3
       clear h1 h2
       go_enter Tryz.func86,Tryz.ntmps86
       go_wp2_with fail
       go_end0
       rw [HU.out]
       exact ⟨rfl,H7.out,H8.out,F7.out,F8.out,Alt.refl _ _⟩
theorem best_step {W H:Int}{l:List Nat}{s:St}{j k:Nat}{p q n:Int}(hp:p=(bestN W H l s j k).1)(hq:p=-1\/q=(bestN W H l s j k).2)(hn:n=farD W H l s j k)(hr:readyB (s.rs.getD k zr)=true) :
 (updB p q (k:Int) n).1=(bestN W H l s j (k+1)).1/\((updB p q (k:Int) n).1=-1\/(updB p q (k:Int) n).2=(bestN W H l s j (k+1)).2):=by
 have hr:=of_decide_eq_true hr
 have hge:-1<=n:=by rw [hn];exact farG_ge _ _ _ _ _ _
 have hp0:p=-1\/0<=p:=by
  rcases bestN_is (W:=W) (H:=H) (l:=l) (s:=s) j k with ⟨h1,_⟩|⟨m,_,h1,_⟩
  · exact .inl (by rw [hp,h1])
  · exact .inr (by rw [hp,h1];simp)
 unfold updB
 by_cases hc:n≠-1/\(p=-1\/n<q)
 · rw [if_pos hc,bestN_yes ⟨hr.1,hr.2,by rw [<- hn];omega⟩ (by
    rw [<- hp,<- hn]
    rcases hc.2 with h|h
    · exact .inl (by omega)
    · rcases hq with h2|h2
      · exact .inl (by omega)
      · exact .inr (by rw [<- h2];exact h))]
   exact ⟨rfl,.inr hn⟩
 · rw [if_neg hc,bestN_no (fun h=>hc ⟨by have:=h.1.2.2;rw [<- hn] at this;omega,by
    rw [<- hp,<- hn] at h
    rcases h.2 with h2|h2
    · exact .inl (by omega)
    · rcases hq with h3|h3
      · exact .inl h3
      · exact .inr (by rw [h3];exact h2)⟩)]
   exact ⟨hp,hq⟩
theorem best_same {W H:Int}{l:List Nat}{s:St}{j k:Nat}(hr:¬ readyB (s.rs.getD k zr)=true):bestN W H l s j (k+1)=bestN W H l s j k:=bestN_no fun h=>hr (decide_eq_true ⟨h.1.1,h.1.2.1⟩)
theorem best_none {W H:Int}{l:List Nat}{s:St}{x:Int}(hr:¬ ∃ k,k<s.rs.length/\readyB (s.rs.getD k zr)=true):bestG W H l s x=-1:=bestG_none fun _ k hk hf=>hr ⟨k,hk,decide_eq_true ⟨hf.1,hf.2.1⟩⟩
theorem best_idle {W H:Int}{l:List Nat}{s:St}{x:Int}(hr:¬ WaitP s.ts x):bestG W H l s x=-1:=if_neg hr
set_option maxHeartbeats 2000000 in
theorem best_any (W H:Int)(g:ByteArray)(h:Sh)(s:St)(x:Int)(B:Nat)(w:World)(hin:StIn w B h s)(hB:B<=w.heap.size)(hrp:RightP (zac (zaa g)) s)
 (fn:FuncId) (cb:Array Value) (hfn:∀ args w,(callFunc fn args).run Tryz.prog w=.ok (.enter fn args) w) (S:Nat->Prop) (hS1:∀ k,S k->k<w.heap.size) (hS2:∀ k,S k->MapAt w k) (FarR:World->World->Prop) (Fin:World->Prop)
 (hF:∀ V to,zac (zaa g) to=true->Below w.heap.size w V->Calls Tryz.prog fn (#[.int .i64 to]++cb) V fun e V'=>∃ ab L,e=.returned (.slice (some ⟨ab,0,none⟩) h.n1 h.n1)/\(ab<w.heap.size\/V.heap.size<=ab)/\(ab<V'.heap.size/\∀ i,i<h.n1->V'.cell? ⟨ab,i,none⟩=some (.int .i64 (L.getD i 0)))/\DistL W H (zaa g) s to L/\Alt S V V'/\FarR V V')
 (hFin0:∀ V,Below w.heap.size w V->Fin V)
 (hFin:∀ V V' V'',Below w.heap.size w V->FarR V V'->Alt (fun k=>w.heap.size<=k/\k<V.heap.size) V' V''->Fin V'') :
 Calls Tryz.prog 58 #[shV h,.int .i64 x,.func (.func fn) #[] cb] w fun e w'=>e=.returned (.int .i64 (bestG W H (zaa g) s x))/\Fin w':=by
 obtain ⟨w1,hw1⟩:∃ w1,w1=w.alloc (shO h):=⟨_,rfl⟩
 have hb1:Below w.heap.size w w1:=by rw [hw1];exact (zX _ _).alloc (zL _) _
 have hz1:w1.heap.size=w.heap.size+1:=by rw [hw1];simp
 have hx1:StAt w1 w.heap.size h:=by rw [hw1];exact zbo w h
 have hrl:s.rs.length=h.n1:=hin.rs.1
 have htl:s.ts.length=h.n2:=hin.ts.1
 have HIW:=qz (isWaiting_any h.a2 h.n2 h.c2 B s.ts x w1 (hin.ts.below (hb1.mono hB)) (Nat.le_trans hB hb1.size))
 have HCR:=qz fun V (hV:Below w.heap.size w V)=>containsReady_any h.a1 h.n1 h.c1 B s.rs V (hin.rs.below (hV.mono hB)) (Nat.le_trans hB hV.size)
 have HIN:=qz hin
 have HB1:=qz hb1
 have HX1:=qz hx1
 have HW1:=qz hw1
 have HF:=qz hF
 have HF0:=qz hFin0
 have HFI:=qz hFin
 have HS1:=qz hS1
 have HS2:=qz hS2
 have hsB:B<=w.heap.size:=hB
 have hrn:=hrp.rn
 have htn:=hrp.tn
 have HRP:=qz hrp
 obtain ⟨s0,s1,s2,s3⟩:=hx1
 obtain ⟨t',a1,n1,c1,a2,n2,c2,a3,n3,c3⟩:=h
 simp only [] at s0 s1 s2 s3 hrl htl HIW HCR HF
 rw [hw1] at s0 s1 s2 s3
 clear hw1 hb1 hin hB hF hFin0 hFin hS1 hS2 hrp
 by_cases hwt:WaitP s.ts x
 · rw [zby hwt] at HIW
   obtain ⟨hx0,hxn,hd⟩:=hwt
   obtain ⟨j,rfl⟩:=Int.eq_ofNat_of_zero_le hx0
   rw [Int.toNat_natCast] at hd
   have hjn:j<n2:=by omega
   have hjn2:(j:Int)<(n2:Int):=by omega
   have HE:Hid (bestG W H (zaa g) s (j:Int)=(bestN W H (zaa g) s j n1).1):=by unfold Hid;rw [<- hrl];exact bestG_at (by omega) hd
   clear hx0 hxn hd
   go_enter Tryz.func58,Tryz.ntmps58
   go_wp2_with fail
   rw [<- HW1.out]
   refine HIW.out.mono ?_
   rintro e w2 ⟨rfl,hb2⟩
   have HB2:=qz (HB1.out.trans (hb2.mono HB1.out.size))
   obtain ⟨x0,x1,x2,x3⟩:=HX1.out.below hb2 (by omega)
   simp only [] at x0 x1 x2 x3
   clear s0 s1 s2 s3
   go_wp2_with fail
   refine (HCR.out w2 HB2.out).mono ?_
   rintro e w3 ⟨⟨q,rfl,hq⟩,hb3⟩
   have HB3:=qz (HB2.out.trans (hb3.mono HB2.out.size))
   have HX3:=qz ((HX1.out.below hb2 (by omega)).below hb3 (by have:=hb2.size;omega))
   have HQ:=qz hq
   have hz3:w.heap.size+1<=w3.heap.size:=by have:=hb2.size;have:=hb3.size;omega
   clear hb2 hb3 x0 x1 x2 x3 hq
   cases q with
   | false =>
     have HN:Hid (bestG W H (zaa g) s (j:Int)=-1):=best_none fun ⟨k,hk,h⟩=>by have:=HQ.out.2 ⟨k,by omega,h⟩;cases this
     go_wp2_with fail
     go_ret
     exact ⟨by rw [HN.out];rfl,HF0.out _ HB3.out⟩
   | true =>
     obtain ⟨w4,hw4⟩:∃ w4,w4=(w3.alloc (.cells #[.int .i64 (-1)] 3)).alloc (.cells #[.int .i64 (-1)] 3):=⟨_,rfl⟩
     have hb4:Below w3.heap.size w3 w4:=by rw [hw4];exact ((zX _ _).alloc (zL _) _).alloc (by simp) _
     have hz4:w4.heap.size=w3.heap.size+2:=by rw [hw4];simp
     have h7:w4.cell? ⟨w3.heap.size,0,none⟩=some (.int .i64 (-1)):=by rw [hw4];simp
     have h8:w4.cell? ⟨w3.heap.size+1,0,none⟩=some (.int .i64 (-1)):=by rw [hw4];simp
     have f7:w4.frozen? ⟨w3.heap.size,0,none⟩=false:=by rw [hw4];simp
     have f8:w4.frozen? ⟨w3.heap.size+1,0,none⟩=false:=by rw [hw4];simp
     have HB4:=qz (HB3.out.trans (hb4.mono HB3.out.size))
     have HX4:=qz (HX3.out.below hb4 (by omega))
     obtain ⟨y0,y1,y2,y3⟩:=HX4.out
     obtain ⟨b2,o2,rfl,hbb2,hcs2⟩:=(HIN.out.ts.below (HB4.out.mono hsB)).cells (by show 0<n2;omega)
     have hfr:=(hcs2 j hjn).2.1
     have hfl:=(HRP.out.job j (by omega)).2.2.2.1
     have HFA:=qz (HF.out w4 _ hfl HB4.out)
     have HFD:Hid (∀ L:List Int,DistL W H (zaa g) s (s.ts.getD j zr).b L->L.length=n1/\∀ k,k<n1->L.getD k 0=farD W H (zaa g) s j k):=fun L hL=>⟨by rw [hL.1];exact hrl,fun k hk=>hL.2 k (by omega)⟩
     generalize (s.ts.getD j zr).b=from_ at hfr HFA HFD
     have HW4:=qz hw4
     have H7:=qz h7
     have H8:=qz h8
     have F7:=qz f7
     have F8:=qz f8
     simp only [] at y0 y1 y2 y3
     rw [hw4] at y0 y1 y2 y3 hfr
     clear hcs2 hfl h7 h8 f7 f8 hb4 hw4
     go_wp2_with fail
     rw [<- HW4.out]
     refine HFA.out.mono ?_
     rintro e w5 ⟨ab,L,rfl,hab,⟨hlab,hLc⟩,hdl,hA5,hfr5⟩
     obtain ⟨hLl,hLf⟩:=HFD.out L hdl
     have hS4:∀ k,S k->MapAt w4 k:=fun k hk=>(HS2.out k hk).keep HB4.out (HS1.out k hk)
     have HIN5:=qz (hA5.stIn hS4 (HIN.out.below (HB4.out.mono hsB)))
     have hz5:=hA5.size
     have hno:∀ b,w.heap.size<=b->¬ S b:=fun b hb h=>by have:=HS1.out b h;omega
     have HX5:Hid (StAt w5 w.heap.size ⟨t',a1,n1,c1,some ⟨b2,o2,none⟩,n2,c2,a3,n3,c3⟩) :=
      ⟨(hA5.cell (p:=⟨w.heap.size,0,none⟩) (show w.heap.size<w4.heap.size by omega) (hno _ (zL _))).trans HX4.out.1,(hA5.cell (p:=⟨w.heap.size,1,none⟩) (show w.heap.size<w4.heap.size by omega) (hno _ (zL _))).trans HX4.out.2.1,(hA5.cell (p:=⟨w.heap.size,2,none⟩) (show w.heap.size<w4.heap.size by omega) (hno _ (zL _))).trans HX4.out.2.2.1,(hA5.cell (p:=⟨w.heap.size,3,none⟩) (show w.heap.size<w4.heap.size by omega) (hno _ (zL _))).trans HX4.out.2.2.2⟩
     have H75:=qz ((hA5.cell (p:=⟨w3.heap.size,0,none⟩) (show w3.heap.size<w4.heap.size by omega) (hno _ (show w.heap.size<=w3.heap.size by omega))).trans H7.out)
     have H85:=qz ((hA5.cell (p:=⟨w3.heap.size+1,0,none⟩) (show w3.heap.size+1<w4.heap.size by omega) (hno _ (show w.heap.size<=w3.heap.size+1 by omega))).trans H8.out)
     have F75:=qz ((hA5.frozen (p:=⟨w3.heap.size,0,none⟩) (show w3.heap.size<w4.heap.size by omega) (hno _ (show w.heap.size<=w3.heap.size by omega))).trans F7.out)
     have F85:=qz ((hA5.frozen (p:=⟨w3.heap.size+1,0,none⟩) (show w3.heap.size+1<w4.heap.size by omega) (hno _ (show w.heap.size<=w3.heap.size+1 by omega))).trans F8.out)
     have HLV:Hid (∀ V,Alt (fun k=>k=w3.heap.size\/k=w3.heap.size+1) w5 V->∀ i,i<n1->V.cell? ⟨ab,i,none⟩=some (.int .i64 (L.getD i 0))):=fun V hV i hi=>(hV.cell (p:=⟨ab,i,none⟩) hlab (fun h=>by have h:ab=w3.heap.size\/ab=w3.heap.size+1:=h;omega)).trans (hLc i hi)
     have HVB:Hid (∀ V,Alt (fun k=>k=w3.heap.size\/k=w3.heap.size+1) w5 V->Below w3.heap.size w5 V):=fun V hV=>hV.below (fun k hk=>by have hk:k=w3.heap.size\/k=w3.heap.size+1:=hk;omega) (by omega)
     have HLF:=qz hLf
     have HFR:=qz hfr5
     obtain ⟨z0,z1,z2,z3⟩:=HX5.out
     simp only [] at z0 z1 z2 z3
     clear hab hLc hdl hA5 hfr5 hS4 hno y0 y1 y2 y3 hfr hLf HFA HFD
     go_wp2_with fail
     clear z0 z1 z2 z3
     go_loopw [36] (fun i wr=>∃ (k:Nat) (p q:Int),k<=n1/\i=.int .i64 k/\Hid (p=(bestN W H (zaa g) s j k).1/\(p=-1\/q=(bestN W H (zaa g) s j k).2))/\Hid (wr.cell? ⟨w3.heap.size,0,none⟩=some (.int .i64 p))/\Hid (wr.cell? ⟨w3.heap.size+1,0,none⟩=some (.int .i64 q))/\Hid (wr.frozen? ⟨w3.heap.size,0,none⟩=false)/\Hid (wr.frozen? ⟨w3.heap.size+1,0,none⟩=false)/\Hid (Alt (fun k=>k=w3.heap.size\/k=w3.heap.size+1) w5 wr)) (fun i _=>n1-(intOf i).toNat)
     case atStart=>exact ⟨0,-1,-1,Nat.zero_le _,rfl,⟨rfl,.inl rfl⟩,H75,H85,F75,F85,Alt.refl _ _⟩
     case round =>
      obtain ⟨k,p,q,hk,rfl,HP,HC7,HC8,HF7,HF8,HA⟩:=hrel
      have hsz:=HA.out.size
      by_cases hlt:k<n1
      · have hkn:(k:Int)<(n1:Int):=by omega
        obtain ⟨b1,o1,rfl,hbb1,hcs1⟩:=(HIN5.out.rs.below ((HVB.out wr HA.out).mono (by omega))).cells (by show 0<n1;omega)
        obtain ⟨r0,r1,r2,r3,r4⟩:=hcs1 k hlt
        obtain ⟨r,hr⟩:∃ r,s.rs.getD k zr=r:=⟨_,rfl⟩
        rw [hr] at r0 r1 r2 r3 r4
        obtain ⟨V1,hV1⟩:∃ V1,V1=wr.alloc (recO r):=⟨_,rfl⟩
        have hv1:Below wr.heap.size wr V1:=by rw [hV1];exact (zX _ _).alloc (zL _) _
        have HRD:=qz (isReady_any r V1)
        have HST:=qz (fun n=>best_step (W:=W) (H:=H) (l:=zaa g) (s:=s) (j:=j) (k:=k) (p:=p) (q:=q) (n:=n) HP.out.1 HP.out.2)
        have HSM:=qz (best_same (W:=W) (H:=H) (l:=zaa g) (s:=s) (j:=j) (k:=k))
        rw [hr] at HST HSM
        have HV1:=qz hV1
        have HK1:=qz hv1
        generalize hrb:readyB r=rb at HRD HST HSM
        clear hcs1 hr hV1 hv1 hrb
        go_wp2_with fail
        rw [<- HV1.out]
        refine HRD.out.mono ?_
        rintro e V2 ⟨rfl,hb2⟩
        have HK2:=qz (HK1.out.trans (hb2.mono HK1.out.size))
        have HA2:=qz (HA.out.calls (HK2.out.mono hsz))
        have hz7:w3.heap.size+1<wr.heap.size:=by omega
        have C7:=(HK2.out.cell (p:=⟨w3.heap.size,0,none⟩) (show w3.heap.size<wr.heap.size by omega)).trans HC7.out
        have C8:=(HK2.out.cell (p:=⟨w3.heap.size+1,0,none⟩) hz7).trans HC8.out
        have G7:=(HK2.out.frozen (p:=⟨w3.heap.size,0,none⟩) (show w3.heap.size<wr.heap.size by omega)).trans HF7.out
        have G8:=(HK2.out.frozen (p:=⟨w3.heap.size+1,0,none⟩) hz7).trans HF8.out
        clear hb2 r0 r1 r2 r3 r4
        cases rb with
        | true =>
          have hlc:=HLV.out V2 HA2.out k hlt
          have hlf:=HLF.out k hlt
          have HST2:=qz (HST.out _ hlf rfl)
          have HCO:=qz (consider_any w3.heap.size (w3.heap.size+1) p q (k:Int) (L.getD k 0) V2 C7 C8 G7 G8 (by omega))
          generalize L.getD k 0=n at hlc HST2 HCO
          clear C7 C8 G7 G8 hlf
          go_wp2_with fail
          refine HCO.out.mono ?_
          rintro e V3 ⟨rfl,d7,d8,e7,e8,hA3⟩
          have HA3:=qz (HA2.out.trans hA3 (fun k hk _=>hk))
          have D7:=qz d7
          have D8:=qz d8
          have E7:=qz e7
          have E8:=qz e8
          clear d7 d8 e7 e8 hA3 hlc
          go_wp2_with fail
          go_roundw
          case rel=>exact ⟨k+1,_,_,by omega,by go_num,HST2.out,D7.out,D8.out,E7.out,E8.out,HA3.out⟩
          case measure=>simp [intOf];omega
        | false =>
          have HP2:Hid (p=(bestN W H (zaa g) s j (k+1)).1/\(p=-1\/q=(bestN W H (zaa g) s j (k+1)).2)):=by unfold Hid;rw [HSM.out (by simp)];exact HP.out
          have D7:=qz C7
          have D8:=qz C8
          have E7:=qz G7
          have E8:=qz G8
          clear C7 C8 G7 G8
          go_wp2_with fail
          go_roundw
          case rel=>exact ⟨k+1,p,q,by omega,by go_num,HP2.out,D7.out,D8.out,E7.out,E8.out,HA2.out⟩
          case measure=>simp [intOf];omega
      · obtain rfl:k=n1:=by omega
        have HFN:=qz (HFI.out w4 w5 wr HB4.out HFR.out (HA.out.mono (fun b hb _=>by have hb:b=w3.heap.size\/b=w3.heap.size+1:=hb;omega)))
        have HPE:Hid (p=bestG W H (zaa g) s (j:Int)):=by unfold Hid;rw [HE.out];exact HP.out.1
        have c7:=HC7.out
        go_wp2_with fail
        go_ret
        exact ⟨by rw [HPE.out];rfl,HFN.out⟩
 · have HN:=qz (best_idle (W:=W) (H:=H) (l:=zaa g) hwt)
   rw [zal hwt] at HIW
   clear hwt
   go_enter Tryz.func58,Tryz.ntmps58
   go_wp2_with fail
   rw [<- HW1.out]
   refine HIW.out.mono ?_
   rintro e w2 ⟨rfl,hb2⟩
   have HB2:=qz (HB1.out.trans (hb2.mono HB1.out.size))
   clear hb2
   go_wp2_with fail
   go_ret
   exact ⟨by rw [HN.out];rfl,HF0.out _ HB2.out⟩
end Go.Proofs.YtknnnbpgkfaapaaGreat.Vm
namespace Go.Proofs.YtknnnbpgkfaapaaGreat.Vm
open Go Go.RowKit Go.Maps Go.ChangeMaps Go.MapKept
theorem KIn.look1 {α β:Type}{M:MapKind α β}{w:World}{mb n:Nat}{f:α->Option β}(h:KIn M w mb n f)(L:MapLaw M){a:α}(ha:M.okK a) :
 (Instr.lookup M.t (.map (some mb)) (M.kv a) false).run Tryz.prog w=.ok (M.at (f a)) w:=by
 obtain ⟨D,hown,hm,h0,h1⟩:=h
 obtain ⟨v,ps,hrun,hv⟩:=hown.lookup L.keyed L.ht (L.hz w) L.readsz (L.key a ha)
 rw [hrun]
 cases e:f a with
 | none =>
   rw [atKey_of_not_has (h0 a ha e)] at hv
   rw [L.invz _ _ hv]
   rfl
 | some x =>
   obtain ⟨e1,e2⟩:=h1 a x ha e
   rw [e2] at hv
   rw [L.inv _ _ _ hv]
   rfl
theorem NumsZ.alt {S:Nat->Prop}{w w':World}{B lb:Nat}{l:List Int}(h:NumsZ w B lb l)(hA:Alt S w w')(hn:¬ S lb):NumsZ w' B lb l:=by
 refine ⟨h.1,?_⟩
 have hlt:=h.base.2
 rcases h.2 with h2|⟨g,cap,cur,hv,hg,hh,r⟩
 · exact .inl h2
 · obtain rfl:lb=g:=by
    injection hv with hv1
    injection hv1 with hv1
    injection hv1
   exact .inr ⟨lb,cap,cur,hv,hg,(hA.block lb hlt hn).trans hh,r⟩
def KnD (w:World)(kb n B:Nat)(P:Nat->Prop)(W H:Int)(l:List Nat)(s:St):Prop :=
 ∃ f:Int->Option (Nat × Nat),KIn fieldM w kb n f/\∀ z,wfI z->∀ r,f z=some r->r.2=s.rs.length/\P r.1/\∃ L,NumsZ w B r.1 L/\DistL W H l s z L
section
variable {w w':World} {kb n B:Nat} {P P':Nat->Prop} {W H:Int} {l:List Nat} {s:St}
theorem KnD.isMap (h:KnD w kb n B P W H l s):MapAt w kb:=by obtain ⟨f,h,_⟩:=h;exact h.isMap
theorem KnD.lt (h:KnD w kb n B P W H l s):kb<w.heap.size:=by obtain ⟨f,h,_⟩:=h;exact h.lt
theorem KnD.less {m:Nat}(h:KnD w kb n B P W H l s)(hm:n<=m):KnD w kb m B P W H l s:=by obtain ⟨f,h,h'⟩:=h;exact ⟨f,h.less hm,h'⟩
theorem KnD.to (h:KnD w kb n B P W H l s)(hP:∀ k,B<=k->k<w.heap.size->P k->P' k):KnD w kb n B P' W H l s:=by
 obtain ⟨f,h1,h2⟩:=h
 exact ⟨f,h1,fun z hz r hr=>by
  obtain ⟨e1,e2,L,e3,e4⟩:=h2 z hz r hr
  exact ⟨e1,hP _ e3.base.1 e3.base.2 e2,L,e3,e4⟩⟩
theorem KnD.alt {S:Nat->Prop}(h:KnD w kb n B P W H l s)(hA:Alt S w w')(hk:¬ S kb)(hS:∀ k,B<=k->k<w.heap.size->P k->¬ S k):KnD w' kb n B P W H l s:=by
 obtain ⟨f,h1,h2⟩:=h
 refine ⟨f,h1.keep (hA.block _ h1.lt hk),fun z hz r hr=>?_⟩
 obtain ⟨e1,e2,L,e3,e4⟩:=h2 z hz r hr
 exact ⟨e1,e2,L,e3.alt hA (hS _ e3.base.1 e3.base.2 e2),e4⟩
theorem KnD.calls (h:KnD w kb n B P W H l s)(hb:Below w.heap.size w w'):KnD w' kb n B P W H l s:=h.alt (S:=fun _=>False) (.ofBelow hb) (fun h=>h) (fun _ _ _ _ h=>h)
end
set_option maxHeartbeats 2000000 in
theorem sharedFn_any (W H:Int)(g:ByteArray)(h:Sh)(s:St)(to:Int)(B gb sb mc kb n B0:Nat)(P:Nat->Prop)(w:World)(hok:Okay W H g)(hin:StIn w B h s)(hB:B<=w.heap.size)(hrp:RightP (zac (zaa g)) s)(hto:zac (zaa g) to=true)(hn3:h.n3<=1000000)
 (hg:GridAt w gb W H g) (hs:StAt w sb h) (hm:w.cell? ⟨mc,0,none⟩=some (.map (some kb))) (hK:KnD w kb n B0 P W H (zaa g) s) (hn:n<=1000000) (hB0:B0<=w.heap.size) :
 Calls Tryz.prog 59 #[.int .i64 to,.pointer (some ⟨mc,0,none⟩),.pointer (some ⟨gb,0,none⟩),.pointer (some ⟨sb,0,none⟩)] w fun e w' =>
  ∃ ab,e=.returned (.slice (some ⟨ab,0,none⟩) h.n1 h.n1)/\(P ab\/w.heap.size<=ab)/\(∃ L,NumsZ w' B0 ab L/\DistL W H (zaa g) s to L)/\Alt (fun k=>k=kb) w w'/\KnD w' kb (n+1) B0 (fun k=>P k\/w.heap.size<=k) W H (zaa g) s:=by
 have hrl:s.rs.length=h.n1:=hin.rs.1
 have hwf:wfI to:=by
  have h1:=zaq hto
  have h2:=hok.le
  rw [zag] at h1
  exact WalkArith.wf_i64 (by omega)
 have hkb:=hK.lt
 have hK2:=hK
 obtain ⟨f,hk,hall⟩:=hK2
 have hlook:(Instr.lookup 109 (.map (some kb)) (.int .i64 to) true).run Tryz.prog w=.ok (.tuple #[fieldM.at (f to),.bool (f to).isSome]) w:=hk.look fieldL hwf
 cases hft:f to with
 | some r =>
   obtain ⟨e1,e2,L,e3,e4⟩:=hall to hwf r hft
   obtain ⟨rb,rn⟩:=r
   rw [hft] at hlook
   replace hlook:(Instr.lookup 109 (.map (some kb)) (.int .i64 to) true).run Tryz.prog w=.ok (.tuple #[.slice (some ⟨rb,0,none⟩) rn rn,.bool true]) w:=hlook
   have HE2:=qz e2
   have HE3:=qz e3
   have HE4:=qz e4
   have HE1:Hid (rn=h.n1):=by unfold Hid;rw [<- hrl];exact e1
   have HK:=qz hK
   clear e1 e2 e3 e4 hft hall hk hK hin hok hrp hto
   go_enter Tryz.func59,Tryz.ntmps59
   go_wp2_with fail
   go_ret
   exact ⟨rb,by rw [<- HE1.out];rfl,.inl HE2.out,⟨L,HE3.out,HE4.out⟩,Alt.refl _ _,(HK.out.less (by omega)).to (fun k _ _ h=>.inl h)⟩
 | none =>
   rw [hft] at hlook
   replace hlook:(Instr.lookup 109 (.map (some kb)) (.int .i64 to) true).run Tryz.prog w=.ok (.tuple #[.slice none 0 0,.bool false]) w:=hlook
   have HD:Hid (∀ V,Kept w V->Calls Tryz.prog 60 #[zam W H g,shV h,.int .i64 to] V fun e V'=>(∃ lb L,e=.returned (.slice (some ⟨lb,0,none⟩) h.n1 h.n1)/\NumsZ V' w.heap.size lb L/\DistL W H (zaa g) s to L)/\Kept w V'):=fun V hV =>
    (distances_any W H g h s to B V hok (hin.below (Below.mono hV hB)) (Nat.le_trans hB (Below.size hV)) hrp hto hn3).mono fun e V' ⟨⟨lb,L,he,hnum,hdl⟩,hb⟩=>⟨⟨lb,L,he,hnum.mono (Below.size hV),hdl⟩,Below.trans hV (hb.mono (Below.size hV))⟩
   have HPUT:Hid (∀ V ab L,Kept w V->NumsZ V w.heap.size ab L->DistL W H (zaa g) s to L->∃ V',(Instr.mapUpdate 109 (.map (some kb)) (.int .i64 to) (.slice (some ⟨ab,0,none⟩) h.n1 h.n1)).run Tryz.prog V=.ok () V'/\V'.cell? ⟨mc,0,none⟩=some (.map (some kb)) /\
    (Instr.lookup 109 (.map (some kb)) (.int .i64 to) false).run Tryz.prog V'=.ok (.slice (some ⟨ab,0,none⟩) h.n1 h.n1) V'/\NumsZ V' B0 ab L/\Alt (fun k=>k=kb) w V'/\KnD V' kb (n+1) B0 (fun k=>P k\/w.heap.size<=k) W H (zaa g) s):=fun V ab L hV hnum hdl=>by
    obtain ⟨V',hrun,hk2,hg2,hz2⟩:=(hk.keep (hV.block kb hkb)).put fieldL (a:=to) (b:=(ab,h.n1)) (by omega) hwf trivial
    have hA1:Alt (fun k=>k=kb) w V:=.ofBelow hV
    have hA2:Alt (fun k=>k=kb) V V':=(Alt.refl _ V).grown hg2 (fun _=>rfl)
    have hab:=hnum.base
    have hA:=hA1.trans hA2 (fun k hk _=>hk)
    have hl1:=hk2.look1 fieldL hwf
    have hnum':NumsZ V' B0 ab L:=(hnum.alt hA2 (show ¬ ab=kb by omega)).mono (by omega)
    have hmm:MapAt w kb:=hk.isMap
    refine ⟨V',hrun,hA.keep (fun k hk=>by obtain rfl:k=kb:=hk;exact hmm) hm,?_,hnum',hA,_,hk2,fun z hz r hr=>?_⟩
    · simp only [if_pos rfl] at hl1
      exact hl1
    · by_cases e:z=to
      · subst e
        rw [if_pos rfl] at hr
        injection hr with hr
        subst hr
        exact ⟨hrl.symm,.inr hab.1,L,hnum',hdl⟩
      · rw [if_neg e] at hr
        obtain ⟨e1,e2,L',e3,e4⟩:=hall z hz r hr
        refine ⟨e1,.inl e2,L',e3.alt hA (fun h=>?_),e4⟩
        have h:r.1=kb:=h
        obtain ⟨es,clock,hmk⟩:=hmm
        rcases e3.2 with ⟨h1,_⟩|⟨gg,cap,cur,h1,_,hh,_⟩
        · cases h1
        · injection h1 with h2
          injection h2 with h2
          injection h2 with h2
          rw [<- h2,h,hmk] at hh
          cases hh
   have HM:=qz hm
   obtain ⟨s0,s1,s2,s3⟩:=hs
   obtain ⟨g0,g1,g2⟩:=hg
   have hmb:=World.block_lt_of_cell? w _ hm
   have hgb:=World.block_lt_of_cell? w _ g0
   have hsb:=World.block_lt_of_cell? w _ s0
   simp only [] at hmb hgb hsb
   obtain ⟨t',a1,n1,c1,a2,n2,c2,a3,n3,c3⟩:=h
   simp only [] at s0 s1 s2 s3 HD HPUT
   have HKS:Hid (∀ V,Alt (fun k=>k=kb) w V->(Alt (fun k=>k=kb) w V/\V.cell? ⟨mc,0,none⟩=some (.map (some kb))/\V.cell? ⟨gb,0,none⟩=some (.int .i64 W)/\V.cell? ⟨gb,1,none⟩=some (.int .i64 H)/\V.cell? ⟨gb,2,none⟩=some (.string g)/\V.cell? ⟨sb,0,none⟩=some (.int .i64 t')/\V.cell? ⟨sb,1,none⟩=some (.slice a1 n1 c1)/\V.cell? ⟨sb,2,none⟩=some (.slice a2 n2 c2)/\V.cell? ⟨sb,3,none⟩=some (.slice a3 n3 c3))):=fun V hV=>by
    have hmm:∀ k,(fun k=>k=kb) k->MapAt w k:=fun k e=>by obtain rfl:k=kb:=e;exact hk.isMap
    exact ⟨hV,hV.keep hmm hm,hV.keep hmm g0,hV.keep hmm g1,hV.keep hmm g2,hV.keep hmm s0,hV.keep hmm s1,hV.keep hmm s2,hV.keep hmm s3⟩
   have kk:Kept w w:=Kept.refl _
   clear hft hall hk hK hin hok hrp hto
   go_enter Tryz.func59,Tryz.ntmps59
   go_wp2_with fail
   clear s0 s1 s2 s3 g0 g1 g2 hm
   have ka:Alt (fun k=>k=kb) w w:=Alt.refl _ _
   go_region_held3 (fun V=>Alt (fun k=>k=kb) w V/\V.cell? ⟨mc,0,none⟩=some (.map (some kb))/\V.cell? ⟨gb,0,none⟩=some (.int .i64 W)/\V.cell? ⟨gb,1,none⟩=some (.int .i64 H)/\V.cell? ⟨gb,2,none⟩=some (.string g)/\V.cell? ⟨sb,0,none⟩=some (.int .i64 t')/\V.cell? ⟨sb,1,none⟩=some (.slice a1 n1 c1)/\V.cell? ⟨sb,2,none⟩=some (.slice a2 n2 c2)/\V.cell? ⟨sb,3,none⟩=some (.slice a3 n3 c3))
    (first|exact HKS.out _ (by assumption)|exact HKS.out _ (Alt.drew (by assumption)))
    (first|(go_at_call 60;refine (HD.out _ (by first|exact kk|exact Kept.drew kk)).mono ?_;rintro e wb ⟨⟨lb,L,rfl,hnum,hdl⟩,kb1⟩;have a1:Alt (fun k=>k=kb) w wb:=.ofBelow kb1;obtain ⟨w5,hrun,hmc5,hlk5,hnum5,a5,hkn5⟩:=HPUT.out wb lb L kb1 hnum hdl))
   have HNU:=qz hnum5
   have HDL:=qz hdl
   have HA5:=qz a5
   have HKN:=qz hkn5
   have hlb:w.heap.size<=lb:=hnum.base.1
   clear hnum hdl kb1 a1 a5 hkn5 hnum5 ka kk
   go_wp2_with fail
   go_ret
   exact ⟨lb,rfl,.inr hlb,⟨L,HNU.out,HDL.out⟩,HA5.out,HKN.out⟩
theorem make_set10 (t:TypeId)(w:World):(Instr.makeMap t none).run Tryz.prog w=.ok (.map (some w.heap.size)) (w.alloc (.map #[] 0)):=by
 simp [Instr.makeMap,go_sem,Result.andThen]
theorem zbk (w:World)(o:Obj){k:Nat}(hk:k=w.heap.size):(w.alloc o).heap[k]?=some o:=by subst hk;exact heap_alloc_new w o
set_option maxHeartbeats 1000000 in
theorem shared_any (W H:Int)(g:ByteArray)(h:Sh)(w:World) :
 Calls Tryz.prog 39 #[zam W H g,shV h] w fun e w' =>
  e=.returned (.func (.func 59) #[] #[.pointer (some ⟨w.heap.size+3,0,none⟩),.pointer (some ⟨w.heap.size,0,none⟩),.pointer (some ⟨w.heap.size+1,0,none⟩)]) /\
    w'.heap[w.heap.size]?=some (zar W H g)/\w'.heap[w.heap.size+1]?=some (shO h)/\w'.heap[w.heap.size+3]?=some (.cells #[.map (some (w.heap.size+2))] 109) /\
    KIn fieldM w' (w.heap.size+2) 0 (fun _=>none)/\w'.heap.size=w.heap.size+4/\Below w.heap.size w w':=by
 obtain ⟨w1,hw1⟩:∃ w1,w1=w.alloc (zar W H g):=⟨_,rfl⟩
 obtain ⟨w2,hw2⟩:∃ w2,w2=w1.alloc (shO h):=⟨_,rfl⟩
 obtain ⟨w3,hw3⟩:∃ w3,w3=w2.alloc (.map #[] 0):=⟨_,rfl⟩
 obtain ⟨w4,hw4⟩:∃ w4,w4=w3.alloc (.cells #[.map (some (w.heap.size+2))] 109):=⟨_,rfl⟩
 have z1:w1.heap.size=w.heap.size+1:=by rw [hw1];simp
 have z2:w2.heap.size=w.heap.size+2:=by rw [hw2];simp [z1]
 have z3:w3.heap.size=w.heap.size+3:=by rw [hw3];simp [z2]
 have z4:w4.heap.size=w.heap.size+4:=by rw [hw4];simp [z3]
 have b1:Below w.heap.size w w1:=by rw [hw1];exact (zX _ _).alloc (zL _) _
 have b2:Below w1.heap.size w1 w2:=by rw [hw2];exact (zX _ _).alloc (zL _) _
 have b3:Below w2.heap.size w2 w3:=by rw [hw3];exact (zX _ _).alloc (zL _) _
 have b4:Below w3.heap.size w3 w4:=by rw [hw4];exact (zX _ _).alloc (zL _) _
 have h1:w1.heap[w.heap.size]?=some (zar W H g):=by rw [hw1];exact zbk w _ rfl
 have h2:w2.heap[w.heap.size+1]?=some (shO h):=by rw [hw2];exact zbk w1 _ z1.symm
 have h4:w4.heap[w.heap.size+3]?=some (.cells #[.map (some (w.heap.size+2))] 109):=by rw [hw4];exact zbk w3 _ z3.symm
 have hk:KIn fieldM w3 (w.heap.size+2) 0 (fun _=>none):=by rw [hw3,<- z2];exact kIn_new fieldM w2 (fun _=>rfl)
 have F:Hid (w4.heap[w.heap.size]?=some (zar W H g)/\w4.heap[w.heap.size+1]?=some (shO h)/\w4.heap[w.heap.size+3]?=some (.cells #[.map (some (w.heap.size+2))] 109) /\
  KIn fieldM w4 (w.heap.size+2) 0 (fun _=>none)/\w4.heap.size=w.heap.size+4/\Below w.heap.size w w4) :=
  ⟨(b4.block _ (by omega)).trans ((b3.block _ (by omega)).trans ((b2.block _ (by omega)).trans h1)),(b4.block _ (by omega)).trans ((b3.block _ (by omega)).trans h2),h4,hk.keep (b4.block _ (by omega)),z4,((b1.trans (b2.mono (by omega))).trans (b3.mono (by omega))).trans (b4.mono (by omega))⟩
 have HW:Hid (w4=(((w.alloc (zar W H g)).alloc (shO h)).alloc (.map #[] 0)).alloc (.cells #[.map (some (w.heap.size+2))] 109)):=by unfold Hid;rw [hw4,hw3,hw2,hw1]
 obtain ⟨t',a1,n1,c1,a2,n2,c2,a3,n3,c3⟩:=h
 have hmk:(Instr.makeMap 109 none).run Tryz.prog ((w.alloc (zar W H g)).alloc (shO ⟨t',a1,n1,c1,a2,n2,c2,a3,n3,c3⟩))=.ok (.map (some (w.heap.size+2))) (((w.alloc (zar W H g)).alloc (shO ⟨t',a1,n1,c1,a2,n2,c2,a3,n3,c3⟩)).alloc (.map #[] 0)):=by
  rw [make_set10]
  simp
 clear hk h4 h2 h1 b4 b3 b2 b1 z1 z2 z3 z4 hw1 hw2 hw3 hw4
 go_enter Tryz.func39,Tryz.ntmps39
 go_wp2_with fail
 go_ret
 rw [<- HW.out]
 exact ⟨rfl,F.out⟩
end Go.Proofs.YtknnnbpgkfaapaaGreat.Vm
