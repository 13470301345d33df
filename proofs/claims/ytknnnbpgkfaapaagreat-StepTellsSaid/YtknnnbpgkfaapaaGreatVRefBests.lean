import Derived.Test.YtknnnbpgkfaapaaGreatQ
import Derived.Test.YtknnnbpgkfaapaaGreatVRefFields
import Derived.Test.YtknnnbpgkfaapaaGreatVFars
import Derived.Test.YtknnnbpgkfaapaaGreatVInMath
import Derived.Test.YtknnnbpgkfaapaaGreatVLeadMath
import Derived.Deep.RegionHeld3
set_option maxRecDepth 100000
set_option linter.unusedSimpArgs false
set_option linter.unusedVariables false
namespace Go.Proofs.YtknnnbpgkfaapaaGreat.Vm
open Go Go.RowKit
set_option maxHeartbeats 400000 in
theorem rfar_any (W H fr to:Int)(s:ByteArray)(bl:List Int)(a:Option Addr)(n c B:Nat)(w:World)(h:Okay W H s)(hr:RowZ .i64 w B a n c bl)(hB:B<=w.heap.size)(hn:n<=1000000) :
 Calls Tryz.prog 78 #[zam W H s,.int .i64 fr,.int .i64 to,.slice a n c] w (FarPost w W H s bl fr to):=by
 have hle:=h.le
 have hB0:Below w.heap.size w (w.alloc (zar W H s)):=(zX _ _).alloc (zL _) _
 have hg0:=zbq w W H s
 cases h2:zac (zaa s) to
 · have HE:=qz (farG_no2 (W:=W) (H:=H) (bl:=bl) (a:=fr) h2)
   have HF:=qz fun w=>rfield_no W H to s a n c w (by unfold maxLen;omega) h2
   clear h2 h hr
   go_enter Tryz.func78,Tryz.ntmps78
   go_wp2_with fail
   refine (HF.out _).mono ?_
   rintro e w1 ⟨rfl,hb⟩
   have hb2:=hB0.trans (hb.mono hB0.size)
   go_wp2_with fail
   go_ret
   exact ⟨ret_int HE.out.symm,hb2⟩
 obtain ⟨t,rfl⟩:=Int.eq_ofNat_of_zero_le (zaq h2).1
 have HF:=qz (rfield_yes W H t s bl a n c B (w.alloc (zar W H s)) h h2 (hr.below (hB0.mono hB)) (by simp;omega) hn)
 cases h1:zac (zaa s) fr
 · have HE:=qz (farG_no1 (W:=W) (H:=H) (bl:=bl) (b:=t) h1)
   have hfl:=fun w=>zaw W H fr s w (by unfold maxLen;omega)
   rw [h1] at hfl
   have HFL:=qz hfl
   clear h1 h2 h hr hfl
   go_enter Tryz.func78,Tryz.ntmps78
   go_wp2_with fail
   refine HF.out.mono ?_
   rintro e w1 ⟨lb,l,rfl,hl,hnz,hb⟩
   have hb2:=hB0.trans (hb.mono hB0.size)
   obtain ⟨g1,g2,g3⟩:=hg0.below hb (by simp)
   clear hl hnz
   go_wp2_with fail
   refine (HFL.out _).mono ?_
   rintro e w2 ⟨rfl,hb3⟩
   have hb4:=hb2.trans (hb3.mono hb2.size)
   go_wp2_with fail
   go_ret
   exact ⟨ret_int HE.out.symm,hb4⟩
 obtain ⟨f,rfl⟩:=Int.eq_ofNat_of_zero_le (zaq h1).1
 have HE:=qz (farG_yes (W:=W) (H:=H) (bl:=bl) h1 h2)
 have hf:=zaq h1
 rw [zag] at hf
 have hfl:=fun w=>zaw W H f s w (by unfold maxLen;omega)
 rw [h1] at hfl
 have HFL:=qz hfl
 clear h1 h2 h hr hfl
 go_enter Tryz.func78,Tryz.ntmps78
 go_wp2_with fail
 refine HF.out.mono ?_
 rintro e w1 ⟨lb,l,rfl,hl,hnz,hb⟩
 have hb2:=hB0.trans (hb.mono hB0.size)
 obtain ⟨g1,g2,g3⟩:=hg0.below hb (by simp)
 have HL:=qz hl
 have HNZ:=qz hnz
 clear hl hnz
 go_wp2_with fail
 refine (HFL.out _).mono ?_
 rintro e w2 ⟨rfl,hb3⟩
 have hb4:=hb2.trans (hb3.mono hb2.size)
 have hc:=(HNZ.out.calls hb3).cell (i:=f) (by rw [HL.out.1];omega)
 rw [HL.out.at (by omega)] at hc
 clear g1 g2 g3
 go_wp2_with fail
 go_ret
 exact ⟨ret_int HE.out.symm,hb4⟩
theorem near_yes {d:Int->Int}{l:List Int}{x:Int}{R:Int × Int}{y:Int}{k:Nat}(hk:k<l.length)(hx:l.getD k 0=x)(hR:R=nearS d (l.take k))(hy:d x=y)(h:0<=y/\(R.2<0\/y<R.2\/(y=R.2/\x<R.1))):(x,y)=nearS d (l.take (k+1)):=by
 rw [List.take_succ_eq_append_getElem hk,nearS_snoc,<- hR]
 simp only [List.getD,List.getElem?_eq_getElem hk,Option.getD_some] at hx
 rw [hx]
 unfold nearStep
 rw [hy,if_pos h]
theorem near_not {d:Int->Int}{l:List Int}{x:Int}{R:Int × Int}{y:Int}{k:Nat}(hk:k<l.length)(hx:l.getD k 0=x)(hR:R=nearS d (l.take k))(hy:d x=y)(h:¬ (0<=y/\(R.2<0\/y<R.2\/(y=R.2/\x<R.1)))):R=nearS d (l.take (k+1)):=by
 rw [List.take_succ_eq_append_getElem hk,nearS_snoc,<- hR]
 simp only [List.getD,List.getElem?_eq_getElem hk,Option.getD_some] at hx
 rw [hx]
 unfold nearStep
 rw [hy,if_neg h]
theorem kept_calls5 {a wa:World}{f:FuncId}{args:Array Value}{v u:Value}{b1 b2 k:Nat}{W1 H1:Int}{s1:ByteArray}(h:Kept a wa)(g1:GridAt a b1 W1 H1 s1)(g2:a.cell? ⟨b2,k,none⟩=some u)
 (l1:b1<a.heap.size) (l2:b2<a.heap.size) (hc:Calls Tryz.prog f args wa fun e w'=>e=.returned v/\Below wa.heap.size wa w') :
 Calls Tryz.prog f args wa fun e w'=>e=.returned v/\Kept a w'/\w'.cell? ⟨b1,0,none⟩=some (.int .i64 W1)/\w'.cell? ⟨b1,1,none⟩=some (.int .i64 H1)/\w'.cell? ⟨b1,2,none⟩=some (.string s1)/\w'.cell? ⟨b2,k,none⟩=some u :=
 hc.mono fun e w' ⟨he,hb⟩=>by
  have hk:Kept a w':=Below.trans h (hb.mono h.size)
  have r1:=g1.below hk l1
  exact ⟨he,hk,r1.1,r1.2.1,r1.2.2,(Below.cell hk (p:=⟨b2,k,none⟩) l2).trans g2⟩
set_option maxHeartbeats 2000000 in
theorem rnearest_any (W H fr:Int)(s:ByteArray)(bl of:List Int)(a a':Option Addr)(n c n' c' B:Nat)(w:World)(h:Okay W H s)
 (hr:RowZ .i64 w B a n c bl) (hr':RowZ .i64 w B a' n' c' of) (hB:B<=w.heap.size) (hn:n<=1000000) (hn':n'<=1000000) :
 Calls Tryz.prog 79 #[zam W H s,.int .i64 fr,.slice a' n' c',.slice a n c] w (NearPost w W H s bl of fr):=by
 have hB0:Below w.heap.size w (w.alloc (zar W H s)):=(zX _ _).alloc (zL _) _
 have hg0:=zbq w W H s
 have hz0:(w.alloc (zar W H s)).heap.size=w.heap.size+1:=by simp
 have HR:=qz (hr.below (hB0.mono hB))
 have HR':=qz (hr'.below (hB0.mono hB))
 have HOK:=qz h
 have HL:=qz hr'.1
 clear hr hr' h
 go_enter Tryz.func79,Tryz.ntmps79
 go_wp2_with fail
 generalize w.alloc (zar W H s)=w1 at hB0 hg0 hz0 HR HR'
 have HG0:=qz hg0
 have HB0:=qz hB0
 clear hg0 hB0
 go_loopg [10,11,12] n' (fun k vb vl vi wr=>∃ (i:Nat) (R:Int × Int),vb=.int .i64 R.1/\vl=.int .i64 R.2/\vi=.int .i64 i/\i+k=n'/\Below w1.heap.size w1 wr/\Hid (R=nearS (fun x=>farG W H (zaa s) bl fr x) (of.take i)))
 case atStart=>exact ⟨0,(-1,-1),rfl,rfl,rfl,by omega,zX _ _,rfl⟩
 case round =>
  obtain ⟨i,⟨bst,lst⟩,rfl,rfl,rfl,hik,hbel,HNS⟩:=hrel
  by_cases hi:i<n'
  · obtain ⟨b2,off,rfl,hb2,hcs⟩:=HR'.out.cells (by omega)
    have hcx:=(hbel.cell (p:=⟨b2,off+i,none⟩) (show b2<w1.heap.size by omega)).trans (hcs i hi)
    generalize hx:of.getD i 0=x at hcx
    obtain ⟨g1,g2,g3⟩:=HG0.out.below hbel (by omega)
    have hszr:=hbel.size
    obtain ⟨y,hy⟩:∃ y,farG W H (zaa s) bl fr x=y:=⟨_,rfl⟩
    have hy0:=farG_ge W H (zaa s) bl fr x
    rw [hy] at hy0
    have HF:=qz fun wa (hk:Kept wr wa)=>kept_calls5 (b1:=w.heap.size) (b2:=b2) (k:=off+i) hk ⟨g1,g2,g3⟩ hcx (by omega) (by omega)
     (rfar_any W H fr x s bl a n c B wa HOK.out (HR.out.below ((hbel.trans (Below.mono hk hszr)).mono (by omega))) (by have:=hk.size;omega) hn)
    rw [hy] at HF
    have hYES:=near_yes (d:=fun x=>farG W H (zaa s) bl fr x) (by rw [HL.out];exact hi) hx HNS.out hy
    have hNOT:=near_not (d:=fun x=>farG W H (zaa s) bl fr x) (by rw [HL.out];exact hi) hx HNS.out hy
    simp only [] at hYES hNOT
    have HYES:=qz hYES
    have HNOT:=qz hNOT
    have k0:Kept wr wr:=Kept.refl _
    clear hYES hNOT hx hy hcs
    go_wp2_with fail
    go_region_held3 (fun w'=>Kept wr w'/\w'.cell? ⟨w.heap.size,0,none⟩=some (.int .i64 W)/\w'.cell? ⟨w.heap.size,1,none⟩=some (.int .i64 H)/\w'.cell? ⟨w.heap.size,2,none⟩=some (.string s)/\w'.cell? ⟨b2,off+i,none⟩=some (.int .i64 x))
     (first|(refine ⟨?_,?_,?_,?_,?_⟩ <;> first|assumption|exact Kept.drew (by assumption)))
     (first
      | (go_at_call 78;refine (HF.out _ ?_).mono ?_;(first|assumption|exact Kept.drew (by assumption));rintro e wd ⟨rfl,kd,d1,d2,d3,d4⟩))
    all_goals
     have hbd:Below w1.heap.size w1 wd:=hbel.trans (Below.mono kd hszr)
     have HBD:=qz hbd
     clear kd k0 hbel hbd d1 d2 d3 g1 g2 g3 hcx HF
     by_cases hc1:0<=y
     · by_cases hc2:lst<0
       · have HN:=qz (HYES.out ⟨hc1,.inl hc2⟩)
         go_wp2_with fail
         go_roundg (gk-1)
         case measure=>omega
         case rel=>exact ⟨i+1,(x,y),rfl,rfl,by go_num,by omega,HBD.out,HN.out⟩
       · by_cases hc3:y<lst
         · have HN:=qz (HYES.out ⟨hc1,.inr (.inl hc3)⟩)
           go_wp2_with fail
           go_roundg (gk-1)
           case measure=>omega
           case rel=>exact ⟨i+1,(x,y),rfl,rfl,by go_num,by omega,HBD.out,HN.out⟩
         · by_cases hc4:y=lst
           · have e4:(y==lst)=true:=by simpa using hc4
             have HC4:=qz hc4
             by_cases hc5:x<bst
             · have HN:=qz (HYES.out ⟨hc1,.inr (.inr ⟨hc4,hc5⟩)⟩)
               clear hc4
               go_wp2_with fail
               go_roundg (gk-1)
               case measure=>omega
               case rel=>exact ⟨i+1,(x,y),rfl,rfl,by go_num,by omega,HBD.out,HN.out⟩
             · have HN:=qz (HNOT.out (fun h=>by omega))
               clear hc4
               go_wp2_with fail
               go_roundg (gk-1)
               case measure=>omega
               case rel=>exact ⟨i+1,(bst,lst),rfl,rfl,by go_num,by omega,HBD.out,HN.out⟩
           · have e4:(y==lst)=false:=by simpa using hc4
             have HN:=qz (HNOT.out (fun h=>by omega))
             clear hc4
             go_wp2_with fail
             go_roundg (gk-1)
             case measure=>omega
             case rel=>exact ⟨i+1,(bst,lst),rfl,rfl,by go_num,by omega,HBD.out,HN.out⟩
     · have HN:=qz (HNOT.out (fun h=>hc1 h.1))
       go_wp2_with fail
       go_roundg (gk-1)
       case measure=>omega
       case rel=>exact ⟨i+1,(bst,lst),rfl,rfl,by go_num,by omega,HBD.out,HN.out⟩
  · obtain rfl:i=n':=by omega
    have HE:Hid ((bst,lst)=nearG W H (zaa s) bl of fr):=by
     have:=HNS.out
     rw [List.take_of_length_le (by rw [HL.out];omega)] at this
     exact this
    go_wp2_with fail
    go_ret2
    exact ⟨ret_ii HE.out,HB0.out.trans (hbel.mono (by omega))⟩
def SaysBest (f:Nat):Prop:=∀ (W H:Int) (g:ByteArray) (h:Sh) (s:St) (x:Int) (B:Nat) (w:World),Okay W H g->StIn w B h s->B<=w.heap.size->RightP (zac (zaa g)) s->h.n3<=1000000 ->
 Calls Tryz.prog f #[zam W H g,shV h,.int .i64 x] w fun e w'=>e=.returned (.int .i64 (bestG W H (zaa g) s x))/\Below w.heap.size w w'
theorem bestG_at {W H:Int}{l:List Nat}{s:St}{j:Nat}(hj:j<s.ts.length)(hd:(s.ts.getD j zr).d=1):bestG W H l s (j:Int)=(bestN W H l s j s.rs.length).1:=by
 unfold bestG
 rw [Int.toNat_natCast,if_pos ⟨by omega,by omega,hd⟩]
set_option maxHeartbeats 2000000 in
theorem rbest_any:SaysBest 48:=by
 intro W H g h s x B w hok hin hB _ hn3
 obtain ⟨w2,hw2,hB2,hz2,hg2,hs2⟩:=zbv w W H g h
 have HW2:=qz hw2
 have HG2:=qz hg2
 have HS2:=qz hs2
 have HB2:=qz hB2
 have HIN:=qz hin
 have HOK:=qz hok
 have hrl:s.rs.length=h.n1:=hin.rs.1
 have htl:s.ts.length=h.n2:=hin.ts.1
 have hl1:=hin.rs.len
 have hl2:=hin.ts.len
 unfold maxLen at hl1 hl2
 have hsB:B<=w.heap.size:=hB
 have HFA:=qz fun (fr to:Int) V (hV:Below w.heap.size w V)=>rfar_any W H fr to g s.bl h.a3 h.n3 h.c3 B V hok (hin.bl.below (hV.mono hB)) (Nat.le_trans hB hV.size) hn3
 obtain ⟨s0,s1,s2,s3⟩:=hs2
 obtain ⟨g0,g1,g2⟩:=hg2
 obtain ⟨t,a1,n1,c1,a2,n2,c2,a3,n3,c3⟩:=h
 simp only [] at s0 s1 s2 s3 hrl htl hl1 hl2 HFA hn3
 have HBW2:=qz hB2
 rw [hw2] at s0 s1 s2 s3 g0 g1 g2 HBW2
 clear hw2 hB2 hin hok hB
 by_cases hx0:x<0
 · have HE:Hid (bestG W H (zaa g) s x=-1):=by unfold Hid bestG;rw [if_neg (by omega)]
   have e1:decide (x<0)=true:=decide_eq_true hx0
   go_enter Tryz.func48,Tryz.ntmps48
   go_wp2_with fail
   go_ret
   exact ⟨by rw [HE.out];rfl,HBW2.out⟩
 obtain ⟨j,rfl⟩:=Int.eq_ofNat_of_zero_le (show 0<=x by omega)
 have e1:decide ((j:Int)<0)=false:=by rw [decide_eq_false_iff_not];omega
 by_cases hxn:n2<=j
 · have HE:Hid (bestG W H (zaa g) s (j:Int)=-1):=by unfold Hid bestG;rw [if_neg (by omega)]
   have e2:decide ((j:Int)>=(n2:Int))=true:=by rw [decide_eq_true_eq];omega
   go_enter Tryz.func48,Tryz.ntmps48
   go_wp2_with fail
   go_ret
   exact ⟨by rw [HE.out];rfl,HBW2.out⟩
 have e2:decide ((j:Int)>=(n2:Int))=false:=by rw [decide_eq_false_iff_not];omega
 have hjn:j<n2:=by omega
 have hjn2:(j:Int)<(n2:Int):=by omega
 obtain ⟨b2,off2,rfl,hb2,hts⟩:=HIN.out.ts.cells (by show 0<n2;omega)
 have HTC:=qz (hts j hjn)
 have hrec:=(HTC.out.below (HB2.out.mono hsB) hb2).2.2.2.1
 rw [HW2.out] at hrec
 have HD:Hid ((s.ts.getD j zr).d=(s.ts.getD j zr).d):=rfl
 by_cases hd:(s.ts.getD j zr).d=1
 · have HE:Hid (bestG W H (zaa g) s (j:Int)=(bestN W H (zaa g) s j n1).1):=by unfold Hid;rw [<- hrl];exact bestG_at (by omega) hd
   have HFD:Hid (∀ k N,farG W H (zaa g) s.bl (s.rs.getD k zr).a (s.ts.getD j zr).b=N->((s.rs.getD k zr).b=0/\100<=(s.rs.getD k zr).d/\0<=N/\((bestN W H (zaa g) s j k).1<0\/N<(bestN W H (zaa g) s j k).2)->bestN W H (zaa g) s j (k+1)=((k:Int),N))/\(¬ ((s.rs.getD k zr).b=0/\100<=(s.rs.getD k zr).d/\0<=N/\((bestN W H (zaa g) s j k).1<0\/N<(bestN W H (zaa g) s j k).2))->bestN W H (zaa g) s j (k+1)=bestN W H (zaa g) s j k)):=fun k N hN=>by
    have hN:farD W H (zaa g) s j k=N:=hN
    subst hN
    exact ⟨fun h=>bestN_yes ⟨h.1,h.2.1,h.2.2.1⟩ h.2.2.2,fun h=>bestN_no (fun h2=>h ⟨h2.1.1,h2.1.2.1,h2.1.2.2,h2.2⟩)⟩
   rw [hd] at hrec
   obtain ⟨tb,htb⟩:∃ tb,(s.ts.getD j zr).b=tb:=⟨_,rfl⟩
   rw [htb] at HFD
   have HTB:Hid (∀ V,Below w.heap.size w V->V.cell? ⟨b2,off2+j*5+1,none⟩=some (.int .i64 tb)):=fun V hV=>by rw [<- htb];exact (HTC.out.below (hV.mono hsB) hb2).2.1
   clear htb hts
   go_enter Tryz.func48,Tryz.ntmps48
   go_wp2_with fail
   rw [<- HW2.out]
   clear s0 s1 s2 s3 g0 g1 g2 hrec
   go_loopw [7,8,9] (fun vb vl vi wr=>∃ k:Nat,k<=n1/\vi=.int .i64 k/\vb=.int .i64 (bestN W H (zaa g) s j k).1/\vl=.int .i64 (bestN W H (zaa g) s j k).2/\Hid (Below (w.heap.size+2) w2 wr)) (fun _ _ vi _=>n1-(intOf vi).toNat)
   case atStart=>exact ⟨0,Nat.zero_le _,rfl,rfl,rfl,qz (by rw [<- hz2];exact zX _ _)⟩
   case round =>
    obtain ⟨k,hk,rfl,rfl,rfl,HB⟩:=hrel
    have hsz:=HB.out.size
    obtain ⟨g0,g1,g2⟩:=HG2.out.below HB.out (by omega)
    obtain ⟨s0,s1,s2,s3⟩:=HS2.out.below HB.out (by omega)
    simp only [] at s0 s1 s2 s3
    have HBR:=qz (HB2.out.trans (HB.out.mono (by omega)))
    by_cases hlt:k<n1
    · obtain ⟨b,off,rfl,hb,hcs⟩:=(HIN.out.rs.below (HBR.out.mono hsB)).cells (by show 0<n1;omega)
      have hrec:=hcs k hlt
      have hkn:(k:Int)<(n1:Int):=by omega
      have HF:=qz (HFD.out k)
      generalize s.rs.getD k zr=r at hrec HF
      obtain ⟨ra,rb,rc,rd,re⟩:=r
      obtain ⟨r0,r1,r2,r3,r4⟩:=hrec
      simp only [] at r0 r1 r2 r3 r4 HF
      obtain ⟨N,hN⟩:∃ N,farG W H (zaa g) s.bl ra tb=N:=⟨_,rfl⟩
      have HN:=qz (HF.out N hN)
      generalize hP:bestN W H (zaa g) s j k=P at HN
      obtain ⟨p1,p2⟩:=P
      simp only [] at HN
      obtain ⟨V1,hV1⟩:∃ V1,V1=wr.alloc (.cells #[.int .i64 ra,.int .i64 rb,.int .i64 rc,.int .i64 rd,.int .i64 re] 46):=⟨_,rfl⟩
      have hb1:Below wr.heap.size wr V1:=by rw [hV1];exact (zX _ _).alloc (zL _) _
      have k0:V1.cell? ⟨wr.heap.size,0,none⟩=some (.int .i64 ra):=by rw [hV1];simp
      have k1:V1.cell? ⟨wr.heap.size,1,none⟩=some (.int .i64 rb):=by rw [hV1];simp
      have k3:V1.cell? ⟨wr.heap.size,3,none⟩=some (.int .i64 rd):=by rw [hV1];simp
      have hz1:V1.heap.size=wr.heap.size+1:=by rw [hV1];simp
      have HB1:=qz (HB.out.trans (hb1.mono (by omega)))
      have HBV:=qz (HBR.out.trans (hb1.mono (by omega)))
      obtain ⟨x0,x1,x2⟩:=HG2.out.below HB1.out (by omega)
      obtain ⟨y0,y1,y2,y3⟩:=HS2.out.below HB1.out (by omega)
      simp only [] at y2 y3
      have hlw:w.heap.size+1<V1.heap.size:=by omega
      have hlw2:b2<V1.heap.size:=by omega
      have htc:=HTB.out V1 HBV.out
      have HKS:Hid (∀ V,Kept V1 V->Kept V1 V/\V.cell? ⟨w.heap.size,0,none⟩=some (.int .i64 W)/\V.cell? ⟨w.heap.size,1,none⟩=some (.int .i64 H)/\V.cell? ⟨w.heap.size,2,none⟩=some (.string g)/\V.cell? ⟨w.heap.size+1,2,none⟩=some (.slice (some ⟨b2,off2,none⟩) n2 c2)/\V.cell? ⟨w.heap.size+1,3,none⟩=some (.slice a3 n3 c3)/\V.cell? ⟨b2,off2+j*5+1,none⟩=some (.int .i64 tb)/\V.cell? ⟨wr.heap.size,0,none⟩=some (.int .i64 ra)/\V.cell? ⟨wr.heap.size,1,none⟩=some (.int .i64 rb)/\V.cell? ⟨wr.heap.size,3,none⟩=some (.int .i64 rd)):=fun V hV =>
       ⟨hV,(Below.cell hV (p:=⟨w.heap.size,0,none⟩) (show w.heap.size<V1.heap.size by omega)).trans x0,(Below.cell hV (p:=⟨w.heap.size,1,none⟩) (show w.heap.size<V1.heap.size by omega)).trans x1,(Below.cell hV (p:=⟨w.heap.size,2,none⟩) (show w.heap.size<V1.heap.size by omega)).trans x2,(Below.cell hV (p:=⟨w.heap.size+1,2,none⟩) hlw).trans y2,(Below.cell hV (p:=⟨w.heap.size+1,3,none⟩) hlw).trans y3,(Below.cell hV (p:=⟨b2,off2+j*5+1,none⟩) hlw2).trans htc,(Below.cell hV (p:=⟨wr.heap.size,0,none⟩) (show wr.heap.size<V1.heap.size by omega)).trans k0,(Below.cell hV (p:=⟨wr.heap.size,1,none⟩) (show wr.heap.size<V1.heap.size by omega)).trans k1,(Below.cell hV (p:=⟨wr.heap.size,3,none⟩) (show wr.heap.size<V1.heap.size by omega)).trans k3⟩
      have HFC:Hid (∀ V,Kept V1 V->Calls Tryz.prog 78 #[zam W H g,.int .i64 ra,.int .i64 tb,.slice a3 n3 c3] V (fun e V'=>e=.returned (.int .i64 N)/\Kept V1 V')):=fun V hV =>
       (HFA.out ra tb V (HBV.out.trans (Below.mono hV HBV.out.size))).mono fun e V' ⟨he,hb⟩=>⟨by rw [he,hN],Below.trans hV (hb.mono (Below.size hV))⟩
      have HV1:=qz hV1
      have kk:Kept V1 V1:=Kept.refl _
      clear hcs HF hN hV1 hb1 x0 x1 x2 y0 y1 y2 y3 htc hP k0 k1 k3 hz1
      go_wp2_with fail
      rw [<- HV1.out]
      clear r0 r1 r2 r3 r4 g0 g1 g2 s0 s1 s2 s3
      go_region_held3 (fun V=>Kept V1 V/\V.cell? ⟨w.heap.size,0,none⟩=some (.int .i64 W)/\V.cell? ⟨w.heap.size,1,none⟩=some (.int .i64 H)/\V.cell? ⟨w.heap.size,2,none⟩=some (.string g)/\V.cell? ⟨w.heap.size+1,2,none⟩=some (.slice (some ⟨b2,off2,none⟩) n2 c2)/\V.cell? ⟨w.heap.size+1,3,none⟩=some (.slice a3 n3 c3)/\V.cell? ⟨b2,off2+j*5+1,none⟩=some (.int .i64 tb)/\V.cell? ⟨wr.heap.size,0,none⟩=some (.int .i64 ra)/\V.cell? ⟨wr.heap.size,1,none⟩=some (.int .i64 rb)/\V.cell? ⟨wr.heap.size,3,none⟩=some (.int .i64 rd))
       (first|exact HKS.out _ (by assumption)|exact HKS.out _ (Kept.drew (by assumption)))
       (first|(go_at_call 78;refine (HFC.out _ (by first|exact kk|exact Kept.drew kk)).mono ?_;rintro e wb ⟨rfl,kb⟩))
      obtain ⟨_,_,_,_,_,_,_,z0,z1,z3⟩:=HKS.out wb kb
      have HBW:Hid (Below (w.heap.size+2) w2 wb):=HB1.out.trans (Below.mono kb (by omega))
      clear kb kk
      by_cases h1:rb=0
      · have e1:(rb==0)=true:=by simpa using h1
        by_cases h2:100<=rd
        · have e2:decide (rd>=100)=true:=by rw [decide_eq_true_eq];exact h2
          by_cases h3:0<=N
          · have e3:decide (N>=0)=true:=by rw [decide_eq_true_eq];exact h3
            by_cases h4:p1<0
            · have e4:decide (p1<0)=true:=decide_eq_true h4
              go_wp2_with fail
              go_roundw
              case rel=>exact ⟨k+1,by omega,by go_num,by rw [HN.out.1 ⟨h1,h2,h3,.inl h4⟩],by rw [HN.out.1 ⟨h1,h2,h3,.inl h4⟩],HBW.out⟩
              case measure=>simp [intOf];omega
            · have e4:decide (p1<0)=false:=decide_eq_false h4
              by_cases h5:N<p2
              · have e5:decide (N<p2)=true:=decide_eq_true h5
                go_wp2_with fail
                go_roundw
                case rel=>exact ⟨k+1,by omega,by go_num,by rw [HN.out.1 ⟨h1,h2,h3,.inr h5⟩],by rw [HN.out.1 ⟨h1,h2,h3,.inr h5⟩],HBW.out⟩
                case measure=>simp [intOf];omega
              · have e5:decide (N<p2)=false:=decide_eq_false h5
                go_wp2_with fail
                go_roundw
                case rel=>exact ⟨k+1,by omega,by go_num,by rw [HN.out.2 (fun h=>h.2.2.2.elim h4 h5)],by rw [HN.out.2 (fun h=>h.2.2.2.elim h4 h5)],HBW.out⟩
                case measure=>simp [intOf];omega
          · have e3:decide (N>=0)=false:=by rw [decide_eq_false_iff_not];omega
            go_wp2_with fail
            go_roundw
            case rel=>exact ⟨k+1,by omega,by go_num,by rw [HN.out.2 (fun h=>h3 h.2.2.1)],by rw [HN.out.2 (fun h=>h3 h.2.2.1)],HBW.out⟩
            case measure=>simp [intOf];omega
        · have e2:decide (rd>=100)=false:=by rw [decide_eq_false_iff_not];omega
          go_wp2_with fail
          go_roundw
          case rel=>exact ⟨k+1,by omega,by go_num,by rw [HN.out.2 (fun h=>h2 h.2.1)],by rw [HN.out.2 (fun h=>h2 h.2.1)],HBW.out⟩
          case measure=>simp [intOf];omega
      · have e1:(rb==0)=false:=by simpa using h1
        go_wp2_with fail
        go_roundw
        case rel=>exact ⟨k+1,by omega,by go_num,by rw [HN.out.2 (fun h=>h1 h.1)],by rw [HN.out.2 (fun h=>h1 h.1)],HBW.out⟩
        case measure=>simp [intOf];omega
    · obtain rfl:k=n1:=by omega
      have HBE:=qz HBR.out
      go_wp2_with fail
      go_ret
      exact ⟨by rw [HE.out];rfl,HBE.out⟩
 · have HE:Hid (bestG W H (zaa g) s (j:Int)=-1):=by unfold Hid bestG;rw [if_neg (fun h=>by have:=h.2.2;rw [Int.toNat_natCast] at this;exact hd this)]
   generalize (s.ts.getD j zr).d=d at hd hrec
   have e3:(d != 1)=true:=by simpa using hd
   clear hts
   go_enter Tryz.func48,Tryz.ntmps48
   go_wp2_with fail
   go_ret
   exact ⟨by rw [HE.out];rfl,HBW2.out⟩
end Go.Proofs.YtknnnbpgkfaapaaGreat.Vm
