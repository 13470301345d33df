import Derived.Test.YtknnnbpgkfaapaaGreatQ
import Derived.Test.YtknnnbpgkfaapaaGreatVLeadMath
import Derived.Test.YtknnnbpgkfaapaaGreatVIntsZ
import Derived.Test.YtknnnbpgkfaapaaGreatVRefGoes
import Derived.Test.YtknnnbpgkfaapaaGreatVFars
import Derived.Deep.LoopGhost
set_option maxRecDepth 100000
set_option linter.unusedSimpArgs false
set_option linter.unusedVariables false
namespace Go.Proofs.YtknnnbpgkfaapaaGreat.Vm
open Go Go.RowKit
theorem mem_more {bl:List Int}{x z:Int}{k:Nat}(hk:k<bl.length)(hz:bl.getD k 0=z)(hx:x≠z)(h:x ∉ bl.take k):x ∉ bl.take (k+1):=by
 rw [List.take_succ_eq_append_getElem hk]
 simp only [List.getD,List.getElem?_eq_getElem hk,Option.getD_some] at hz
 rw [hz]
 simp [h,hx]
theorem mem_at {bl:List Int}{z:Int}{k:Nat}(hk:k<bl.length)(hz:bl.getD k 0=z):z∈bl:=by
 simp only [List.getD,List.getElem?_eq_getElem hk,Option.getD_some] at hz
 rw [<- hz]
 exact List.getElem_mem _
set_option maxHeartbeats 400000 in
theorem in_any (a:Option Addr)(n c B:Nat)(bl:List Int)(x:Int)(w:World)(h:RowZ .i64 w B a n c bl)(hn:n<=1000000) :
 Calls Tryz.prog 101 #[.slice a n c,.int .i64 x] w fun e w'=>e=.returned (.bool (decide (x∈bl)))/\w'=w:=by
 have HL:=qz h.1
 go_enter Tryz.func101,Tryz.ntmps101
 go_wp2
 go_loopw [5] (fun i wr=>∃ k:Nat,k<=n/\i=.int .i64 k/\wr=w/\Hid (x ∉ bl.take k)) (fun i _=>n-(intOf i).toNat)
 case atStart=>exact ⟨0,Nat.zero_le _,rfl,rfl,by show x ∉ bl.take 0;simp⟩
 case round =>
  obtain ⟨k,hk,rfl,rfl,HN⟩:=hrel
  by_cases hlt:k<n
  · obtain ⟨b,off,rfl,hb,hcs⟩:=h.cells (by omega)
    have hcell:=hcs k hlt
    clear hcs
    generalize hz:bl.getD k 0=z at hcell
    have HZ:=qz hz
    clear hz
    by_cases hx:z=x
    · have e1:(z==x)=true:=by simpa using hx
      have HIN:=qz (mem_at (by rw [HL.out];exact hlt) HZ.out)
      have HX:=qz hx
      clear hx
      go_wp2
      go_ret
      exact ⟨zad (Eq.symm (decide_eq_true (by rw [<- HX.out];exact HIN.out))),rfl⟩
    · have e1:(z==x)=false:=by simpa using hx
      have HM:=qz (mem_more (by rw [HL.out];exact hlt) HZ.out (fun e=>hx e.symm) HN.out)
      clear hx
      go_wp2
      go_roundw
      case rel=>exact ⟨k+1,by omega,by go_num,(by first|rfl|trivial),HM.out⟩
      case measure=>simp [intOf];omega
  · obtain rfl:k=n:=by omega
    go_wp2
    go_ret
    exact ⟨zad (Eq.symm (decide_eq_false (by have:=HN.out;rwa [List.take_of_length_le (by rw [HL.out];omega)] at this))),rfl⟩
theorem untold_le:∀ (l:List Int) (c:Nat) (v:Int),c<l.length->l.getD c 0=-1->v≠-1->untold (l.set c v)<untold l:=fun l c v h1 h2 h3=>by
 have:=untold_set l c v h1 h2 h3
 omega
theorem untold_len (l:List Int):untold l<=l.length:=List.countP_le_length
set_option maxHeartbeats 400000 in
theorem rfield_no (W H to:Int)(s:ByteArray)(a:Option Addr)(n c:Nat)(w:World)(hs:s.size<=maxLen)(hf:zac (zaa s) to=false) :
 Calls Tryz.prog 81 #[zam W H s,.int .i64 to,.slice a n c] w fun e w'=>e=.returned (.tuple #[.slice none 0 0,.int .i64 1])/\Below w.heap.size w w':=by
 have hfl:=fun w=>zaw W H to s w hs
 rw [hf] at hfl
 have HFL:=qz hfl
 have hB:Below w.heap.size w (w.alloc (zar W H s)):=(zX _ _).alloc (zL _) _
 clear hfl hf
 unfold maxLen at hs
 go_enter Tryz.func81,Tryz.ntmps81
 go_wp2_with fail
 refine (HFL.out _).mono ?_
 rintro e w1 ⟨rfl,hb⟩
 have hb2:=hB.trans (hb.mono hB.size)
 go_wp2
 go_ret2
 exact ⟨rfl,hb2⟩
def Tried (S:Nat->List Nat)(to N n cell:Nat)(l1 l:List Int)(stp:Nat->Int × Bool)(bl:List Int)(k:Nat)(f:Bool):Prop :=
 if f then l=l1.set cell ((n+1:Nat):Int)/\Mid S to N n (cell+1) l/\untold l<untold l1 else l=l1/\∀ way:Nat,1<=way->way<k->∀ x:Nat,stp way=((x:Int),true)->(x:Int) ∉ bl->l.getD x 0≠(n:Int)
section
variable {S:Nat->List Nat} {to N n cell k:Nat} {l1 l:List Int} {stp:Nat->Int × Bool} {bl:List Int} {f:Bool}
theorem Tried.start:Tried S to N n cell l1 l1 stp bl 1 false:=⟨rfl,fun way h1 h2=>by omega⟩
theorem Tried.skip (h:Tried S to N n cell l1 l stp bl k f)(hn:∀ x:Nat,stp k=((x:Int),true)->(x:Int) ∉ bl->l.getD x 0≠(n:Int)):Tried S to N n cell l1 l stp bl (k+1) f:=by
 cases f
 · obtain ⟨h1,h2⟩:=h
   refine ⟨h1,fun way w1 w2 x hx hb=>?_⟩
   by_cases hw:way=k
   · subst hw;exact hn x hx hb
   · exact h2 way w1 (by omega) x hx hb
 · exact h
theorem Tried.set {x:Nat}(h:Tried S to N n cell l1 l stp bl k f)(hM:Mid S to N n cell l1)(hc:cell<N)(hl:l1.getD cell 0=-1)(hx:x∈S cell)(hxN:x<N)(hn:l.getD x 0=(n:Int)) :
 Tried S to N n cell l1 (l.set cell ((n+1:Nat):Int)) stp bl (k+1) true:=by
 cases f
 · have h1:l=l1:=h.1
   subst h1
   exact ⟨rfl,(hM.some hc hl hx hxN hn).1,untold_le _ _ _ (by rw [hM.1];exact hc) hl (by omega)⟩
 · have h1:l=l1.set cell ((n+1:Nat):Int):=h.1
   have h2:l.set cell ((n+1:Nat):Int)=l:=by rw [h1,List.set_set]
   rw [h2]
   exact h
end
theorem mid_far {S:Nat->List Nat}{to N n c:Nat}{l:List Int}(h:Mid S to N n c l)(hc:c<N)(hl:l.getD c 0≠-1):¬ FarS S to c (n+1):=by
 rcases h.2 c hc with ⟨e,h1,h2,h3⟩|⟨h1,_⟩
 · rw [if_neg (by omega)] at h1
   intro hf
   have:=hf.only h3
   omega
 · exact absurd h1 hl
def Found (S:Nat->List Nat)(to n cell u u':Nat)(nw:Bool):Prop:=(if nw then u'<u else u'=u)/\(nw=false->∀ d,d<cell->¬ FarS S to d (n+1))
theorem Found.more {S:Nat->List Nat}{to n cell u u':Nat}{nw:Bool}(h:Found S to n cell u u' nw)(hn:nw=false->¬ FarS S to cell (n+1)):Found S to n (cell+1) u u' nw :=
 ⟨h.1,fun hf d hd=>by
  by_cases he:d=cell
  · subst he;exact hn hf
  · exact h.2 hf d (by omega)⟩
theorem Found.yes {S:Nat->List Nat}{to n cell u u' u2:Nat}{nw:Bool}(h:Found S to n cell u u' nw)(h2:u2<u'):Found S to n (cell+1) u u2 true :=
 ⟨by
  have:=h.1
  show u2<u
  cases nw
  · simp only [Bool.false_eq_true,if_false] at this;omega
  · simp only [if_true] at this;omega,fun hf=>by cases hf⟩
theorem Tried.done {W H:Int}{s:List Nat}{bl:List Int}{to n cell u:Nat}{l1 l:List Int}{f nw:Bool}(h:Tried (zav W H s bl) to s.length n cell l1 l (fun way=>zak W H s cell way) bl 5 f)(hM:Mid (zav W H s bl) to s.length n cell l1)(hc:cell<s.length)(hl:l1.getD cell 0=-1)
 (hF:Found (zav W H s bl) to n cell u (untold l1) nw):Mid (zav W H s bl) to s.length n (cell+1) l/\Found (zav W H s bl) to n (cell+1) u (untold l) (nw || f):=by
 cases f
 · obtain ⟨h1,h2⟩:=h
   subst h1
   obtain ⟨k1,k2⟩:=hM.none hc hl (fun x hx=>steps_in hx) (fun x hx=>by
    obtain ⟨way,hw,hg,hb⟩:=steps_mem.1 hx
    exact h2 way hw.1 (by omega) x hg hb)
   rw [Bool.or_false]
   exact ⟨k1,hF.more fun _=>k2⟩
 · obtain ⟨_,h2,h3⟩:=h
   rw [Bool.or_true]
   exact ⟨h2,hF.yes h3⟩
set_option maxHeartbeats 4000000 in
theorem rfield_yes (W H:Int)(to:Nat)(s:ByteArray)(bl:List Int)(a:Option Addr)(n c B:Nat)(w:World)(h:Okay W H s)(hf:zac (zaa s) to=true)(hr:RowZ .i64 w B a n c bl)(hB:B<=w.heap.size)(hn:n<=1000000) :
 Calls Tryz.prog 81 #[zam W H s,.int .i64 (to:Nat),.slice a n c] w fun e w' =>
  ∃ lb l,e=.returned (.tuple #[.slice (some ⟨lb,0,none⟩) s.size s.size,.int .i64 0])/\IsField (zav W H (zaa s) bl) to s.size l/\NumsZ w' w.heap.size lb l/\Below w.heap.size w w':=by
 have hle:=h.le
 have hto:=zaq hf
 rw [zag] at hto
 have hfl:=fun w=>zaw W H to s w (by unfold maxLen;omega)
 rw [hf] at hfl
 have HFL:=qz hfl
 have HOK:=qz h
 have hgb0:=zbq w W H s
 have hBg:Below w.heap.size w (w.alloc (zar W H s)):=(zX _ _).alloc (zL _) _
 have HR:=qz hr
 clear hfl hf hr h
 go_enter Tryz.func81,Tryz.ntmps81
 go_wp2_with fail
 refine (HFL.out _).mono ?_
 rintro e w1 ⟨rfl,hb1⟩
 have hg1:=hgb0.below (B:=w.heap.size+1) (hb1.mono (by simp)) (by omega)
 have hB1:=hBg.trans (hb1.mono (by simp))
 have hz1:w.heap.size<w1.heap.size:=by have:=hb1.size;simp at this;omega
 have hr1:=HR.out.below (hB1.mono hB)
 have hmk:=make_ints w1 s.size (by omega)
 have hnz:=numsZ_made w1 s.size (by omega)
 have hbm:Below w1.heap.size w1 (w1.alloc (.cells ⟨zan (List.replicate s.size 0)⟩ 3)):=(zX _ _).alloc (zL _) _
 have hz2:(w1.alloc (.cells ⟨zan (List.replicate s.size 0)⟩ 3)).heap.size=w1.heap.size+1:=by simp
 generalize w1.alloc (.cells ⟨zan (List.replicate s.size 0)⟩ 3)=w2 at hmk hnz hbm hz2
 obtain ⟨g1,g2,g3⟩:=id hg1
 have HNZ:=qz hnz
 have HG1:=qz hg1
 have HR1:=qz hr1
 clear hgb0 hBg hnz hg1 hr1 hb1 g1 g2 HR
 go_wp2_with fail
 go_loopg [9] s.size (fun k vi wr=>∃ i:Nat,vi=.int .i64 i/\i+k=s.size/\NumsZ wr w1.heap.size w1.heap.size (fillZ s.size i)/\Below w1.heap.size w1 wr)
 case atStart=>exact ⟨0,rfl,by omega,by rw [fillZ_start];exact HNZ.out,hbm⟩
 case round =>
  obtain ⟨i,rfl,hik,hnz,hbel⟩:=hrel
  have HNZ:=qz hnz
  by_cases hi:i<s.size
  · have q1:=hnz.cell (i:=i) (by rw [fillZ_len];exact hi)
    have q2:=hnz.frozen i
    clear hnz
    go_wp2_with fail
    go_roundg (gk-1)
    case measure=>omega
    case rel =>
     refine ⟨i+1,by go_num,by omega,?_,hbel.setCell (p:=⟨w1.heap.size,i,none⟩) (zL _) _⟩
     rw [<- fillZ_set];exact HNZ.out.set i (-1)
  · obtain rfl:i=s.size:=by omega
    have hg2:=HG1.out.below hbel hz1
    have hr2:=HR1.out.below (hbel.mono (by omega))
    have hnz2:=hnz
    rw [fillZ_end] at hnz2
    have q1:=hnz2.cell (i:=to) (by simp;omega)
    have q2:=hnz2.frozen to
    have hnz3:=hnz2.set to 0
    have hbel3:Below w1.heap.size w1 (wr.setCell ⟨w1.heap.size,to,none⟩ (.int .i64 0)):=hbel.setCell (p:=⟨w1.heap.size,to,none⟩) (zL _) _
    have hr3:=HR1.out.below (hbel3.mono (by omega))
    obtain ⟨w3,hw3⟩:∃ w3,wr.setCell ⟨w1.heap.size,to,none⟩ (.int .i64 0)=w3:=⟨_,rfl⟩
    rw [hw3] at hnz3 hbel3 hr3
    have HIN:=qz (in_any a n c B bl to w3 hr3 hn)
    have HNZ3:=qz hnz3
    clear hnz hnz2 hnz3 HNZ hg2 hr2 hr3 hi
    by_cases hbt:(to:Int)∈bl
    · have hin:=HIN.out
      rw [decide_eq_true hbt] at hin
      have HINT:=qz hin
      have HF:=qz (field_shut (S:=zav W H (zaa s) bl) (to:=to) (N:=s.size) (by omega) (fun c=>steps_shut hbt c))
      clear hin hbt HIN
      go_wp2_with fail
      refine HINT.out.mono ?_
      rintro e w4 ⟨rfl,rfl⟩
      go_wp2_with fail
      go_ret2
      exact ⟨w1.heap.size,_,by simp,HF.out,HNZ3.out.mono (by omega),hB1.trans (hbel3.mono (by omega))⟩
    · have hin:=HIN.out
      rw [decide_eq_false hbt] at hin
      have HINF:=qz hin
      have HBT:=qz hbt
      clear hin hbt HIN
      go_wp2_with fail
      refine HINF.out.mono ?_
      rintro e w4 ⟨rfl,rfl⟩
      clear hw3 q1 q2
      go_wp2_with fail
      have hst:UpTo (zav W H (zaa s) bl) to s.size 0 ((List.replicate s.size (-1:Int)).set to 0):=UpTo.first (by omega)
      have hlt0:untold ((List.replicate s.size (-1:Int)).set to 0)+1<=s.size:=by
       have h1:=untold_le (List.replicate s.size (-1:Int)) to 0 (by simp;omega) (by simp [List.getD,show to<s.size by omega]) (by decide)
       have h2:=untold_len (List.replicate s.size (-1:Int))
       simp at h2
       omega
      have HST:=qz hst
      clear hst
      go_loopg [10,11] (2*s.size) (fun k vn vb wr=>∃ (n1:Nat) (news:Bool) (l:List Int),vn=.int .i64 n1/\vb=.bool news/\2*untold l+(if news then 1 else 0)<=k/\n1+untold l<=s.size+(if news then 0 else 1)/\l.length=s.size/\NumsZ wr w1.heap.size w1.heap.size l/\Below w1.heap.size w1 wr /\
       Hid (if news then UpTo (zav W H (zaa s) bl) to s.size n1 l else IsField (zav W H (zaa s) bl) to s.size l))
      case atStart=>exact ⟨0,true,_,rfl,rfl,by simp;omega,by simp;omega,by simp,HNZ3.out,hbel3,HST.out⟩
      case round =>
       obtain ⟨n1,news,l,rfl,rfl,hku,hnu,hll,hnz,hbel,HU⟩:=hrel
       cases news
       · have HF:Hid (IsField (zav W H (zaa s) bl) to s.size l):=HU.out
         have HNZ:=qz hnz
         clear hnz HU
         go_wp2_with fail
         go_ret2
         exact ⟨w1.heap.size,l,by simp,HF.out,HNZ.out.mono (by omega),hB1.trans (hbel.mono (by omega))⟩
       · have HUP:Hid (UpTo (zav W H (zaa s) bl) to s.size n1 l):=HU.out
         have HNZ:=qz hnz
         obtain ⟨go,hgo⟩:∃ go,go=gk:=⟨_,rfl⟩
         subst hgo
         simp only [if_true,Nat.add_zero] at hku hnu
         clear hnz HU
         go_wp2_with fail
         go_loopg [11,12] s.size (fun k vb vc wr=>∃ (cell:Nat) (nw:Bool) (l':List Int),vc=.int .i64 cell/\cell+k=s.size/\vb=.bool nw/\l'.length=s.size/\NumsZ wr w1.heap.size w1.heap.size l'/\Below w1.heap.size w1 wr /\
          Hid (Mid (zav W H (zaa s) bl) to s.size n1 cell l')/\Hid (Found (zav W H (zaa s) bl) to n1 cell (untold l) (untold l') nw))
         case atStart=>exact ⟨0,false,l,rfl,by omega,rfl,hll,HNZ.out,hbel,Mid.start HUP.out,⟨rfl,fun _ d hd=>by omega⟩⟩
         case round =>
          obtain ⟨cell,nw,l',rfl,hck,rfl,hll',hnz',hbel',HMI,HFO⟩:=hrel
          obtain rfl:gk=s.size-cell:=by omega
          have HNZ':=qz hnz'
          by_cases hc:cell<s.size
          · have q1:=hnz'.cell (i:=cell) (by omega)
            generalize hv:l'.getD cell 0=v at q1
            have HV:=qz hv
            clear hnz' hv
            by_cases hv1:v=-1
            · subst hv1
              have hinit:Tried (zav W H (zaa s) bl) to s.size n1 cell l' l' (fun way=>zak W H (zaa s) cell way) bl 1 false:=.start
              have HINIT:=qz hinit
              clear hinit
              go_wp2_with fail
              go_loopg [11,13] 4 (fun k vb vw wr=>∃ (way:Nat) (f:Bool) (l2:List Int),vw=.int .i64 way/\way+k=5/\1<=way/\vb=.bool (nw || f)/\l2.length=s.size/\NumsZ wr w1.heap.size w1.heap.size l2/\Below w1.heap.size w1 wr /\
               Hid (Tried (zav W H (zaa s) bl) to s.size n1 cell l' l2 (fun way=>zak W H (zaa s) cell way) bl way f))
              case atStart=>exact ⟨1,false,l',rfl,by omega,by omega,by simp,hll',HNZ'.out,hbel',HINIT.out⟩
              case round =>
               obtain ⟨way,f,l2,rfl,hwk,hw1,rfl,hl2,hnz2,hbel2,HTR⟩:=hrel
               have HNZ2:=qz hnz2
               by_cases hw:way<=4
               · have hwi:(way:Int)<=4:=by omega
                 obtain ⟨g1,g2,g3⟩:=HG1.out.below hbel2 hz1
                 have HRG:=qz (rgoes_any W H cell way s wr HOK.out)
                 have hsz2:=hbel2.size
                 obtain ⟨o,ok,hR⟩:∃ o ok,zak W H (zaa s) cell way=(o,ok):=⟨_,_,rfl⟩
                 have hrg:=HRG.out
                 rw [hR] at hrg
                 simp only [] at hrg
                 have HRG2:=qz hrg
                 clear hrg HRG hnz2 q1
                 cases ok
                 · have HTR2:=qz (HTR.out.skip (fun x hx=>by rw [hR] at hx;cases hx))
                   clear hR
                   go_wp2_with fail
                   refine HRG2.out.mono ?_
                   rintro e w5 ⟨rfl,hb5⟩
                   have HNZ5:=qz (HNZ2.out.calls hb5)
                   have hbel5:=hbel2.trans (hb5.mono hsz2)
                   clear g1 g2 g3 hb5
                   go_wp2_with fail
                   go_roundg (gk-1)
                   case measure=>omega
                   case rel=>exact ⟨way+1,f,l2,by go_num,by omega,by omega,rfl,hl2,HNZ5.out,hbel5,HTR2.out⟩
                 · obtain ⟨ho0,hoN⟩:=goesS_nat hR
                   rw [zag] at hoN
                   obtain ⟨m,rfl⟩:=Int.eq_ofNat_of_zero_le ho0
                   have hmN:m<s.size:=by omega
                   generalize hv2:l2.getD m 0=v2
                   have HV2:=qz hv2
                   by_cases hvn:v2=(n1:Int)
                   · subst hvn
                     by_cases hmb:(m:Int)∈bl
                     · have HTR2:=qz (HTR.out.skip (fun x hx hnb=>by
                        rw [hR] at hx
                        have h4:(m:Int)=x:=congrArg Prod.fst hx
                        rw [<- h4] at hnb
                        exact absurd hmb hnb))
                       have hmt:((m:Int)==(to:Int))=false:=by
                        rw [beq_eq_false_iff_ne]
                        intro e
                        rw [e] at hmb
                        exact HBT.out hmb
                       have HMB:=qz hmb
                       clear hR hmb hv2
                       go_wp2_with fail
                       refine HRG2.out.mono ?_
                       rintro e w5 ⟨rfl,hb5⟩
                       have hnz5:=HNZ2.out.calls hb5
                       have q5:=hnz5.cell (i:=m) (by omega)
                       rw [HV2.out] at q5
                       have HNZ5:=qz hnz5
                       have hbel5:=hbel2.trans (hb5.mono hsz2)
                       have hin:=in_any a n c B bl m w5 (HR1.out.below (hbel5.mono (by omega))) hn
                       rw [decide_eq_true HMB.out] at hin
                       have HIN:=qz hin
                       clear g1 g2 g3 hb5 hnz5 hin
                       go_wp2_with fail
                       refine HIN.out.mono ?_
                       rintro e w6 ⟨rfl,rfl⟩
                       go_wp2_with fail
                       go_roundg (gk-1)
                       case measure=>omega
                       case rel=>exact ⟨way+1,f,l2,by go_num,by omega,by omega,rfl,hl2,HNZ5.out,hbel5,HTR2.out⟩
                     · have hxs:m∈zav W H (zaa s) bl cell:=steps_mem.2 ⟨way,⟨hw1,hw⟩,hR,hmb⟩
                       have HTR2:=qz (HTR.out.set HMI.out hc HV.out hxs hmN HV2.out)
                       have HMB:=qz hmb
                       clear hR hmb hv2 hxs
                       go_wp2_with fail
                       refine HRG2.out.mono ?_
                       rintro e w5 ⟨rfl,hb5⟩
                       have hnz5:=HNZ2.out.calls hb5
                       have q5:=hnz5.cell (i:=m) (by omega)
                       rw [HV2.out] at q5
                       have q6:=hnz5.cell (i:=cell) (by omega)
                       have q7:=hnz5.frozen cell
                       have HNZ5:=qz (hnz5.set cell ((n1+1:Nat):Int))
                       have hbel5:=hbel2.trans (hb5.mono hsz2)
                       have hbel6:Below w1.heap.size w1 (w5.setCell ⟨w1.heap.size,cell,none⟩ (.int .i64 ((n1+1:Nat):Int))):=hbel5.setCell (p:=⟨w1.heap.size,cell,none⟩) (zL _) _
                       have hin:=in_any a n c B bl m w5 (HR1.out.below (hbel5.mono (by omega))) hn
                       rw [decide_eq_false HMB.out] at hin
                       have HIN:=qz hin
                       have HB6:=qz hbel6
                       clear g1 g2 g3 hb5 hnz5 hin hbel6
                       go_wp2_with fail
                       refine HIN.out.mono ?_
                       rintro e w6 ⟨rfl,rfl⟩
                       go_wp2_with fail
                       go_roundg (gk-1)
                       case measure=>omega
                       case rel=>exact ⟨way+1,true,l2.set cell ((n1+1:Nat):Int),by go_num,by omega,by omega,by simp,by simpa using hl2,HNZ5.out,HB6.out,HTR2.out⟩
                   · have HTR2:=qz (HTR.out.skip (fun x hx _=>by
                      rw [hR] at hx
                      have h4:(m:Int)=x:=congrArg Prod.fst hx
                      obtain rfl:m=x:=by omega
                      rw [HV2.out]
                      exact hvn))
                     have e2:(v2==(n1:Int))=false:=by simpa using hvn
                     clear hR hvn hv2
                     go_wp2_with fail
                     refine HRG2.out.mono ?_
                     rintro e w5 ⟨rfl,hb5⟩
                     have hnz5:=HNZ2.out.calls hb5
                     have q5:=hnz5.cell (i:=m) (by omega)
                     rw [HV2.out] at q5
                     have HNZ5:=qz hnz5
                     have hbel5:=hbel2.trans (hb5.mono hsz2)
                     clear g1 g2 g3 hb5 hnz5
                     go_wp2_with fail
                     go_roundg (gk-1)
                     case measure=>omega
                     case rel=>exact ⟨way+1,f,l2,by go_num,by omega,by omega,rfl,hl2,HNZ5.out,hbel5,HTR2.out⟩
               · obtain rfl:way=5:=by omega
                 have htd:=HTR.out
                 have hlen:s.size=(zaa s).length:=(zag s).symm
                 have hmi:=HMI.out
                 rw [hlen] at htd hmi
                 have hdn:=htd.done hmi (by rw [<- hlen];exact hc) HV.out HFO.out
                 rw [<- hlen] at hdn
                 have HD:=qz hdn
                 clear htd hmi hdn hlen hnz2 hw q1
                 go_wp2_with fail
                 go_roundg (s.size-(cell+1))
                 case measure=>omega
                 case rel=>exact ⟨cell+1,nw || f,l2,by go_num,by omega,rfl,hl2,HNZ2.out,hbel2,HD.out.1,HD.out.2⟩
            · have e1:(v != -1)=true:=by rw [bne_iff_ne];exact hv1
              have HMI2:=qz (HMI.out.told hc (by rw [HV.out];exact hv1))
              have HFO2:=qz (HFO.out.more fun _=>mid_far HMI.out hc (by rw [HV.out];exact hv1))
              clear hv1
              go_wp2_with fail
              go_roundg (s.size-(cell+1))
              case measure=>omega
              case rel=>exact ⟨cell+1,nw,l',by go_num,by omega,rfl,hll',HNZ'.out,hbel',HMI2,HFO2⟩
          · obtain rfl:cell=s.size:=by omega
            clear hnz' hc
            have hup:=HMI.out.done
            have hfo:=HFO.out
            cases nw
            · have hnone:∀ c,¬ FarS (zav W H (zaa s) bl) to c (n1+1):=fun c hf=>by
               obtain ⟨x,hx,_⟩:=hf.step
               have:=step_from hx
               rw [zag] at this
               exact hfo.2 rfl c this hf
              have HF:Hid (IsField (zav W H (zaa s) bl) to s.size l'):=hup.done (fun c _=>far_end hnone (n1+1+1) (by omega) c) (fun c _=>far_end hnone (n1+1+1) (by omega) c)
              have hu1:untold l'=untold l:=hfo.1
              clear hup hfo hnone
              go_wp2_with fail
              go_roundg (2*untold l')
              case measure=>omega
              case rel=>exact ⟨n1+1,false,l',by go_num,rfl,by simp,by simp;omega,hll',HNZ'.out,hbel',HF.out⟩
            · have HUP2:=qz hup
              have hu1:untold l'<untold l:=hfo.1
              clear hup hfo
              go_wp2_with fail
              go_roundg (2*untold l'+1)
              case measure=>omega
              case rel=>exact ⟨n1+1,true,l',by go_num,rfl,by simp,by simp;omega,hll',HNZ'.out,hbel',HUP2.out⟩
end Go.Proofs.YtknnnbpgkfaapaaGreat.Vm
