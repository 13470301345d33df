import Derived.Test.YtknnnbpgkfaapaaGreatQ
import Derived.Test.YtknnnbpgkfaapaaGreatVGridMath
import Derived.Test.YtknnnbpgkfaapaaGreatVIntsZ
import Derived.Test.YtknnnbpgkfaapaaGreatVInMath
import Derived.Test.YtknnnbpgkfaapaaGreatVRefGates
import Derived.Test.YtknnnbpgkfaapaaGreatVAppendZ
import Derived.Deep.LoopGhost
set_option maxRecDepth 100000
set_option linter.unusedSimpArgs false
set_option linter.unusedVariables false
namespace Go.Proofs.YtknnnbpgkfaapaaGreat.Vm
open Go Go.RowKit
def RowL (w:World)(B:Nat)(a:Option Addr)(n c:Nat)(ls:List (List Int)):Prop :=
 ls.length=n/\n<=c/\c<=maxLen/\(0<n->∃ b off,a=some ⟨b,off,none⟩/\b<B/\∀ i,i<n->∃ ai ni ci,w.cell? ⟨b,off+i,none⟩=some (.slice ai ni ci)/\RowZ .i64 w B ai ni ci (ls.getD i []))
section
variable {w w':World} {B B' n c:Nat} {a:Option Addr} {ls:List (List Int)}
theorem RowL.below (h:RowL w B a n c ls)(hb:Below B w w'):RowL w' B a n c ls:=by
 obtain ⟨h1,h2,h3,h4⟩:=h
 refine ⟨h1,h2,h3,fun hn=>?_⟩
 obtain ⟨b,off,e,hB,hc⟩:=h4 hn
 refine ⟨b,off,e,hB,fun i hi=>?_⟩
 obtain ⟨ai,ni,ci,h5,h6⟩:=hc i hi
 exact ⟨ai,ni,ci,(hb.cell (p:=⟨b,off+i,none⟩) hB).trans h5,h6.below hb⟩
theorem RowL.mono (h:RowL w B a n c ls)(hB:B<=B'):RowL w B' a n c ls:=by
 obtain ⟨h1,h2,h3,h4⟩:=h
 refine ⟨h1,h2,h3,fun hn=>?_⟩
 obtain ⟨b,off,e,hb,hc⟩:=h4 hn
 refine ⟨b,off,e,by omega,fun i hi=>?_⟩
 obtain ⟨ai,ni,ci,h5,h6⟩:=hc i hi
 exact ⟨ai,ni,ci,h5,h6.mono hB⟩
theorem RowL.cells (h:RowL w B a n c ls)(hn:0<n):∃ b off,a=some ⟨b,off,none⟩/\b<B/\∀ i,i<n->∃ ai ni ci,w.cell? ⟨b,off+i,none⟩=some (.slice ai ni ci)/\RowZ .i64 w B ai ni ci (ls.getD i []):=h.2.2.2 hn
theorem rowL_nil (w:World)(B:Nat):RowL w B none 0 0 []:=⟨rfl,zL _,by simp [maxLen],fun h=>absurd h (by omega)⟩
end
theorem may_cut {bl:List Int}{oth:List (List Int)}{p:Nat}{f t:Int}(h1:∀ j,j<bl.length->¬ (bl.getD j 0=t/\f≠t))
 (h2:∀ j,j<oth.length->¬ (p+1<(oth.getD j []).length/\((oth.getD j []).getD (p+1) 0=t\/((oth.getD j []).getD (p+1) 0=f/\(oth.getD j []).getD p 0=t)))):MayP bl oth p f t:=by
 refine ⟨fun hm=>?_,fun q hq hl=>?_⟩
 · obtain ⟨j,hj,e⟩:=List.getElem_of_mem hm
   have:=h1 j hj
   simp only [List.getD,List.getElem?_eq_getElem hj,Option.getD_some,e] at this
   exact Classical.byContradiction fun hne=>this ⟨trivial,hne⟩
 · obtain ⟨j,hj,e⟩:=List.getElem_of_mem hq
   have:=h2 j hj
   have e':oth.getD j []=q:=by simp [List.getD,hj,e]
   rw [e'] at this
   exact ⟨fun h=>this ⟨hl,.inl h⟩,fun h=>this ⟨hl,.inr h⟩⟩
theorem may_bl {bl:List Int}{oth:List (List Int)}{p j:Nat}{f t:Int}(hj:j<bl.length)(h:bl.getD j 0=t/\f≠t):¬ MayP bl oth p f t:=fun hm=>h.2 (hm.1 (by rw [<- h.1];simp [List.getD,hj]))
theorem may_oth {bl:List Int}{oth:List (List Int)}{p j:Nat}{f t:Int}(hj:j<oth.length)(h1:p+1<(oth.getD j []).length)(h2:(oth.getD j []).getD (p+1) 0=t\/((oth.getD j []).getD (p+1) 0=f/\(oth.getD j []).getD p 0=t)):¬ MayP bl oth p f t:=fun hm=>by
 have:=hm.2 (oth.getD j []) (by simp [List.getD,hj]) h1
 rcases h2 with h|h
 · exact this.1 h
 · exact this.2 h
set_option maxHeartbeats 4000000 in
theorem rmay_any (a1 a2:Option Addr)(n1 c1 n2 c2 B p:Nat)(f t:Int)(bl:List Int)(oth:List (List Int))(w:World)(h1:RowZ .i64 w B a1 n1 c1 bl)(h2:RowL w B a2 n2 c2 oth)(hp:p<=6)(hn1:n1<=100000)(hn2:n2<=100000) :
 Calls Tryz.prog 102 #[.slice a1 n1 c1,.slice a2 n2 c2,.int .i64 (p:Nat),.int .i64 f,.int .i64 t] w fun e w'=>e=.returned (.bool (decide (MayP bl oth p f t)))/\w'=w:=by
 have hl1:=h1.1
 have hl2:=h2.1
 have hc1:=h1.2.1
 have hc2:=h2.2.1
 have HC1:=qz (fun h=>h1.cells h)
 have HC2:=qz (fun h=>h2.cells h)
 clear h1 h2
 go_enter Tryz.func102,Tryz.ntmps102
 go_wp2_with fail
 go_loopw [11] (fun v wr=>∃ k:Nat,k<=n1/\v=.int .i64 k/\Hid (wr=w)/\Hid (∀ j,j<k->¬ (bl.getD j 0=t/\f≠t))) (fun v _=>n1-(intOf v).toNat)
 case atStart=>exact ⟨0,Nat.zero_le _,rfl,rfl,fun j hj=>absurd hj (Nat.not_lt_zero _)⟩
 case round =>
  obtain ⟨k,hk,rfl,hwr,HN⟩:=hrel
  obtain ⟨V,hV⟩:∃ V,V=wr:=⟨_,rfl⟩
  rw [<- hV] at hwr ⊢
  clear hV
  by_cases hlt:k<n1
  · obtain ⟨b,off,rfl,hb,hcs⟩:=HC1.out (by omega)
    have hcell:=hcs k hlt
    rw [<- hwr.out] at hcell
    have HMB:=qz (may_bl (bl:=bl) (oth:=oth) (p:=p) (f:=f) (t:=t) (j:=k) (by omega))
    clear hcs
    generalize hz:bl.getD k 0=z at hcell HMB
    have HZ:=qz hz
    clear hz
    by_cases g1:z=t
    · have e1:(z==t)=true:=by simpa using g1
      by_cases g2:f=t
      · have e2:(f != t)=false:=by simpa using g2
        have HN2:Hid (¬ (z=t/\f≠t)):=fun h=>h.2 g2
        clear g1 g2
        go_wp2_with fail
        go_roundw
        case rel=>exact ⟨k+1,by omega,by go_num,hwr,fun j hj=>by
         by_cases e:j=k
         · subst e;rw [HZ.out];exact HN2.out
         · exact HN.out j (by omega)⟩
        case measure=>simp [intOf];omega
      · have e2:(f != t)=true:=by rw [bne_iff_ne];exact g2
        have HY:=qz (decide_eq_false (HMB.out ⟨g1,g2⟩))
        clear g1 g2
        go_wp2_with fail
        go_ret
        exact ⟨zad HY.out.symm,hwr.out⟩
    · have e1:(z==t)=false:=by simpa using g1
      have HN2:Hid (¬ (z=t/\f≠t)):=fun h=>g1 h.1
      clear g1
      go_wp2_with fail
      go_roundw
      case rel=>exact ⟨k+1,by omega,by go_num,hwr,fun j hj=>by
       by_cases e:j=k
       · subst e;rw [HZ.out];exact HN2.out
       · exact HN.out j (by omega)⟩
      case measure=>simp [intOf];omega
  · obtain rfl:k=n1:=by omega
    have HBL:Hid (∀ j,j<bl.length->¬ (bl.getD j 0=t/\f≠t)):=by unfold Hid;rw [hl1];exact HN.out
    clear HN
    go_wp2_with fail
    go_loopw [12] (fun v wq=>∃ k:Nat,k<=n2/\v=.int .i64 k/\Hid (wq=w)/\Hid (∀ j,j<k->¬ (p+1<(oth.getD j []).length/\((oth.getD j []).getD (p+1) 0=t\/((oth.getD j []).getD (p+1) 0=f/\(oth.getD j []).getD p 0=t))))) (fun v _=>n2-(intOf v).toNat)
    case atStart=>exact ⟨0,Nat.zero_le _,rfl,hwr,fun j hj=>absurd hj (Nat.not_lt_zero _)⟩
    case round =>
     obtain ⟨k,hk,rfl,hwq,HN⟩:=hrel
     clear hwr
     by_cases hlt:k<n2
     · obtain ⟨b,off,rfl,hb,hcs⟩:=HC2.out (by omega)
       obtain ⟨aq,nq,cq,hcell,hq⟩:=hcs k hlt
       have HMO:=qz (may_oth (bl:=bl) (oth:=oth) (p:=p) (f:=f) (t:=t) (j:=k) (by omega))
       clear hcs
       rw [<- hwq.out] at hcell hq
       generalize hqs:oth.getD k []=qs at hq HMO
       have HQ:=qz hqs
       clear hqs
       have hlq:=hq.1
       have hcq:=hq.2.1
       have hmq:=hq.2.2.1
       unfold maxLen at hmq
       have HSTEP:Hid (¬ (p+1<qs.length/\(qs.getD (p+1) 0=t\/(qs.getD (p+1) 0=f/\qs.getD p 0=t)))->∀ j,j<k+1->¬ (p+1<(oth.getD j []).length/\((oth.getD j []).getD (p+1) 0=t\/((oth.getD j []).getD (p+1) 0=f/\(oth.getD j []).getD p 0=t)))):=fun hn j hj=>by
        by_cases e:j=k
        · subst e;rw [HQ.out];exact hn
        · exact HN.out j (by omega)
       clear HN
       by_cases g0:p+1<nq
       · have e0:decide ((p:Int)+1<(nq:Int))=true:=by rw [decide_eq_true_eq];omega
         obtain ⟨bq,oq,rfl,hbq,hcc⟩:=hq.cells (by omega)
         have hq0:=hcc p (by omega)
         have hq1:=hcc (p+1) (by omega)
         have HMO2:=qz (HMO.out (by omega))
         clear hq hcc HMO
         generalize qs.getD p 0=x0 at hq0 HMO2 HSTEP
         generalize qs.getD (p+1) 0=x1 at hq1 HMO2 HSTEP
         by_cases g1:x1=t
         · have e1:(x1==t)=true:=by simpa using g1
           have HY:=qz (decide_eq_false (HMO2.out (.inl g1)))
           clear g1
           go_wp2_with fail
           go_ret
           exact ⟨zad HY.out.symm,hwq.out⟩
         · have e1:(x1==t)=false:=by simpa using g1
           by_cases g2:x1=f
           · have e2:(x1==f)=true:=by simpa using g2
             by_cases g3:x0=t
             · have e3:(x0==t)=true:=by simpa using g3
               have HY:=qz (decide_eq_false (HMO2.out (.inr ⟨g2,g3⟩)))
               clear g1 g2 g3
               go_wp2_with fail
               go_ret
               exact ⟨zad HY.out.symm,hwq.out⟩
             · have e3:(x0==t)=false:=by simpa using g3
               have HS:=qz (HSTEP.out (by rintro ⟨_,h|h⟩;exact g1 h;exact g3 h.2))
               clear g1 g2 g3
               go_wp2_with fail
               go_roundw
               case rel=>exact ⟨k+1,by omega,by go_num,hwq,HS.out⟩
               case measure=>simp [intOf];omega
           · have e2:(x1==f)=false:=by simpa using g2
             have HS:=qz (HSTEP.out (by rintro ⟨_,h|h⟩;exact g1 h;exact g2 h.1))
             clear g1 g2
             go_wp2_with fail
             go_roundw
             case rel=>exact ⟨k+1,by omega,by go_num,hwq,HS.out⟩
             case measure=>simp [intOf];omega
       · have e0:decide ((p:Int)+1<(nq:Int))=false:=by rw [decide_eq_false_iff_not];omega
         have HS:=qz (HSTEP.out (by rintro ⟨h,_⟩;omega))
         clear hq
         go_wp2_with fail
         go_roundw
         case rel=>exact ⟨k+1,by omega,by go_num,hwq,HS.out⟩
         case measure=>simp [intOf];omega
     · obtain rfl:k=n2:=by omega
       have HY:=qz (decide_eq_true (may_cut HBL.out (by rw [hl2];exact HN.out)))
       go_wp2_with fail
       go_ret
       exact ⟨zad HY.out.symm,hwq.out⟩
set_option maxHeartbeats 4000000 in
theorem rgate_yes (a1 a2 a3:Option Addr)(n c1 c2 m c3 B:Nat)(cells wants bl:List Int)(w:World)(h1:RowZ .i64 w B a1 n c1 cells)(h2:RowZ .i64 w B a2 n c2 wants)(h3:RowZ .i64 w B a3 m c3 bl)(hB:B<=w.heap.size)(hn:n<=100000)(hm:m<=100000)(ht:¬ TwiceP cells) :
 Calls Tryz.prog 26 #[.slice a1 n c1,.slice a2 n c2,.slice a3 m c3] w fun e w'=>∃ a c,e=.returned (.tuple #[.slice a n c,.int .i64 0])/\OwnZ w' w.heap.size (.slice a n c) (gateG cells wants bl)/\Below w.heap.size w w':=by
 have e0:((n:Int) != (n:Int))=false:=by simp
 have HL:=qz h1.1
 have HL2:=qz h2.1
 have HIN:=qz (fun (k d m:Nat) (hk:k<=n) (x:Int)=>in8_any a1 k c1 B (cells.take k) x ((w.drewN d).drewN m) ((h1.takes hk).below (zaf (zaf (zX _ _) d) m)) (Nat.le_trans hk (Nat.le_trans hn (by decide))))
 have HCS:=qz (fun h=>h1.cells h)
 have hm1:=h1.2.2.1
 have hc1:=h1.2.1
 unfold maxLen at hm1
 have HT:=qz ht
 have HB:=qz hB
 have H1:=qz h1
 have H2:=qz h2
 have H3:=qz h3
 clear h1 h2 h3 ht hB
 go_enter Tryz.func26,Tryz.ntmps26
 go_wp2
 go_loopw [8] (fun v wr=>∃ k d:Nat,k<=n/\v=.int .i64 k/\wr=w.drewN d) (fun v _=>n-(intOf v).toNat)
 case atStart=>exact ⟨0,0,Nat.zero_le _,rfl,rfl⟩
 case round =>
  obtain ⟨k,d,hk,rfl,rfl⟩:=hrel
  by_cases hlt:k<n
  · obtain ⟨b,off,rfl,hb,hcs⟩:=HCS.out (by omega)
    have hcell:(w.drewN d).cell? ⟨b,off+k,none⟩=some (.int .i64 (cells.getD k 0)):=hcs k hlt
    have hx:cells.getD k 0 ∉ cells.take k:=fun h=>HT.out ⟨k,by rw [HL.out];exact hlt,h⟩
    clear hcs HCS
    generalize ez:cells.getD k 0=z at hcell hx
    clear ez
    have HI:=qz (fun m=>HIN.out k d m hk z)
    have f1:(0:Int)<=(k:Int)/\(k:Int)<=(c1:Int)/\k<=c1/\¬ c1=0:=by omega
    obtain ⟨f1,f2,f3,f4⟩:=f1
    clear HIN
    have HV:Hid (∃ d',w.drewN d=w.drewN d'):=⟨d,rfl⟩
    generalize w.drewN d=V at hcell HI HV ⊢
    have HV:Hid (∀ m,∃ d',V.drewN m=w.drewN d'):=fun m=>by
     obtain ⟨d',e⟩:=HV.out
     exact ⟨d'+m,by rw [e,World.drewN_drewN]⟩
    rw [decide_eq_false hx] at HI
    clear hx
    go_wp2
    go_quiet ((go_at_call 52;exact Calls.quiet_of_same (HI.out _)))
    go_wp2
    go_roundw
    case rel =>
     obtain ⟨d',hd'⟩:=HV.out nq
     exact ⟨k+1,d',by omega,by go_num,hd'⟩
    case measure=>simp [intOf];omega
  · obtain rfl:n=k:=by omega
    have HBV:Hid (Below w.heap.size w (w.drewN d)):=zaf (zX _ _) d
    generalize w.drewN d=V at HBV ⊢
    have HR2:=qz (H2.out.below ((HBV.out.mono HB.out).alloc (Nat.le_trans HB.out HBV.out.size) (.cells #[] 3)))
    go_wp2_with (at_builtin;refine zbm rfl (.tmp 32) (.tmp 33) rfl rfl (ownZ_empty V HBV.out.size) rfl HR2.out (by simp only [List.length_nil];omega) (HBV.out.alloc HBV.out.size _).size ?_;intro v1 w1 hown1 hb1)
    rw [List.nil_append] at hown1
    obtain ⟨a9,c9,rfl,-⟩:=hown1.sliced HL2.out
    have hbw1:Below w.heap.size w w1:=(HBV.out.alloc HBV.out.size _).trans hb1
    have HOWN:=qz hown1
    have HBW:=qz hbw1
    clear hown1 hb1 hbw1
    go_wp2
    go_loopg [9,10] (2*movers cells wants+1) (fun gg v9 v10 wr=>∃ (now:List Int) (a9:Option Addr) (c9:Nat) (news:Bool),v9=.slice a9 n c9/\v10=.bool news/\Hid (OnWay cells bl wants now news)/\Hid (2*movers cells now+(if news=true then 1 else 0)<=gg)/\Hid (OwnZ wr w.heap.size (.slice a9 n c9) now)/\Hid (Below w.heap.size w wr))
    case atStart=>exact ⟨wants,_,_,true,rfl,rfl,OnWay.start (by rw [HL.out,HL2.out]),by show _<=_;simp,HOWN.out,HBW.out⟩
    case round =>
     obtain ⟨now,a9',c9',news,rfl,rfl,HW,HG,HO,HBB⟩:=hrel
     cases news
     · have hd:Hid (gateG cells wants bl=now):=HW.out.done
       go_wp2
       go_ret2
       exact ⟨_,_,rfl,by rw [hd.out];exact HO.out,HBB.out⟩
     · have hln:=HW.out.1
       have hRN:=HO.out.rowAt (hln.trans HL.out)
       obtain ⟨W,hW⟩:∃ W,W=wr:=⟨_,rfl⟩
       subst hW
       obtain ⟨gg,hgg⟩:∃ gg,gg=gk:=⟨_,rfl⟩
       subst hgg
       have HRA:=qz (hRN.below ((zX W.heap.size W).alloc (zL _) (.cells #[] 3)))
       have HRN:=qz hRN
       have hBW:B<=W.heap.size:=Nat.le_trans HB.out HBB.out.size
       have HBW2:=qz hBW
       have HLN:=qz hln
       clear hRN hln hBW
       go_wp2_with (at_builtin;refine zbm rfl (.tmp 36) (.tmp 37) rfl rfl (ownZ_empty W (zL _)) rfl HRA.out (by simp only [List.length_nil];omega) ((zX W.heap.size W).alloc (zL _) _).size ?_;intro v2 w2 hown2 hb2)
       rw [List.nil_append] at hown2
       obtain ⟨a11,c11,rfl,-⟩:=hown2.sliced (HLN.out.trans HL.out)
       have HBX:=qz (((zX W.heap.size W).alloc (zL _) _).trans hb2)
       have HOX:=qz hown2
       clear hown2 hb2
       go_wp2
       go_loopg [10,12] n (fun gg vn vi wr=>∃ i:Nat,vi=.int .i64 i/\i+gg=n/\vn=.bool (anyK cells bl now i)/\Hid (OwnZ wr W.heap.size (.slice a11 n c11) (partG cells bl now i))/\Hid (Below W.heap.size W wr))
       case atStart=>exact ⟨0,rfl,by omega,by simp [anyK],by rw [partG_zero HLN.out];exact HOX.out,HBX.out⟩
       case round =>
        obtain ⟨i,rfl,hgi,rfl,HO2,HB2⟩:=hrel
        by_cases hin:i<n
        · have HK8:=qz (kept8_any a1 a9' a3 n c1 c9' m c3 W.heap.size i cells now bl wr ((H1.out.below ((HBB.out.mono HB.out).trans (HB2.out.mono HBW2.out))).mono HBW2.out) (HRN.out.below HB2.out) ((H3.out.below ((HBB.out.mono HB.out).trans (HB2.out.mono HBW2.out))).mono HBW2.out) hin (by omega) (by omega))
          cases hkb:keptB cells bl now i
          · rw [hkb] at HK8
            have HKB:=qz hkb
            clear hkb
            go_wp2_with fail
            refine HK8.out.mono ?_
            rintro e w3 ⟨rfl,d3,rfl⟩
            have HO3:=qz (HO2.out.calls (zaf (zX _ _) d3))
            have HB3:=qz (zaf HB2.out d3)
            generalize wr.drewN d3=V3 at HO3 HB3 ⊢
            go_wp2
            go_roundg (gk-1)
            case measure=>omega
            case rel=>exact ⟨i+1,by go_num,by omega,by rw [anyK_more,HKB.out,Bool.or_false],by rw [partG_no HKB.out];exact HO3.out,HB3.out⟩
          · rw [hkb] at HK8
            have HKB:=qz hkb
            clear hkb
            go_wp2_with fail
            refine HK8.out.mono ?_
            rintro e w3 ⟨rfl,d3,rfl⟩
            have ho3:=HO2.out.calls (zaf (zX _ _) d3)
            have hb3:=zaf HB2.out d3
            obtain ⟨b,off,rfl,hb,hcs⟩:=(H1.out.below ((HBB.out.mono HB.out).trans (hb3.mono HBW2.out))).cells (by omega)
            have hcell:=hcs i hin
            clear hcs HCS
            generalize wr.drewN d3=V3 at ho3 hb3 hcell ⊢
            generalize ez:cells.getD i 0=ci at hcell
            obtain ⟨g,rfl,hg,hfz,hcl,hset⟩:=ho3.at ((partG_len _ _ _ _).trans HL.out) hin ci
            have HS3:Hid (OwnZ (V3.setCell ⟨g,i,none⟩ (.int .i64 ci)) W.heap.size (.slice (some ⟨g,0,none⟩) n c11) (partG cells bl now (i+1))):=by
             rw [partG_yes HKB.out,ez];exact hset
            have HB3:Hid (Below W.heap.size W (V3.setCell ⟨g,i,none⟩ (.int .i64 ci))):=hb3.setCell (p:=⟨g,i,none⟩) hg _
            generalize (partG cells bl now i).getD i 0=old at hcl
            clear hset ho3 hb3 ez hg
            go_wp2
            go_roundg (gk-1)
            case measure=>omega
            case rel=>exact ⟨i+1,by go_num,by omega,by rw [anyK_more,HKB.out,Bool.or_true],HS3.out,HB3.out⟩
        · obtain rfl:n=i:=by omega
          have HW2:Hid (OnWay cells bl wants (nextG cells bl now) (anyK cells bl now n)):=by have:=HW.out.next;rwa [HL.out] at this
          have HG2:Hid (2*movers cells (nextG cells bl now)+(if anyK cells bl now n=true then 1 else 0)<gg):=by
           have h1:=HW.out.less
           have h2:=HG.out
           rw [HL.out] at h1
           simp only [if_true] at h2
           exact Nat.lt_of_lt_of_le h1 h2
          have HO4:Hid (OwnZ wr W.heap.size (.slice a11 n c11) (nextG cells bl now)):=by
           have e:partG cells bl now n=nextG cells bl now:=by rw [<- HL.out];exact partG_full _ _ _
           have:=HO2.out
           rwa [e] at this
          generalize anyK cells bl now n=nw at HW2 HG2 ⊢
          go_wp2
          go_roundg (2*movers cells (nextG cells bl now)+(if nw=true then 1 else 0))
          case measure=>exact HG2.out
          case rel=>exact ⟨nextG cells bl now,_,_,nw,rfl,rfl,HW2.out,zL _,OwnZ.lower HO4.out HBB.out.size,HBB.out.trans (HB2.out.mono HBB.out.size)⟩
end Go.Proofs.YtknnnbpgkfaapaaGreat.Vm
