import Derived.Test.YtknnnbpgkfaapaaGreatVInMath
import Derived.Test.YtknnnbpgkfaapaaGreatVIntsZ
import Derived.Test.YtknnnbpgkfaapaaGreatQ
import Derived.Test.YtknnnbpgkfaapaaGreatVLeadMath
import Derived.Laws.StructEq
import Derived.Deep.QuietTactic
import Derived.BigQuiet
set_option maxRecDepth 100000
set_option linter.unusedSimpArgs false
set_option linter.unusedVariables false
namespace Go.Proofs.YtknnnbpgkfaapaaGreat.Vm
open Go Go.RowKit
instance:DecidableEq Rec:=fun x y =>
 if h:x.a=y.a/\x.b=y.b/\x.c=y.c/\x.d=y.d/\x.e=y.e then .isTrue (Rec.same h.1 h.2.1 h.2.2.1 h.2.2.2.1 h.2.2.2.2)
 else .isFalse (fun e=>h (by subst e;exact ⟨rfl,rfl,rfl,rfl,rfl⟩))
theorem rec_eq {x y:Rec}(h:x=y):(x.a==y.a)=true/\(x.b==y.b)=true/\(x.c==y.c)=true/\(x.d==y.d)=true/\(x.e==y.e)=true:=by
 subst h;simp
theorem rec_ne {x y:Rec}(h:x≠y):(x.a==y.a)=false\/((x.a==y.a)=true/\(x.b==y.b)=false)\/((x.a==y.a)=true/\(x.b==y.b)=true/\(x.c==y.c)=false) \/
 ((x.a==y.a)=true/\(x.b==y.b)=true/\(x.c==y.c)=true/\(x.d==y.d)=false)\/((x.a==y.a)=true/\(x.b==y.b)=true/\(x.c==y.c)=true/\(x.d==y.d)=true/\(x.e==y.e)=false):=by
 have hh:¬ (x.a=y.a/\x.b=y.b/\x.c=y.c/\x.d=y.d/\x.e=y.e):=fun e=>h (Rec.same e.1 e.2.1 e.2.2.1 e.2.2.2.1 e.2.2.2.2)
 simp only [beq_eq_false_iff_ne,beq_iff_eq]
 by_cases h1:x.a=y.a
 · by_cases h2:x.b=y.b
   · by_cases h3:x.c=y.c
     · by_cases h4:x.d=y.d
       · exact .inr (.inr (.inr (.inr ⟨h1,h2,h3,h4,fun h5=>hh ⟨h1,h2,h3,h4,h5⟩⟩)))
       · exact .inr (.inr (.inr (.inl ⟨h1,h2,h3,h4⟩)))
     · exact .inr (.inr (.inl ⟨h1,h2,h3⟩))
   · exact .inr (.inl ⟨h1,h2⟩)
 · exact .inl h1
theorem take_moreR {xs ys:List Rec}{k n:Nat}(hx:xs.length=n)(hy:ys.length=n)(hk:k<n)(h:xs.take k=ys.take k)(he:xs.getD k zr=ys.getD k zr):xs.take (k+1)=ys.take (k+1):=by
 rw [List.take_succ_eq_append_getElem (by omega),List.take_succ_eq_append_getElem (by omega),h]
 simp only [List.getD,List.getElem?_eq_getElem (show k<xs.length by omega),List.getElem?_eq_getElem (show k<ys.length by omega),Option.getD_some] at he
 rw [he]
theorem ne_atR {xs ys:List Rec}{k:Nat}(he:xs.getD k zr≠ys.getD k zr):xs≠ys:=fun h=>he (by rw [h])
noncomputable def sameSt (s t:St):Bool:=yes (s.tick=t.tick/\s.rs=t.rs/\s.ts=t.ts/\s.bl=t.bl)
end Go.Proofs.YtknnnbpgkfaapaaGreat.Vm
namespace Go.Proofs.YtknnnbpgkfaapaaGreat.Vm
open Go Go.RowKit
theorem sameSt_rs {s t:St}(h:s.rs≠t.rs):sameSt s t=false:=zal fun hh=>h hh.2.1
theorem sameSt_ts {s t:St}(h:s.ts≠t.ts):sameSt s t=false:=zal fun hh=>h hh.2.2.1
theorem sameSt_bl {s t:St}(h:s.bl≠t.bl):sameSt s t=false:=zal fun hh=>h hh.2.2.2
theorem sameSt_tick {s t:St}(h:s.tick≠t.tick):sameSt s t=false:=zal fun hh=>h hh.1
theorem sameSt_all {s t:St}(h1:s.tick=t.tick)(h2:s.rs=t.rs)(h3:s.ts=t.ts)(h4:s.bl=t.bl):sameSt s t=true:=zby ⟨h1,h2,h3,h4⟩
set_option maxHeartbeats 2000000 in
theorem rstSame_any (h h':Sh)(s s':St)(B:Nat)(w:World)(hin:StIn w B h s)(hin':StIn w B h' s')(hB:B<=w.heap.size) :
 Calls Tryz.prog 8 #[shV h,shV h'] w fun e w'=>e=.returned (.bool (sameSt s s'))/\Below w.heap.size w w':=by
 obtain ⟨w2,hw2,hB2,hz2,hs2,hs2'⟩:=ss_head w h h'
 have HIN:=qz (hin.mono hB)
 have HIN':=qz (hin'.mono hB)
 have HT:=qz hin.tick
 have HT':=qz hin'.tick
 have HW2:=qz hw2
 have HS2:=qz hs2
 have HS2':=qz hs2'
 have hm1:=hin.rs.len
 have hm2:=hin.ts.len
 have hm1':=hin'.rs.len
 have hm2':=hin'.ts.len
 obtain ⟨t,a1,n1,c1,a2,n2,c2,a3,n3,c3⟩:=h
 obtain ⟨t',a1',n1',c1',a2',n2',c2',a3',n3',c3'⟩:=h'
 obtain ⟨tick,rs,ts,bl⟩:=s
 obtain ⟨tick',rs',ts',bl'⟩:=s'
 simp only [] at HT HT' hm1 hm2 hm1' hm2'
 unfold maxLen at hm1 hm2 hm1' hm2'
 obtain ⟨s0,s1,s2,s3⟩:=hs2
 obtain ⟨q0,q1,q2,q3⟩:=hs2'
 simp only [] at s0 s1 s2 s3 q0 q1 q2 q3
 have HRX:=qz HIN.out.rs.1
 have HRY:=qz HIN'.out.rs.1
 have HTX:=qz HIN.out.ts.1
 have HTY:=qz HIN'.out.ts.1
 simp only [] at HRX HRY HTX HTY
 have HBL:=qz fun (V:World) (hV:Below w.heap.size w V)=>ints_anyZ a3 a3' n3 c3 n3' c3' w.heap.size bl bl' V (HIN.out.bl.below hV) (HIN'.out.bl.below hV)
 have HBA:=qz hB2
 rw [HW2.out] at HBA
 clear hin hin' hw2
 by_cases ht:t≠t'
 · have e0:(t != t')=true:=by simpa using ht
   have HY:Hid (sameSt ⟨tick,rs,ts,bl⟩ ⟨tick',rs',ts',bl'⟩=false):=sameSt_tick (by rw [HT.out,HT'.out] at ht;exact ht)
   clear ht
   go_enter Tryz.func8,Tryz.ntmps8
   go_wp2_with fail
   go_ret
   exact ⟨zad HY.out.symm,HBA.out⟩
 have ht:=Classical.not_not.1 ht
 have HTT:Hid (tick=tick'):=by rw [HT.out,HT'.out] at ht;exact ht
 have e0:(t != t')=false:=by simpa using ht
 clear ht
 by_cases hn1:n1≠n1'
 · have e1:((n1:Int) != (n1':Int))=true:=by rw [bne_iff_ne];omega
   have HY:Hid (sameSt ⟨tick,rs,ts,bl⟩ ⟨tick',rs',ts',bl'⟩=false):=sameSt_rs (by intro h;simp only [] at h;rw [h,HRY.out] at HRX;exact hn1 HRX.out.symm)
   clear hn1
   go_enter Tryz.func8,Tryz.ntmps8
   go_wp2_with fail
   go_ret
   exact ⟨zad HY.out.symm,HBA.out⟩
 obtain rfl:=Classical.not_not.1 hn1
 have e1:((n1:Int) != (n1:Int))=false:=by simp
 clear hn1
 by_cases hn2:n2≠n2'
 · have e2:((n2:Int) != (n2':Int))=true:=by rw [bne_iff_ne];omega
   have HY:Hid (sameSt ⟨tick,rs,ts,bl⟩ ⟨tick',rs',ts',bl'⟩=false):=sameSt_ts (by intro h;simp only [] at h;rw [h,HTY.out] at HTX;exact hn2 HTX.out.symm)
   clear hn2
   go_enter Tryz.func8,Tryz.ntmps8
   go_wp2_with fail
   go_ret
   exact ⟨zad HY.out.symm,HBA.out⟩
 obtain rfl:=Classical.not_not.1 hn2
 have e2:((n2:Int) != (n2:Int))=false:=by simp
 clear hn2
 by_cases hbl:bl≠bl'
 · have HY:Hid (sameSt ⟨tick,rs,ts,bl⟩ ⟨tick',rs',ts',bl'⟩=false):=sameSt_bl hbl
   rw [decide_eq_false hbl] at HBL
   clear hbl
   go_enter Tryz.func8,Tryz.ntmps8
   go_wp2_with fail
   rw [<- HW2.out]
   refine (HBL.out _ hB2).mono ?_
   rintro e w3 ⟨rfl,m,rfl⟩
   go_wp2_with fail
   go_ret
   exact ⟨zad HY.out.symm,zaf hB2 _⟩
 have hbl:=Classical.not_not.1 hbl
 rw [decide_eq_true hbl] at HBL
 have HBB:=qz hbl
 clear hbl
 go_enter Tryz.func8,Tryz.ntmps8
 go_wp2_with fail
 rw [<- HW2.out]
 refine (HBL.out _ hB2).mono ?_
 rintro e w3 ⟨rfl,m,hw3⟩
 have hv3:Below w2.heap.size w2 w3:=by rw [hw3];exact zaf (zX _ _) m
 clear hw3
 obtain ⟨s0,s1,s2,s3⟩:=HS2.out.below hv3 (by omega)
 obtain ⟨q0,q1,q2,q3⟩:=HS2'.out.below hv3 (by omega)
 simp only [] at s0 s1 s2 s3 q0 q1 q2 q3
 go_wp2_with fail
 clear s0 s1 s2 s3 q0 q1 q2 q3
 go_loopw [5] (fun i wr=>∃ k:Nat,k<=n1/\i=.int .i64 k/\Below w2.heap.size w2 wr/\Hid (rs.take k=rs'.take k)) (fun i _=>n1-(intOf i).toNat)
 case atStart=>exact ⟨0,Nat.zero_le _,rfl,hv3,rfl⟩
 case round =>
  obtain ⟨k,hk,rfl,hbel,HA⟩:=hrel
  have hBr:=hB2.trans (hbel.mono hB2.size)
  have hzr:=hbel.size
  obtain ⟨s0,s1,s2,s3⟩:=HS2.out.below hbel (by omega)
  obtain ⟨q0,q1,q2,q3⟩:=HS2'.out.below hbel (by omega)
  simp only [] at s0 s1 s2 s3 q0 q1 q2 q3
  by_cases hlt:k<n1
  · obtain ⟨b,off,e',hb,hcs⟩:=HIN.out.rs.cells (show 0<n1 by omega)
    simp only [] at e'
    subst e'
    have hcell:=(hcs k hlt).below hBr (by omega)
    obtain ⟨b',off',e',hb',hcs'⟩:=HIN'.out.rs.cells (show 0<n1 by omega)
    simp only [] at e'
    subst e'
    have hcell':=(hcs' k hlt).below hBr (by omega)
    have hb3:b<wr.heap.size:=by have:=hBr.size;omega
    have hb3':b'<wr.heap.size:=by have:=hBr.size;omega
    simp only [] at hcell hcell'
    generalize hx:rs.getD k zr=x at hcell
    generalize hy:rs'.getD k zr=y at hcell'
    have HX1:=qz hx
    have HY1:=qz hy
    obtain ⟨p1,p2,p3,p4,p5⟩:=hcell
    obtain ⟨r1,r2,r3,r4,r5⟩:=hcell'
    clear hcs hcs' hx hy
    by_cases hxy:x=y
    · obtain ⟨f1,f2,f3,f4,f5⟩:=rec_eq hxy
      have HXY:=qz hxy
      clear hxy
      go_wp2
      go_quiet (fail)
      go_wp2
      go_roundw
      case rel=>exact ⟨k+1,by omega,by go_num,zaf hbel _,take_moreR HRX.out HRY.out hlt HA.out (by rw [HX1.out,HY1.out,HXY.out])⟩
      case measure=>simp [intOf];omega
    · have HXY:=qz hxy
      have HY:Hid (sameSt ⟨tick,rs,ts,bl⟩ ⟨tick',rs',ts',bl'⟩=false):=sameSt_rs (ne_atR (k:=k) (by simp only [];rw [HX1.out,HY1.out];exact hxy))
      have hr:=rec_ne hxy
      clear hxy
      rcases hr with f1|⟨f1,f2⟩|⟨f1,f2,f3⟩|⟨f1,f2,f3,f4⟩|⟨f1,f2,f3,f4,f5⟩
      all_goals
       go_wp2
       go_quiet (fail)
       go_wp2
       go_ret
       exact ⟨zad HY.out.symm,zaf hBr _⟩
  · have hkn:k=n1:=by omega
    rw [hkn] at HA
    have HRR:Hid (rs=rs'):=by
     have h1:=HA.out
     unfold Hid
     rwa [List.take_of_length_le (by rw [HRX.out];omega),List.take_of_length_le (by rw [HRY.out];omega)] at h1
    clear HA hkn hk
    go_wp2_with fail
    clear s0 s1 s2 s3 q0 q1 q2 q3
    go_loopw [6] (fun i wr=>∃ k:Nat,k<=n2/\i=.int .i64 k/\Below w2.heap.size w2 wr/\Hid (ts.take k=ts'.take k)) (fun i _=>n2-(intOf i).toNat)
    case atStart=>exact ⟨0,Nat.zero_le _,rfl,hbel,rfl⟩
    case round =>
     clear hbel hBr hzr
     obtain ⟨k,hk,rfl,hbel,HA⟩:=hrel
     have hBr:=hB2.trans (hbel.mono hB2.size)
     have hzr:=hbel.size
     obtain ⟨s0,s1,s2,s3⟩:=HS2.out.below hbel (by omega)
     obtain ⟨q0,q1,q2,q3⟩:=HS2'.out.below hbel (by omega)
     simp only [] at s0 s1 s2 s3 q0 q1 q2 q3
     by_cases hlt:k<n2
     · obtain ⟨b,off,e',hb,hcs⟩:=HIN.out.ts.cells (show 0<n2 by omega)
       simp only [] at e'
       subst e'
       have hcell:=(hcs k hlt).below hBr (by omega)
       obtain ⟨b',off',e',hb',hcs'⟩:=HIN'.out.ts.cells (show 0<n2 by omega)
       simp only [] at e'
       subst e'
       have hcell':=(hcs' k hlt).below hBr (by omega)
       have hb3:b<wr.heap.size:=by have:=hBr.size;omega
       have hb3':b'<wr.heap.size:=by have:=hBr.size;omega
       simp only [] at hcell hcell'
       generalize hx:ts.getD k zr=x at hcell
       generalize hy:ts'.getD k zr=y at hcell'
       have HX1:=qz hx
       have HY1:=qz hy
       obtain ⟨p1,p2,p3,p4,p5⟩:=hcell
       obtain ⟨r1,r2,r3,r4,r5⟩:=hcell'
       clear hcs hcs' hx hy
       by_cases hxy:x=y
       · obtain ⟨f1,f2,f3,f4,f5⟩:=rec_eq hxy
         have HXY:=qz hxy
         clear hxy
         go_wp2
         go_quiet (fail)
         go_wp2
         go_roundw
         case rel=>exact ⟨k+1,by omega,by go_num,zaf hbel _,take_moreR HTX.out HTY.out hlt HA.out (by rw [HX1.out,HY1.out,HXY.out])⟩
         case measure=>simp [intOf];omega
       · have HXY:=qz hxy
         have HY:Hid (sameSt ⟨tick,rs,ts,bl⟩ ⟨tick',rs',ts',bl'⟩=false):=sameSt_ts (ne_atR (k:=k) (by simp only [];rw [HX1.out,HY1.out];exact hxy))
         have hr:=rec_ne hxy
         clear hxy
         rcases hr with f1|⟨f1,f2⟩|⟨f1,f2,f3⟩|⟨f1,f2,f3,f4⟩|⟨f1,f2,f3,f4,f5⟩
         all_goals
          go_wp2
          go_quiet (fail)
          go_wp2
          go_ret
          exact ⟨zad HY.out.symm,zaf hBr _⟩
     · have hkn:k=n2:=by omega
       rw [hkn] at HA
       have HY:Hid (sameSt ⟨tick,rs,ts,bl⟩ ⟨tick',rs',ts',bl'⟩=true):=by
        have h1:=HA.out
        rw [List.take_of_length_le (by rw [HTX.out];omega),List.take_of_length_le (by rw [HTY.out];omega)] at h1
        exact sameSt_all HTT.out HRR.out h1 HBB.out
       clear HA
       go_wp2_with fail
       go_ret
       exact ⟨zad HY.out.symm,hBr⟩
end Go.Proofs.YtknnnbpgkfaapaaGreat.Vm
