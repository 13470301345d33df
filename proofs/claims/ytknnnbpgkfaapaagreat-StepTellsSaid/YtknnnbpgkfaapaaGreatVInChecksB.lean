import Derived.Test.YtknnnbpgkfaapaaGreatQ
import Derived.Test.YtknnnbpgkfaapaaGreatVRefFinds
import Derived.Test.YtknnnbpgkfaapaaGreatVCellIns
set_option maxRecDepth 100000
set_option linter.unusedSimpArgs false
set_option linter.unusedVariables false
namespace Go.Proofs.YtknnnbpgkfaapaaGreat.Vm
open Go Go.RowKit
theorem codeO_1 {fl:Int->Bool}{s:St}{x:Inp}(h:¬ (1<=x.a/\x.a<=2147483647)\/x.b=x.c):codeO fl s x=1:=by unfold codeO;rw [if_pos h]
theorem codeO_5 {fl:Int->Bool}{s:St}{x:Inp}(h:(1<=x.a/\x.a<=2147483647))(h0:x.b≠x.c)(h1:fl x.b=false\/fl x.c=false):codeO fl s x=5:=by
 unfold codeO;rw [if_neg (fun n=>n.elim (fun n=>n h) h0),if_pos h1]
theorem codeO_n {fl:Int->Bool}{s:St}{x:Inp}(h:(1<=x.a/\x.a<=2147483647))(h0:x.b≠x.c)(h1:fl x.b=true)(h2:fl x.c=true):codeO fl s x=if 0<=zat s.ts x.a then 6 else if 1000<=s.ts.length then 4 else 0:=by
 unfold codeO;rw [if_neg (fun n=>n.elim (fun n=>n h) h0),if_neg (by rw [h1,h2];simp)]
set_option maxHeartbeats 1000000 in
theorem checkOrder_any (W H:Int)(g:ByteArray)(h:Sh)(s:St)(x:Inp)(B:Nat)(w:World)(hg:g.size<=maxLen)(hin:StIn w B h s)(hB:B<=w.heap.size) :
 Calls Tryz.prog 103 #[zam W H g,shV h,inpV x] w fun e w'=>e=.returned (.int .i64 (codeO (zac (zaa g)) s x))/\Below w.heap.size w w':=by
 obtain ⟨w3,hw3,hB3,hz3,hg3,hs3,hx3⟩:=gsx_head w W H g h x
 have HW:=qz hw3
 have HB3:=qz hB3
 have HIN:=qz ((hin.mono hB).below hB3)
 have HFL:=qz fun (c:Int) (V:World)=>zcd W H c g V hg
 have HFD:=qz fun (V:World) (hV:Below w3.heap.size w3 V)=>find_any h s.ts x.a w.heap.size V ((HIN.out.below (hV.mono hB3.size)).ts) (by have:=hV.size;omega)
 have HG3:=qz hg3
 have HS3:=qz hs3
 have HX3:=qz hx3
 have HWY:=qz fun (h1:1<=x.a/\x.a<=2147483647) V=>iwithin_yes h1 V
 have HWN:=qz fun (h1:¬ (1<=x.a/\x.a<=2147483647)) V=>iwithin_no h1 V
 have HC1:=qz (codeO_1 (fl:=zac (zaa g)) (s:=s) (x:=x))
 have HC5:=qz (codeO_5 (fl:=zac (zaa g)) (s:=s) (x:=x))
 have HCN:=qz (codeO_n (fl:=zac (zaa g)) (s:=s) (x:=x))
 have HN2:=qz hin.ts.1
 have hnm:=hin.ts.len
 unfold maxLen at hnm
 obtain ⟨k,a,b,c⟩:=x
 obtain ⟨t,a1,n1,c1,a2,n2,c2,a3,n3,c3⟩:=h
 obtain ⟨g0,g1,g2⟩:=hg3
 obtain ⟨x0,x1,x2,x3⟩:=hx3
 simp only [] at x0 x1 x2 x3 HWY HWN HC1 HC5 HCN HFD HN2 hnm
 generalize codeO (zac (zaa g)) s ⟨k,a,b,c⟩=R at HC1 HC5 HCN
 obtain ⟨fb,hfb⟩:∃ fb,zac (zaa g) b=fb:=⟨_,rfl⟩
 obtain ⟨fc,hfc⟩:∃ fc,zac (zaa g) c=fc:=⟨_,rfl⟩
 have HFB:=qz fun V=>HFL.out b V
 have HFC:=qz fun V=>HFL.out c V
 rw [hfb] at HFB
 rw [hfc] at HFC
 rw [hfb,hfc] at HC5 HCN
 clear hw3 hB3 hs3 hin hg HFL hfb hfc
 by_cases h1:1<=a/\a<=2147483647
 · have HWI:=qz fun V=>HWY.out h1 V
   have HH1:=qz h1
   clear h1 HWY HWN
   go_enter Tryz.func103,Tryz.ntmps103
   go_wp2_with fail
   rw [<- HW.out]
   refine (HWI.out _).mono ?_
   rintro e w' ⟨rfl,rfl⟩
   by_cases h2:b=c
   · have e1:(b==c)=true:=by simpa using h2
     have HY:=qz (HC1.out (.inr h2))
     clear h2
     go_wp2_with fail
     go_ret
     exact ⟨ret_int' HY.out.symm,HB3.out⟩
   have e1:(b==c)=false:=by simpa using h2
   have HH2:Hid (b≠c):=h2
   clear h2
   go_wp2_with fail
   refine (HFB.out _).mono ?_
   rintro e w4 ⟨rfl,hb4⟩
   have hg4:=HG3.out.below hb4 (by omega)
   have hs4:=HS3.out.below hb4 (by omega)
   have hx4:=HX3.out.below hb4 (by omega)
   have HB4:=qz hb4
   obtain ⟨g0,g1,g2⟩:=hg4
   obtain ⟨s0,s1,s2,s3⟩:=hs4
   obtain ⟨x0,x1,x2,x3⟩:=hx4
   simp only [] at s0 s1 s2 s3 x0 x1 x2 x3
   clear hb4 HFB
   cases fb
   · have HY:=qz (HC5.out HH1.out HH2.out (.inl rfl))
     go_wp2_with fail
     go_ret
     exact ⟨ret_int' HY.out.symm,HB3.out.trans (HB4.out.mono HB3.out.size)⟩
   go_wp2_with fail
   refine (HFC.out _).mono ?_
   rintro e w5 ⟨rfl,hb5⟩
   have HB5:=qz (HB4.out.trans (hb5.mono HB4.out.size))
   have hs5:=HS3.out.below HB5.out (by omega)
   have hx5:=HX3.out.below HB5.out (by omega)
   clear g0 g1 g2 s0 s1 s2 s3 x0 x1 x2 x3
   obtain ⟨s0,s1,s2,s3⟩:=hs5
   obtain ⟨x0,x1,x2,x3⟩:=hx5
   simp only [] at s0 s1 s2 s3 x0 x1 x2 x3
   clear hb5 HFC
   cases fc
   · have HY:=qz (HC5.out HH1.out HH2.out (.inr rfl))
     go_wp2_with fail
     go_ret
     exact ⟨ret_int' HY.out.symm,HB3.out.trans (HB5.out.mono HB3.out.size)⟩
   have HY:=qz (HCN.out HH1.out HH2.out (by trivial) (by trivial))
   clear HC5 HCN HC1
   go_wp2_with fail
   refine (HFD.out _ HB5.out).mono ?_
   rintro e w6 ⟨rfl,hb6⟩
   have HB6:=qz (HB5.out.trans (hb6.mono HB5.out.size))
   have hs6:=HS3.out.below HB6.out (by omega)
   clear s0 s1 s2 s3 x0 x1 x2 x3
   obtain ⟨s0,s1,s2,s3⟩:=hs6
   simp only [] at s0 s1 s2 s3
   rw [HN2.out] at HY
   clear hb6 HFD
   generalize zat s.ts a=fd at HY
   by_cases h3:0<=fd
   · rw [if_pos h3] at HY
     go_wp2_with fail
     go_ret
     exact ⟨ret_int' HY.out.symm,HB3.out.trans (HB6.out.mono HB3.out.size)⟩
   rw [if_neg h3] at HY
   by_cases h4:1000<=n2
   · rw [if_pos h4] at HY
     have h4':(1000:Int)<=(n2:Int):=by omega
     clear h4
     go_wp2_with fail
     go_ret
     exact ⟨ret_int' HY.out.symm,HB3.out.trans (HB6.out.mono HB3.out.size)⟩
   · rw [if_neg h4] at HY
     have h4':¬ (1000:Int)<=(n2:Int):=by omega
     clear h4
     go_wp2_with fail
     go_ret
     exact ⟨ret_int' HY.out.symm,HB3.out.trans (HB6.out.mono HB3.out.size)⟩
 · have HWI:=qz fun V=>HWN.out h1 V
   have HY:=qz (HC1.out (.inl h1))
   clear h1 HWY HWN
   go_enter Tryz.func103,Tryz.ntmps103
   go_wp2_with fail
   rw [<- HW.out]
   refine (HWI.out _).mono ?_
   rintro e w' ⟨rfl,rfl⟩
   go_wp2_with fail
   go_ret
   exact ⟨ret_int' HY.out.symm,HB3.out⟩
set_option maxHeartbeats 1000000 in
theorem checkBlock_any (W H:Int)(g:ByteArray)(h:Sh)(s:St)(x:Inp)(B:Nat)(w:World)(hg:g.size<=maxLen)(hin:StIn w B h s)(hB:B<=w.heap.size)(hu:s.bl.Pairwise (·<·))(hn:s.bl.length<=100000) :
 Calls Tryz.prog 111 #[zam W H g,shV h,inpV x] w fun e w'=>e=.returned (.int .i64 (codeB (zac (zaa g)) s x))/\Below w.heap.size w w':=by
 obtain ⟨w3,hw3,hB3,hz3,hg3,hs3,hx3⟩:=gsx_head w W H g h x
 have HW:=qz hw3
 have HB3:=qz hB3
 have HIN:=qz ((hin.mono hB).below hB3)
 have HFL:=qz fun (V:World)=>zcd W H x.a g V hg
 have HS:=qz fun (V:World) (hV:Below w3.heap.size w3 V)=>search_any h.a3 h.n3 h.c3 w.heap.size s.bl x.a V ((HIN.out.below (hV.mono hB3.size)).bl) hu (by have:=hin.bl.1;omega)
 have HS3:=qz hs3
 have HX3:=qz hx3
 have HY:Hid (codeB (zac (zaa g)) s x=if zac (zaa g) x.a=false then 5 else if decide (x.a∈s.bl)=true then 6 else 0):=by
  unfold Hid codeB
  by_cases hm:x.a∈s.bl <;> simp [hm]
 obtain ⟨k,a,b,c⟩:=x
 obtain ⟨t,a1,n1,c1,a2,n2,c2,a3,n3,c3⟩:=h
 obtain ⟨g0,g1,g2⟩:=hg3
 obtain ⟨x0,x1,x2,x3⟩:=hx3
 simp only [] at x0 x1 x2 x3 HFL HS HY
 generalize codeB (zac (zaa g)) s ⟨k,a,b,c⟩=R at HY
 generalize zac (zaa g) a=fa at HFL HY
 generalize decide (a∈s.bl)=mm at HS HY
 clear hw3 hB3 hs3 hin hg hu hn
 go_enter Tryz.func111,Tryz.ntmps111
 go_wp2_with fail
 rw [<- HW.out]
 refine (HFL.out _).mono ?_
 rintro e w4 ⟨rfl,hb4⟩
 have hs4:=HS3.out.below hb4 (by omega)
 have hx4:=HX3.out.below hb4 (by omega)
 have HB4:=qz hb4
 clear g0 g1 g2 x0 x1 x2 x3
 obtain ⟨s0,s1,s2,s3⟩:=hs4
 obtain ⟨x0,x1,x2,x3⟩:=hx4
 simp only [] at s0 s1 s2 s3 x0 x1 x2 x3
 clear hb4 HFL
 cases fa
 · rw [if_pos rfl] at HY
   go_wp2_with fail
   go_ret
   exact ⟨ret_int' HY.out.symm,HB3.out.trans (HB4.out.mono HB3.out.size)⟩
 rw [if_neg (by simp)] at HY
 go_wp2_with fail
 refine (HS.out _ HB4.out).mono ?_
 rintro e w5 ⟨rfl,q,rfl⟩
 have HB5:=qz (zaf HB4.out q)
 cases mm
 · rw [if_neg (by simp)] at HY
   go_wp2_with fail
   go_ret
   exact ⟨ret_int' HY.out.symm,HB3.out.trans (HB5.out.mono HB3.out.size)⟩
 · rw [if_pos rfl] at HY
   go_wp2_with fail
   go_ret
   exact ⟨ret_int' HY.out.symm,HB3.out.trans (HB5.out.mono HB3.out.size)⟩
set_option maxHeartbeats 1000000 in
theorem checkClear_any (W H:Int)(g:ByteArray)(h:Sh)(s:St)(x:Inp)(B:Nat)(w:World)(hg:g.size<=maxLen)(hin:StIn w B h s)(hB:B<=w.heap.size)(hu:s.bl.Pairwise (·<·))(hn:s.bl.length<=100000) :
 Calls Tryz.prog 113 #[zam W H g,shV h,inpV x] w fun e w'=>e=.returned (.int .i64 (codeC (zac (zaa g)) s x))/\Below w.heap.size w w':=by
 obtain ⟨w3,hw3,hB3,hz3,hg3,hs3,hx3⟩:=gsx_head w W H g h x
 have HW:=qz hw3
 have HB3:=qz hB3
 have HIN:=qz ((hin.mono hB).below hB3)
 have HFL:=qz fun (V:World)=>zcd W H x.a g V hg
 have HS:=qz fun (V:World) (hV:Below w3.heap.size w3 V)=>search_any h.a3 h.n3 h.c3 w.heap.size s.bl x.a V ((HIN.out.below (hV.mono hB3.size)).bl) hu (by have:=hin.bl.1;omega)
 have HS3:=qz hs3
 have HX3:=qz hx3
 have HY:Hid (codeC (zac (zaa g)) s x=if zac (zaa g) x.a=false then 5 else if decide (x.a∈s.bl)=true then 0 else 10):=by
  unfold Hid codeC
  by_cases hm:x.a∈s.bl <;> simp [hm]
 obtain ⟨k,a,b,c⟩:=x
 obtain ⟨t,a1,n1,c1,a2,n2,c2,a3,n3,c3⟩:=h
 obtain ⟨g0,g1,g2⟩:=hg3
 obtain ⟨x0,x1,x2,x3⟩:=hx3
 simp only [] at x0 x1 x2 x3 HFL HS HY
 generalize codeC (zac (zaa g)) s ⟨k,a,b,c⟩=R at HY
 generalize zac (zaa g) a=fa at HFL HY
 generalize decide (a∈s.bl)=mm at HS HY
 clear hw3 hB3 hs3 hin hg hu hn
 go_enter Tryz.func113,Tryz.ntmps113
 go_wp2_with fail
 rw [<- HW.out]
 refine (HFL.out _).mono ?_
 rintro e w4 ⟨rfl,hb4⟩
 have hs4:=HS3.out.below hb4 (by omega)
 have hx4:=HX3.out.below hb4 (by omega)
 have HB4:=qz hb4
 clear g0 g1 g2 x0 x1 x2 x3
 obtain ⟨s0,s1,s2,s3⟩:=hs4
 obtain ⟨x0,x1,x2,x3⟩:=hx4
 simp only [] at s0 s1 s2 s3 x0 x1 x2 x3
 clear hb4 HFL
 cases fa
 · rw [if_pos rfl] at HY
   go_wp2_with fail
   go_ret
   exact ⟨ret_int' HY.out.symm,HB3.out.trans (HB4.out.mono HB3.out.size)⟩
 rw [if_neg (by simp)] at HY
 go_wp2_with fail
 refine (HS.out _ HB4.out).mono ?_
 rintro e w5 ⟨rfl,q,rfl⟩
 have HB5:=qz (zaf HB4.out q)
 cases mm
 · rw [if_neg (by simp)] at HY
   go_wp2_with fail
   go_ret
   exact ⟨ret_int' HY.out.symm,HB3.out.trans (HB5.out.mono HB3.out.size)⟩
 · rw [if_pos rfl] at HY
   go_wp2_with fail
   go_ret
   exact ⟨ret_int' HY.out.symm,HB3.out.trans (HB5.out.mono HB3.out.size)⟩
end Go.Proofs.YtknnnbpgkfaapaaGreat.Vm
