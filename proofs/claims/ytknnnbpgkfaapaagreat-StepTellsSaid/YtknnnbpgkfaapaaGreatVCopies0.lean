import Derived.Test.YtknnnbpgkfaapaaGreatQ
import Derived.Test.YtknnnbpgkfaapaaGreatVLeadMath
import Derived.Test.YtknnnbpgkfaapaaGreatVAppendZ
import Derived.Test.YtknnnbpgkfaapaaGreatVInMath
import Derived.WalkLawsBesides
import Derived.Deep.RegionHeld3
set_option maxRecDepth 100000
set_option linter.unusedSimpArgs false
set_option linter.unusedVariables false
namespace Go.Proofs.YtknnnbpgkfaapaaGreat.Vm
open Go Go.RowKit
theorem info_robot:(Tryz.prog.info? 46).map (fun i=>(i.zero,i.size,i.bytes))=some (some (.agg #[.int .i64 0,.int .i64 0,.int .i64 0,.int .i64 0,.int .i64 0]),5,40):=by kernel_rfl
theorem info_task:(Tryz.prog.info? 48).map (fun i=>(i.zero,i.size,i.bytes))=some (some (.agg #[.int .i64 0,.int .i64 0,.int .i64 0,.int .i64 0,.int .i64 0]),5,40):=by kernel_rfl
theorem eql_nil {t e:TypeId}(ht:Tryz.prog.underlying t=some (.slice e))(a:Option Addr)(n c:Nat)(w:World):(binOp .eql t (.slice a n c) (.slice none 0 0)).run Tryz.prog w=.ok (.bool a.isNone) w:=by
 simp only [binOp]
 simp [run_equal_slice_nil w t e a n c ht,Result.andThen]
set_option maxHeartbeats 400000 in
theorem cloneR_any (a:Option Addr)(n c B:Nat)(rs:List Rec)(w:World)(h:RowR w B a n c rs)(hB:B<=w.heap.size)(hn:n<=100000) :
 Calls Tryz.prog 54 #[.slice a n c] w fun e w'=>∃ a' c',e=.returned (.slice a' n c')/\OwnR w' w.heap.size 46 (.slice a' n c') rs/\Below w.heap.size w w':=by
 have hl:=h.1
 have hen:=eql_nil Tryz.underlying24 a n c
 cases a with
 | none =>
   obtain rfl:n=0:=by
    rcases Nat.eq_zero_or_pos n with h0|h0
    · exact h0
    · obtain ⟨_,_,e,_⟩:=h.cells h0;cases e
   obtain rfl:=List.eq_nil_of_length_eq_zero hl
   clear h
   go_enter Tryz.func54,Tryz.ntmps54
   go_wp2_with fail
   go_ret
   exact ⟨none,0,rfl,ownR_nil _ _ _,zX _ _⟩
 | some ad =>
   obtain ⟨i0,hi0,hz0,hz1,hz2⟩:=info_parts info_robot
   have hcs:=fun o=>cells_rowR (h.below ((zX B w).alloc hB o))
   have HCS:=qz hcs
   have HOE:=qz (ownR_empty w 46 (zL _))
   have HL:=qz hl
   have HBE:=qz fun o:Obj=>(zX w.heap.size w).alloc (zL _) o
   clear hcs h hl
   go_enter Tryz.func54,Tryz.ntmps54
   go_wp2_with (at_builtin;refine wpList_append_own _ rfl (.tmp 5) (.tmp 6) 24 rfl w.heap.size 46 i0 (.agg #[.int .i64 0,.int .i64 0,.int .i64 0,.int .i64 0,.int .i64 0]) 5 40 Tryz.underlying24 hi0 hz0 hz1 hz2 rfl (by decide) _ _ _ rfl HOE.out ad n c (recs rs) rfl (by rw [zbj,HL.out]) (HCS.out _) (recs_one rs) (by simp only [maxLen,List.length_nil];omega) (by simp only [List.length_nil];omega) (by simp) ?_;intro v' w3 hown3 hgrow3 _)
   have HO:Hid (OwnR w3 w.heap.size 46 v' rs):=by
    unfold Hid OwnR
    rw [HL.out]
    simpa [recs] using hown3
   obtain ⟨a',c',rfl⟩:=HO.out.slice
   have HB3:=qz ((HBE.out _).grown hgrow3 (by simp) (fun k hk=>(World.ownsRow.lt HOE.out k hk).1))
   clear hown3 hgrow3
   go_wp2_with fail
   go_ret
   rw [HL.out] at HO ⊢
   exact ⟨a',c',rfl,HO.out,HB3.out⟩
set_option maxHeartbeats 400000 in
theorem cloneT_any (a:Option Addr)(n c B:Nat)(rs:List Rec)(w:World)(h:RowR w B a n c rs)(hB:B<=w.heap.size)(hn:n<=100000) :
 Calls Tryz.prog 55 #[.slice a n c] w fun e w'=>∃ a' c',e=.returned (.slice a' n c')/\OwnR w' w.heap.size 48 (.slice a' n c') rs/\Below w.heap.size w w':=by
 have hl:=h.1
 have hen:=eql_nil Tryz.underlying25 a n c
 cases a with
 | none =>
   obtain rfl:n=0:=by
    rcases Nat.eq_zero_or_pos n with h0|h0
    · exact h0
    · obtain ⟨_,_,e,_⟩:=h.cells h0;cases e
   obtain rfl:=List.eq_nil_of_length_eq_zero hl
   clear h
   go_enter Tryz.func55,Tryz.ntmps55
   go_wp2_with fail
   go_ret
   exact ⟨none,0,rfl,ownR_nil _ _ _,zX _ _⟩
 | some ad =>
   obtain ⟨i0,hi0,hz0,hz1,hz2⟩:=info_parts info_task
   have hcs:=fun o=>cells_rowR (h.below ((zX B w).alloc hB o))
   have HCS:=qz hcs
   have HOE:=qz (ownR_empty w 48 (zL _))
   have HL:=qz hl
   have HBE:=qz fun o:Obj=>(zX w.heap.size w).alloc (zL _) o
   clear hcs h hl
   go_enter Tryz.func55,Tryz.ntmps55
   go_wp2_with (at_builtin;refine wpList_append_own _ rfl (.tmp 5) (.tmp 6) 25 rfl w.heap.size 48 i0 (.agg #[.int .i64 0,.int .i64 0,.int .i64 0,.int .i64 0,.int .i64 0]) 5 40 Tryz.underlying25 hi0 hz0 hz1 hz2 rfl (by decide) _ _ _ rfl HOE.out ad n c (recs rs) rfl (by rw [zbj,HL.out]) (HCS.out _) (recs_one rs) (by simp only [maxLen,List.length_nil];omega) (by simp only [List.length_nil];omega) (by simp) ?_;intro v' w3 hown3 hgrow3 _)
   have HO:Hid (OwnR w3 w.heap.size 48 v' rs):=by
    unfold Hid OwnR
    rw [HL.out]
    simpa [recs] using hown3
   obtain ⟨a',c',rfl⟩:=HO.out.slice
   have HB3:=qz ((HBE.out _).grown hgrow3 (by simp) (fun k hk=>(World.ownsRow.lt HOE.out k hk).1))
   clear hown3 hgrow3
   go_wp2_with fail
   go_ret
   rw [HL.out] at HO ⊢
   exact ⟨a',c',rfl,HO.out,HB3.out⟩
set_option maxHeartbeats 400000 in
theorem cloneI_any (a:Option Addr)(n c B:Nat)(rs:List Int)(w:World)(h:RowZ .i64 w B a n c rs)(hB:B<=w.heap.size)(hn:n<=100000) :
 Calls Tryz.prog 56 #[.slice a n c] w fun e w'=>∃ a' c',e=.returned (.slice a' n c')/\OwnZ w' w.heap.size (.slice a' n c') rs/\Below w.heap.size w w':=by
 have hl:=h.1
 have hen:=eql_nil Tryz.underlying26 a n c
 cases a with
 | none =>
   obtain rfl:n=0:=by
    rcases Nat.eq_zero_or_pos n with h0|h0
    · exact h0
    · obtain ⟨_,_,e,_⟩:=h.cells h0;cases e
   obtain rfl:=List.eq_nil_of_length_eq_zero hl
   clear h
   go_enter Tryz.func56,Tryz.ntmps56
   go_wp2_with fail
   go_ret
   exact ⟨none,0,rfl,World.ownsRow_nil _ _ _ _,zX _ _⟩
 | some ad =>
   obtain ⟨i0,hi0,hz0,hz1,hz2⟩:=info_parts info_int
   have hcs:=fun o=>cells_rowZ (h.below ((zX B w).alloc hB o))
   have HCS:=qz hcs
   have HOE:=qz (ownZ_empty w (zL _))
   have HL:=qz hl
   have HBE:=qz fun o:Obj=>(zX w.heap.size w).alloc (zL _) o
   clear hcs h hl
   go_enter Tryz.func56,Tryz.ntmps56
   go_wp2_with (at_builtin;refine wpList_append_own _ rfl (.tmp 5) (.tmp 6) 26 rfl w.heap.size 3 i0 (.int .i64 0) 1 8 Tryz.underlying26 hi0 hz0 hz1 hz2 rfl (by decide) _ _ _ rfl HOE.out ad n c (zan rs) rfl (by rw [zch,HL.out,Nat.mul_one]) (HCS.out _) (by intro u hu;obtain ⟨_,_,rfl⟩:=List.mem_map.1 hu;rfl) (by simp only [maxLen,List.length_nil];omega) (by simp only [List.length_nil];omega) (by simp) ?_;intro v' w3 hown3 hgrow3 _)
   have HO:Hid (OwnZ w3 w.heap.size v' rs):=by
    unfold Hid OwnZ
    rw [HL.out]
    simpa [zan] using hown3
   obtain ⟨a',c',rfl⟩:=(own_slice HO.out)
   have HB3:=qz ((HBE.out _).grown hgrow3 (by simp) (fun k hk=>(World.ownsRow.lt HOE.out k hk).1))
   clear hown3 hgrow3
   go_wp2_with fail
   go_ret
   rw [HL.out] at HO ⊢
   exact ⟨a',c',rfl,HO.out,HB3.out⟩
theorem OwnZ.mono {w:World}{B B':Nat}{v:Value}{l:List Int}(h:OwnZ w B v l)(hB:B'<=B):OwnZ w B' v l:=by
 refine ⟨h.1,?_⟩
 rcases h.2 with h2|⟨g,cap,cur,hv,hb,r⟩
 · exact .inl h2
 · exact .inr ⟨g,cap,cur,hv,by omega,r⟩
structure CopyIn (w:World)(B:Nat)(h:Sh)(s:St):Prop where
 tick:h.t=s.tick
 rs:OwnR w B 46 (.slice h.a1 h.n1 h.c1) s.rs
 ts:OwnR w B 48 (.slice h.a2 h.n2 h.c2) s.ts
 bl:OwnZ w B (.slice h.a3 h.n3 h.c3) s.bl
 n1:h.n1=s.rs.length
 n2:h.n2=s.ts.length
 n3:h.n3=s.bl.length
theorem OwnZ.rowZ {w:World}{B:Nat}{a:Option Addr}{n c:Nat}{l:List Int}(h:OwnZ w B (.slice a n c) l):RowZ .i64 w w.heap.size a n c l:=by
 obtain ⟨a',c',e,hr⟩:=OwnZ.row h
 injection e with e1 e2 e3
 subst e1 e2 e3
 exact hr
theorem CopyIn.stIn {w:World}{B:Nat}{h:Sh}{s:St}(hc:CopyIn w B h s):StIn w w.heap.size h s:=⟨hc.tick,hc.rs.row,hc.ts.row,hc.bl.rowZ⟩
theorem zah {B b:Nat}{a V:World}(h:Below B a V)(hb:B<=b)(v0 v1 v2 v3:Value):Below B a ((((V.setCell ⟨b,0,none⟩ v0).setCell ⟨b,1,none⟩ v1).setCell ⟨b,2,none⟩ v2).setCell ⟨b,3,none⟩ v3) :=
 (((h.setCell (p:=⟨b,0,none⟩) hb v0).setCell (p:=⟨b,1,none⟩) hb v1).setCell (p:=⟨b,2,none⟩) hb v2).setCell (p:=⟨b,3,none⟩) hb v3
theorem zbc {B b n size:Nat}{e:TypeId}{v:Value}{xs:List Value}{V:World}(h:V.ownsRow B e size v n xs)(hb:b<B)(v0 v1 v2 v3:Value):((((V.setCell ⟨b,0,none⟩ v0).setCell ⟨b,1,none⟩ v1).setCell ⟨b,2,none⟩ v2).setCell ⟨b,3,none⟩ v3).ownsRow B e size v n xs :=
 ownsRow_setCell_below (ownsRow_setCell_below (ownsRow_setCell_below (ownsRow_setCell_below h (a:=⟨b,0,none⟩) hb v0) (a:=⟨b,1,none⟩) hb v1) (a:=⟨b,2,none⟩) hb v2) (a:=⟨b,3,none⟩) hb v3
theorem copy_set4 {w:World}{B b:Nat}{h:Sh}{s:St}(c:CopyIn w B h s)(hb:b<B)(v0 v1 v2 v3:Value):CopyIn ((((w.setCell ⟨b,0,none⟩ v0).setCell ⟨b,1,none⟩ v1).setCell ⟨b,2,none⟩ v2).setCell ⟨b,3,none⟩ v3) B h s :=
 ⟨c.tick,zbc c.rs hb v0 v1 v2 v3,zbc c.ts hb v0 v1 v2 v3,zbc c.bl hb v0 v1 v2 v3,c.n1,c.n2,c.n3⟩
theorem zcg {b:Nat}{V:World}{x0 x1 x2 x3:Value}(h0:V.cell? ⟨b,0,none⟩=some x0)(h1:V.cell? ⟨b,1,none⟩=some x1)(h2:V.cell? ⟨b,2,none⟩=some x2)(h3:V.cell? ⟨b,3,none⟩=some x3)(h:Sh) :
 StAt ((((V.setCell ⟨b,0,none⟩ (.int .i64 h.t)).setCell ⟨b,1,none⟩ (.slice h.a1 h.n1 h.c1)).setCell ⟨b,2,none⟩ (.slice h.a2 h.n2 h.c2)).setCell ⟨b,3,none⟩ (.slice h.a3 h.n3 h.c3)) b h:=by
 refine ⟨?_,?_,?_,?_⟩ <;> simp [go_sem,h0,h1,h2,h3]
set_option maxHeartbeats 1000000 in
theorem copy_any (h:Sh)(s:St)(B:Nat)(w:World)(hin:StIn w B h s)(hB:B<=w.heap.size)(hn1:h.n1<=100000)(hn2:h.n2<=100000)(hn3:h.n3<=100000) :
 Calls Tryz.prog 29 #[shV h] w fun e w'=>∃ h':Sh,e=.returned (shV h')/\CopyIn w' w.heap.size h' s/\Below w.heap.size w w':=by
 obtain ⟨w2,hw2,hB2,hz2,hs2,hs2'⟩:=ss_head w h ⟨0,none,0,0,none,0,0,none,0,0⟩
 have HIN:=qz (hin.mono hB)
 have HT:=qz hin.tick
 have HW2:=qz hw2
 obtain ⟨t,a1,n1,c1,a2,n2,c2,a3,n3,c3⟩:=h
 obtain ⟨tick,rs,ts,bl⟩:=s
 simp only [] at HT hn1 hn2 hn3
 obtain ⟨s0,s1,s2,s3⟩:=hs2
 obtain ⟨q0,q1,q2,q3⟩:=hs2'
 simp only [] at s0 s1 s2 s3 q0 q1 q2 q3
 clear hin hw2
 have hf0:∀ i,w2.frozen? ⟨w.heap.size+1,i,none⟩=false:=fun i=>by rw [HW2.out];simp
 have hks:∀ V,Below (w.heap.size+1) w2 V->(Below (w.heap.size+1) w2 V/\V.cell? ⟨w.heap.size,0,none⟩=some (.int .i64 t)/\V.cell? ⟨w.heap.size,1,none⟩=some (.slice a1 n1 c1)/\V.cell? ⟨w.heap.size,2,none⟩=some (.slice a2 n2 c2)/\V.cell? ⟨w.heap.size,3,none⟩=some (.slice a3 n3 c3)):=fun V hV =>
  ⟨hV,(hV.cell (p:=⟨w.heap.size,0,none⟩) (show w.heap.size<w.heap.size+1 by omega)).trans s0,(hV.cell (p:=⟨w.heap.size,1,none⟩) (show w.heap.size<w.heap.size+1 by omega)).trans s1,(hV.cell (p:=⟨w.heap.size,2,none⟩) (show w.heap.size<w.heap.size+1 by omega)).trans s2,(hV.cell (p:=⟨w.heap.size,3,none⟩) (show w.heap.size<w.heap.size+1 by omega)).trans s3⟩
 have hk1:∀ V,Kept w2 V->Below (w.heap.size+1) w2 V:=fun V hV=>Below.mono hV (by omega)
 have hin:∀ V,Kept w2 V->Below w.heap.size w V:=fun V hV=>hB2.trans (Below.mono hV (by omega))
 have hc1:∀ V,Kept w2 V->Calls Tryz.prog 54 #[.slice a1 n1 c1] V fun e V'=>∃ a' c',e=.returned (.slice a' n1 c')/\OwnR V' w2.heap.size 46 (.slice a' n1 c') rs/\Kept w2 V'/\Below (w.heap.size+1) w2 V':=fun V hV =>
  (cloneR_any a1 n1 c1 w.heap.size rs V (HIN.out.rs.below (hin V hV)) (hin V hV).size hn1).mono fun e V' ⟨a',c',he,ho,hb⟩=>by
   have hk:Kept w2 V':=Below.trans hV (hb.mono hV.size)
   exact ⟨a',c',he,ho.mono hV.size,hk,hk1 _ hk⟩
 have hc2:∀ V v,Kept w2 V->OwnR V w2.heap.size 46 v rs->Calls Tryz.prog 55 #[.slice a2 n2 c2] V fun e V'=>∃ a' c',e=.returned (.slice a' n2 c')/\OwnR V' w2.heap.size 46 v rs/\OwnR V' w2.heap.size 48 (.slice a' n2 c') ts/\Kept w2 V'/\Below (w.heap.size+1) w2 V':=fun V v hV hv =>
  (cloneT_any a2 n2 c2 w.heap.size ts V (HIN.out.ts.below (hin V hV)) (hin V hV).size hn2).mono fun e V' ⟨a',c',he,ho,hb⟩=>by
   have hk:Kept w2 V':=Below.trans hV (hb.mono hV.size)
   exact ⟨a',c',he,hv.calls hb,ho.mono hV.size,hk,hk1 _ hk⟩
 have hc3:∀ V v v',Kept w2 V->OwnR V w2.heap.size 46 v rs->OwnR V w2.heap.size 48 v' ts->Calls Tryz.prog 56 #[.slice a3 n3 c3] V fun e V'=>∃ a' c',e=.returned (.slice a' n3 c')/\(OwnR V' w2.heap.size 46 v rs/\OwnR V' w2.heap.size 48 v' ts/\OwnZ V' w2.heap.size (.slice a' n3 c') bl)/\Below (w.heap.size+1) w2 V' /\
  (V'.cell? ⟨w.heap.size+1,0,none⟩=some (.int .i64 0)/\V'.cell? ⟨w.heap.size+1,1,none⟩=some (.slice none 0 0)/\V'.cell? ⟨w.heap.size+1,2,none⟩=some (.slice none 0 0)/\V'.cell? ⟨w.heap.size+1,3,none⟩=some (.slice none 0 0)) /\
  (V'.frozen? ⟨w.heap.size+1,0,none⟩=false/\V'.frozen? ⟨w.heap.size+1,1,none⟩=false/\V'.frozen? ⟨w.heap.size+1,2,none⟩=false/\V'.frozen? ⟨w.heap.size+1,3,none⟩=false):=fun V v v' hV hv hv' =>
  (cloneI_any a3 n3 c3 w.heap.size bl V (HIN.out.bl.below (hin V hV)) (hin V hV).size hn3).mono fun e V' ⟨a',c',he,ho,hb⟩=>by
   have hk:Kept w2 V':=Below.trans hV (hb.mono hV.size)
   have hcc:∀ i,V'.cell? ⟨w.heap.size+1,i,none⟩=w2.cell? ⟨w.heap.size+1,i,none⟩:=fun i=>Below.cell hk (p:=⟨w.heap.size+1,i,none⟩) (show w.heap.size+1<w2.heap.size by omega)
   have hff:∀ i,V'.frozen? ⟨w.heap.size+1,i,none⟩=false:=fun i=>(Below.frozen hk (p:=⟨w.heap.size+1,i,none⟩) (show w.heap.size+1<w2.heap.size by omega)).trans (hf0 i)
   refine ⟨a',c',he,⟨hv.calls hb,hv'.calls hb,?_⟩,hk1 _ hk,⟨(hcc 0).trans q0,(hcc 1).trans q1,(hcc 2).trans q2,(hcc 3).trans q3⟩,hff 0,hff 1,hff 2,hff 3⟩
   exact OwnZ.mono ho hV.size
 have HKS:=qz hks
 have HC1:=qz hc1
 have HC2:=qz hc2
 have HC3:=qz hc3
 have k0:Kept w2 w2:=Kept.refl _
 have kb0:=hk1 _ k0
 clear hks hc1 hc2 hc3 hin hk1 q0 q1 q2 q3 hf0
 go_enter Tryz.func29,Tryz.ntmps29
 go_wp2_with fail
 rw [<- HW2.out]
 go_region_held3 (fun V=>Below (w.heap.size+1) w2 V/\V.cell? ⟨w.heap.size,0,none⟩=some (.int .i64 t)/\V.cell? ⟨w.heap.size,1,none⟩=some (.slice a1 n1 c1)/\V.cell? ⟨w.heap.size,2,none⟩=some (.slice a2 n2 c2)/\V.cell? ⟨w.heap.size,3,none⟩=some (.slice a3 n3 c3))
  (first|exact HKS.out _ (by assumption)|exact HKS.out _ (Below.drew (by assumption))|exact HKS.out _ (zah (by assumption) (zL _) _ _ _ _)|exact HKS.out _ (zah (Below.drew (by assumption)) (zL _) _ _ _ _))
  (first
   | (go_at_call 54;refine (HC1.out _ (by first|exact k0|exact Kept.drew k0)).mono ?_;rintro e wa ⟨x1,y1,rfl,o1,ka,kba⟩)
   | (go_at_call 55;refine (HC2.out _ _ (by first|exact ka|exact Kept.drew ka) (by first|exact o1|exact OwnR.drew o1)).mono ?_;rintro e wb ⟨x2,y2,rfl,o12,o2,kb,kbb⟩)
   | (go_at_call 56;refine (HC3.out _ _ _ (by first|exact kb|exact Kept.drew kb) (by first|exact o12|exact OwnR.drew o12) (by first|exact o2|exact OwnR.drew o2)).mono ?_;rintro e wc ⟨x3,y3,rfl,HO,kc,⟨q0,q1,q2,q3⟩,⟨f0,f1,f2,f3⟩⟩))
 have hst:=zcg q0 q1 q2 q3 ⟨t,x1,n1,y1,x2,n2,y2,x3,n3,y3⟩
 have HO1:=qz (zbc HO.1 (show w.heap.size+1<w2.heap.size by omega) (.int .i64 t) (.slice x1 n1 y1) (.slice x2 n2 y2) (.slice x3 n3 y3))
 have HO2:=qz (zbc HO.2.1 (show w.heap.size+1<w2.heap.size by omega) (.int .i64 t) (.slice x1 n1 y1) (.slice x2 n2 y2) (.slice x3 n3 y3))
 have HO3:=qz (zbc HO.2.2 (show w.heap.size+1<w2.heap.size by omega) (.int .i64 t) (.slice x1 n1 y1) (.slice x2 n2 y2) (.slice x3 n3 y3))
 have HBF:=qz (zah (hB2.trans (Below.mono kc (by omega))) (show w.heap.size<=w.heap.size+1 by omega) (.int .i64 t) (.slice x1 n1 y1) (.slice x2 n2 y2) (.slice x3 n3 y3))
 clear HO kc
 generalize ((((wc.setCell { block:=w.heap.size+1,off:=0 } (Value.int IntKind.i64 t)).setCell { block:=w.heap.size+1,off:=1 } (Value.slice x1 n1 y1)).setCell { block:=w.heap.size+1,off:=2 } (Value.slice x2 n2 y2)).setCell { block:=w.heap.size+1,off:=3 } (Value.slice x3 n3 y3))=V4 at hst HO1 HO2 HO3 HBF
 obtain ⟨s0,s1,s2,s3⟩:=hst
 simp only [] at s0 s1 s2 s3
 go_wp2_with fail
 exact bodyPost_ret (v:=shV ⟨t,x1,n1,y1,x2,n2,y2,x3,n3,y3⟩) (by simp [results,Tryz.results29,go_sem,s0,s1,s2,s3]) rfl
  ⟨⟨t,x1,n1,y1,x2,n2,y2,x3,n3,y3⟩,rfl,⟨HT.out,OwnR.mono HO1.out (by omega),OwnR.mono HO2.out (by omega),OwnZ.mono HO3.out (by omega),HIN.out.rs.1.symm,HIN.out.ts.1.symm,HIN.out.bl.1.symm⟩,HBF.out⟩
def setF (r:Rec)(j:Nat)(x:Int):Rec :=
 match j with
 | 0=>⟨x,r.b,r.c,r.d,r.e⟩
 | 1=>⟨r.a,x,r.c,r.d,r.e⟩
 | 2=>⟨r.a,r.b,x,r.d,r.e⟩
 | 3=>⟨r.a,r.b,r.c,x,r.e⟩
 | _=>⟨r.a,r.b,r.c,r.d,x⟩
theorem recL_setF (r:Rec)(x:Int){j:Nat}(hj:j<5):(recL r).set j (.int .i64 x)=recL (setF r j x):=by
 match j,hj with
 | 0,_=>rfl
 | 1,_=>rfl
 | 2,_=>rfl
 | 3,_=>rfl
 | 4,_=>rfl
theorem recs_setF (x:Int){j:Nat}(hj:j<5):∀ (rs:List Rec) (i:Nat),i<rs.length->(recs rs).set (i*5+j) (.int .i64 x)=recs (rs.set i (setF (rs.getD i zr) j x))
 | r :: t,0,_=>by
   show (recL r++recs t).set (0*5+j) _=recL (setF r j x)++recs t
   rw [Nat.zero_mul,Nat.zero_add,List.set_append_left _ _ (by simpa [recL] using hj),recL_setF r x hj]
 | r :: t,i+1,hi=>by
   have ih:=recs_setF x hj t i (by simpa using hi)
   show (recL r++recs t).set ((i+1)*5+j) _=recL r++recs (t.set i (setF (t.getD i zr) j x))
   rw [<- ih,List.set_append_right _ _ (by simp [recL];omega),show (i+1)*5+j-(recL r).length=i*5+j by simp [recL];omega]
theorem OwnR.setF {w:World}{B lb c n i j:Nat}{ty:TypeId}{rs:List Rec}(h:OwnR w B ty (.slice (some ⟨lb,0,none⟩) n c) rs)(hi:i<rs.length)(hj:j<5)(x:Int) :
 OwnR (w.setCell ⟨lb,i*5+j,none⟩ (.int .i64 x)) B ty (.slice (some ⟨lb,0,none⟩) n c) (rs.set i (setF (rs.getD i zr) j x)):=by
 have hn:n=rs.length:=by
  obtain ⟨a',c',e⟩:=h.slice
  injection e
 subst hn
 have h1:=(World.ownsRow.stored h (i*5+j) (.int .i64 x)).1
 unfold OwnR
 rw [List.length_set,<- recs_setF x hj rs i hi]
 exact h1
theorem zaj (w:World)(b i:Nat)(v:Value):w.grownBy (w.setCell ⟨b,i,none⟩ v) (some b) :=
 ⟨rfl,rfl,rfl,by simp [World.setCell],fun k _ hne=>Below.heap_setCell _ _ _ _ (fun e=>hne (by rw [e]))⟩
theorem OwnR.at {w:World}{B n c:Nat}{ty:TypeId}{a:Option Addr}{rs:List Rec}(h:OwnR w B ty (.slice a n c) rs)(hn:0<rs.length):∃ lb,a=some ⟨lb,0,none⟩/\B<=lb/\lb<w.heap.size/\(∀ i,i<rs.length->RecAt w lb (i*5) (rs.getD i zr))/\∀ i,w.frozen? ⟨lb,i,none⟩=false:=by
 rcases h.2 with ⟨hv,hn'⟩|⟨g,cap,cur,hv,hb,hg,_⟩
 · omega
 · have hnl:n=rs.length:=by
    obtain ⟨a',c',e⟩:=h.slice
    injection e
   injection hv with h1 h2 h3
   subst h1 hnl
   obtain ⟨b,off,e,hlt,hc⟩:=h.row.cells hn
   injection e with e
   injection e with e1 e2
   subst e1 e2
   exact ⟨g,rfl,hb,hlt,fun i hi=>by have:=hc i hi;rwa [Nat.zero_add] at this,fun i=>frozen_of_row w g i _ _ hg⟩
def OwnR0 (w:World)(B:Nat)(ty:TypeId)(v:Value)(rs:List Rec):Prop:=OwnR w B ty v rs\/(rs=[]/\∃ a,v=.slice a 0 0)
def OwnZ0 (w:World)(B:Nat)(v:Value)(l:List Int):Prop:=OwnZ w B v l\/(l=[]/\∃ a,v=.slice a 0 0)
section
variable {w w':World} {B B':Nat} {ty:TypeId} {v:Value} {rs:List Rec} {l:List Int}
theorem OwnR0.calls (h:OwnR0 w B ty v rs)(hb:Below w.heap.size w w'):OwnR0 w' B ty v rs:=h.imp (fun h=>h.calls hb) id
theorem OwnZ0.calls (h:OwnZ0 w B v l)(hb:Below w.heap.size w w'):OwnZ0 w' B v l:=h.imp (fun h=>zbp h hb (fun k hk=>(World.ownsRow.lt h k hk).2)) id
theorem OwnR0.mono (h:OwnR0 w B ty v rs)(hB:B'<=B):OwnR0 w B' ty v rs:=h.imp (fun h=>h.mono hB) id
theorem OwnZ0.mono (h:OwnZ0 w B v l)(hB:B'<=B):OwnZ0 w B' v l:=h.imp (fun h=>OwnZ.mono h hB) id
theorem OwnR0.slice (h:OwnR0 w B ty v rs):∃ a c,v=.slice a rs.length c:=by
 rcases h with h|⟨rfl,a,rfl⟩
 · exact h.slice
 · exact ⟨a,0,rfl⟩
theorem OwnZ0.slice (h:OwnZ0 w B v l):∃ a c,v=.slice a l.length c:=by
 rcases h with h|⟨rfl,a,rfl⟩
 · obtain ⟨a,c,e,_⟩:=OwnZ.row h
   exact ⟨a,c,e⟩
 · exact ⟨a,0,rfl⟩
theorem OwnR0.row {a:Option Addr}{n c:Nat}(h:OwnR0 w B ty (.slice a n c) rs):RowR w w.heap.size a n c rs:=by
 rcases h with h|⟨rfl,a',e⟩
 · exact h.row
 · injection e with e1 e2 e3
   subst e2 e3
   exact ⟨rfl,zL _,by simp [maxLen],fun h=>absurd h (by omega)⟩
theorem OwnZ0.row {a:Option Addr}{n c:Nat}(h:OwnZ0 w B (.slice a n c) l):RowZ .i64 w w.heap.size a n c l:=by
 rcases h with h|⟨rfl,a',e⟩
 · exact OwnZ.rowZ h
 · injection e with e1 e2 e3
   subst e2 e3
   exact ⟨rfl,zL _,by simp [maxLen],fun h=>absurd h (by omega)⟩
end
theorem run_append0_none {P:Program}{w:World}(t ty e:TypeId)(i:TypeInfo)(ht:P.underlying t=some (.slice e))(hi:P.info? e=some i)(ad:Option Addr)(ao:Option Addr)(c:Nat) :
 (Builtin.append_ #[t,t] ty #[.slice ad 0 0,.slice ao 0 c]).run P w=.ok (.slice ad 0 0) w:=by
 cases ad <;> cases ao <;> simp [Builtin.append_,run_underlying ht,sizeOf,typeInfo,hi,Builtin.lenOf,Builtin.firstCells,storeCells,loadCells,loadCellsFrom,Result.andThen]
theorem run_append0_r {w:World}(ty:TypeId){ad:Addr}{ao:Option Addr}{m c B2:Nat}{l:List Rec}(hr:RowR w B2 ao m c l)(hm:m<=100000) :
 ∃ v' w',(Builtin.append_ #[24,24] ty #[.slice (some ad) 0 0,.slice ao m c]).run Tryz.prog w=.ok v' w'/\OwnR0 w' w.heap.size 46 v' l/\Below w.heap.size w w':=by
 obtain ⟨i0,hi0,hz0,hz1,hz2⟩:=info_parts info_robot
 have hl:=hr.1
 by_cases h0:m=0
 · subst h0
   obtain rfl:=List.eq_nil_of_length_eq_zero hl
   exact ⟨_,_,run_append0_none _ ty _ i0 Tryz.underlying24 hi0 (some ad) ao c,.inr ⟨rfl,_,rfl⟩,zX _ _⟩
 · obtain ⟨b,off,rfl,_⟩:=hr.cells (by omega)
   have hrun:=run_append_grow (P:=Tryz.prog) (w:=w) 24 ty 46 i0 _ Tryz.underlying24 hi0 hz0 ad 0 0 [] (by simp) (by simp) ⟨b,off,none⟩ m c (recs l) (by rw [zbj,hl,hz1]) (cells_rowR hr) (by omega) (by omega) (growslice_fits (by omega) (by rw [hz2];omega))
   rw [Nat.zero_add] at hrun
   refine ⟨_,_,hrun,.inl ?_,((zX _ _).drew).alloc (zL _) _⟩
   refine ⟨zbj l,.inr ⟨w.heap.size,_,_,by rw [hl],zL _,heap_alloc_new w.drew _,by rw [hl];exact grownCap_ge w m 0 _,grownCap_le_maxLen w m 0 _ (by unfold maxLen;omega),?_,?_⟩⟩
   · have:=grownCap_ge w m 0 46
     simp [Builtin.zeroCells,Value.cells,zbj,hl]
     omega
   · rw [<- zbj]
     simp only [Array.toList_append]
     exact List.take_left' (by simp)
theorem run_append0_t {w:World}(ty:TypeId){ad:Addr}{ao:Option Addr}{m c B2:Nat}{l:List Rec}(hr:RowR w B2 ao m c l)(hm:m<=100000) :
 ∃ v' w',(Builtin.append_ #[25,25] ty #[.slice (some ad) 0 0,.slice ao m c]).run Tryz.prog w=.ok v' w'/\OwnR0 w' w.heap.size 48 v' l/\Below w.heap.size w w':=by
 obtain ⟨i0,hi0,hz0,hz1,hz2⟩:=info_parts info_task
 have hl:=hr.1
 by_cases h0:m=0
 · subst h0
   obtain rfl:=List.eq_nil_of_length_eq_zero hl
   exact ⟨_,_,run_append0_none _ ty _ i0 Tryz.underlying25 hi0 (some ad) ao c,.inr ⟨rfl,_,rfl⟩,zX _ _⟩
 · obtain ⟨b,off,rfl,_⟩:=hr.cells (by omega)
   have hrun:=run_append_grow (P:=Tryz.prog) (w:=w) 25 ty 48 i0 _ Tryz.underlying25 hi0 hz0 ad 0 0 [] (by simp) (by simp) ⟨b,off,none⟩ m c (recs l) (by rw [zbj,hl,hz1]) (cells_rowR hr) (by omega) (by omega) (growslice_fits (by omega) (by rw [hz2];omega))
   rw [Nat.zero_add] at hrun
   refine ⟨_,_,hrun,.inl ?_,((zX _ _).drew).alloc (zL _) _⟩
   refine ⟨zbj l,.inr ⟨w.heap.size,_,_,by rw [hl],zL _,heap_alloc_new w.drew _,by rw [hl];exact grownCap_ge w m 0 _,grownCap_le_maxLen w m 0 _ (by unfold maxLen;omega),?_,?_⟩⟩
   · have:=grownCap_ge w m 0 48
     simp [Builtin.zeroCells,Value.cells,zbj,hl]
     omega
   · rw [<- zbj]
     simp only [Array.toList_append]
     exact List.take_left' (by simp)
theorem run_append0_z {w:World}(ty:TypeId){ad:Addr}{ao:Option Addr}{m c B2:Nat}{l:List Int}(hr:RowZ .i64 w B2 ao m c l)(hm:m<=100000) :
 ∃ v' w',(Builtin.append_ #[26,26] ty #[.slice (some ad) 0 0,.slice ao m c]).run Tryz.prog w=.ok v' w'/\OwnZ0 w' w.heap.size v' l/\Below w.heap.size w w':=by
 obtain ⟨i0,hi0,hz0,hz1,hz2⟩:=info_parts info_int
 have hl:=hr.1
 by_cases h0:m=0
 · subst h0
   obtain rfl:=List.eq_nil_of_length_eq_zero hl
   exact ⟨_,_,run_append0_none _ ty _ i0 Tryz.underlying26 hi0 (some ad) ao c,.inr ⟨rfl,_,rfl⟩,zX _ _⟩
 · obtain ⟨b,off,rfl,_⟩:=hr.cells (by omega)
   have hrun:=run_append_grow (P:=Tryz.prog) (w:=w) 26 ty 3 i0 _ Tryz.underlying26 hi0 hz0 ad 0 0 [] (by simp) (by simp) ⟨b,off,none⟩ m c (zan l) (by rw [zch,hl,hz1];omega) (cells_rowZ hr) (by omega) (by omega) (growslice_fits (by omega) (by rw [hz2];omega))
   rw [Nat.zero_add] at hrun
   refine ⟨_,_,hrun,.inl ?_,((zX _ _).drew).alloc (zL _) _⟩
   refine ⟨by rw [zch,Nat.mul_one],.inr ⟨w.heap.size,_,_,by rw [hl],zL _,heap_alloc_new w.drew _,by rw [hl];exact grownCap_ge w m 0 _,grownCap_le_maxLen w m 0 _ (by unfold maxLen;omega),?_,?_⟩⟩
   · have:=grownCap_ge w m 0 3
     simp [Builtin.zeroCells,Value.cells,zch,hl]
     omega
   · rw [Nat.mul_one,<- zch]
     simp only [Array.toList_append]
     exact List.take_left' (by simp)
theorem step_append0_r {ops:Array Oper}{o:Oper}{a:Act}{w:World}{K:Act->World->Prop}{Q:Exit->Act->World->Prop}{E:Prop}(hgd:o.guard=none)(s x:Operand)
 (ho:o.op=.call { callee:=.builtin .append,args:=#[s,x],argTypes:=#[24,24] })
 {ad:Addr} (hs:a.eval s=.slice (some ad) 0 0) {ao:Option Addr} {m c B2:Nat} {l:List Rec} (hx:a.eval x=.slice ao m c) (hr:RowR w B2 ao m c l) (hm:m<=100000)
 (h:∀ v' w',OwnR0 w' w.heap.size 46 v' l->Below w.heap.size w w'->K (a.put o.dst v') w') :
 if Region.wanted o (yielded ops a.tmps)=true then Oper.wp Tryz.prog o a w K Q else E:=by
 have hw:Region.wanted o (yielded ops a.tmps)=true:=by simp [Region.wanted,hgd]
 rw [if_pos hw]
 obtain ⟨v',w',hrun,h1,h2⟩:=run_append0_r (ad:=ad) o.type hr hm
 unfold Oper.wp
 simp [execOp,ho,resolve,invoke,builtin,hs,hx,hrun,Result.andThen]
 exact h v' w' h1 h2
theorem step_append0_t {ops:Array Oper}{o:Oper}{a:Act}{w:World}{K:Act->World->Prop}{Q:Exit->Act->World->Prop}{E:Prop}(hgd:o.guard=none)(s x:Operand)
 (ho:o.op=.call { callee:=.builtin .append,args:=#[s,x],argTypes:=#[25,25] })
 {ad:Addr} (hs:a.eval s=.slice (some ad) 0 0) {ao:Option Addr} {m c B2:Nat} {l:List Rec} (hx:a.eval x=.slice ao m c) (hr:RowR w B2 ao m c l) (hm:m<=100000)
 (h:∀ v' w',OwnR0 w' w.heap.size 48 v' l->Below w.heap.size w w'->K (a.put o.dst v') w') :
 if Region.wanted o (yielded ops a.tmps)=true then Oper.wp Tryz.prog o a w K Q else E:=by
 have hw:Region.wanted o (yielded ops a.tmps)=true:=by simp [Region.wanted,hgd]
 rw [if_pos hw]
 obtain ⟨v',w',hrun,h1,h2⟩:=run_append0_t (ad:=ad) o.type hr hm
 unfold Oper.wp
 simp [execOp,ho,resolve,invoke,builtin,hs,hx,hrun,Result.andThen]
 exact h v' w' h1 h2
theorem step_append0_z {ops:Array Oper}{o:Oper}{a:Act}{w:World}{K:Act->World->Prop}{Q:Exit->Act->World->Prop}{E:Prop}(hgd:o.guard=none)(s x:Operand)
 (ho:o.op=.call { callee:=.builtin .append,args:=#[s,x],argTypes:=#[26,26] })
 {ad:Addr} (hs:a.eval s=.slice (some ad) 0 0) {ao:Option Addr} {m c B2:Nat} {l:List Int} (hx:a.eval x=.slice ao m c) (hr:RowZ .i64 w B2 ao m c l) (hm:m<=100000)
 (h:∀ v' w',OwnZ0 w' w.heap.size v' l->Below w.heap.size w w'->K (a.put o.dst v') w') :
 if Region.wanted o (yielded ops a.tmps)=true then Oper.wp Tryz.prog o a w K Q else E:=by
 have hw:Region.wanted o (yielded ops a.tmps)=true:=by simp [Region.wanted,hgd]
 rw [if_pos hw]
 obtain ⟨v',w',hrun,h1,h2⟩:=run_append0_z (ad:=ad) o.type hr hm
 unfold Oper.wp
 simp [execOp,ho,resolve,invoke,builtin,hs,hx,hrun,Result.andThen]
 exact h v' w' h1 h2
theorem zab {a w:World}(h:Kept a w)(o:Obj):Kept a (w.alloc o):=Below.alloc h h.size o
theorem kept_size {a b:World}(h:Kept a b):a.heap.size<=b.heap.size:=Below.size h
theorem kept_trans {a b c:World}(h:Kept a b)(h2:Kept b c):Kept a c:=Below.trans h (h2.mono h.size)
theorem kept_step {a X V:World}(h:Kept a X)(hb:Below X.heap.size X V):Kept a V:=Below.trans h (hb.mono h.size)
structure Copy0 (w:World)(B:Nat)(h:Sh)(s:St):Prop where
 tick:h.t=s.tick
 rs:OwnR0 w B 46 (.slice h.a1 h.n1 h.c1) s.rs
 ts:OwnR0 w B 48 (.slice h.a2 h.n2 h.c2) s.ts
 bl:OwnZ0 w B (.slice h.a3 h.n3 h.c3) s.bl
 n1:h.n1=s.rs.length
 n2:h.n2=s.ts.length
 n3:h.n3=s.bl.length
theorem Copy0.stIn {w:World}{B:Nat}{h:Sh}{s:St}(hc:Copy0 w B h s):StIn w w.heap.size h s:=⟨hc.tick,hc.rs.row,hc.ts.row,hc.bl.row⟩
theorem Copy0.calls {w w':World}{B:Nat}{h:Sh}{s:St}(hc:Copy0 w B h s)(hb:Below w.heap.size w w'):Copy0 w' B h s:=⟨hc.tick,hc.rs.calls hb,hc.ts.calls hb,hc.bl.calls hb,hc.n1,hc.n2,hc.n3⟩
theorem zap {B b:Nat}{ty:TypeId}{v:Value}{rs:List Rec}{V:World}(h:OwnR0 V B ty v rs)(hb:b<B)(v0 v1 v2 v3:Value):OwnR0 ((((V.setCell ⟨b,0,none⟩ v0).setCell ⟨b,1,none⟩ v1).setCell ⟨b,2,none⟩ v2).setCell ⟨b,3,none⟩ v3) B ty v rs:=h.imp (fun h=>zbc h hb v0 v1 v2 v3) id
theorem zbh {B b:Nat}{v:Value}{rs:List Int}{V:World}(h:OwnZ0 V B v rs)(hb:b<B)(v0 v1 v2 v3:Value):OwnZ0 ((((V.setCell ⟨b,0,none⟩ v0).setCell ⟨b,1,none⟩ v1).setCell ⟨b,2,none⟩ v2).setCell ⟨b,3,none⟩ v3) B v rs:=h.imp (fun h=>zbc h hb v0 v1 v2 v3) id
set_option maxHeartbeats 4000000 in
theorem rcopy_any (h:Sh)(s:St)(B:Nat)(w:World)(hin:StIn w B h s)(hB:B<=w.heap.size)(hn1:h.n1<=100000)(hn2:h.n2<=100000)(hn3:h.n3<=100000) :
 Calls Tryz.prog 30 #[shV h] w fun e w'=>∃ h':Sh,e=.returned (shV h')/\Copy0 w' w.heap.size h' s/\Below w.heap.size w w':=by
 obtain ⟨w2,hw2,hB2,hz2,hs2,hs2'⟩:=ss_head w h ⟨0,none,0,0,none,0,0,none,0,0⟩
 have hf0:∀ i,w2.frozen? ⟨w.heap.size+1,i,none⟩=false:=fun i=>by rw [hw2];simp
 have HW2:=qz hw2
 have HT:=qz hin.tick
 have HIN:Hid (∀ V,Kept w2 V->StIn V w.heap.size h s):=fun V hV=>((hin.mono hB).below hB2).below (Below.mono hV (by omega))
 obtain ⟨t,a1,n1,c1,a2,n2,c2,a3,n3,c3⟩:=h
 simp only [] at HT hn1 hn2 hn3
 have HQ:Hid (∀ V,Kept w2 V->StAt V (w.heap.size+1) ⟨0,none,0,0,none,0,0,none,0,0⟩):=fun V hV=>hs2'.below hV (by omega)
 have HQF:Hid (∀ V,Kept w2 V->∀ i,V.frozen? ⟨w.heap.size+1,i,none⟩=false):=fun V hV i=>(Below.frozen hV (p:=⟨w.heap.size+1,i,none⟩) (show w.heap.size+1<w2.heap.size by omega)).trans (hf0 i)
 have HB2:=qz hB2
 obtain ⟨s0,s1,s2,s3⟩:=hs2
 simp only [] at s0 s1 s2 s3
 have HKT:Hid (∀ V,Below (w.heap.size+1) w2 V->(Below (w.heap.size+1) w2 V/\V.cell? ⟨w.heap.size,0,none⟩=some (.int .i64 t)/\V.cell? ⟨w.heap.size,1,none⟩=some (.slice a1 n1 c1)/\V.cell? ⟨w.heap.size,2,none⟩=some (.slice a2 n2 c2)/\V.cell? ⟨w.heap.size,3,none⟩=some (.slice a3 n3 c3))):=fun V hV =>
  ⟨hV,(hV.cell (p:=⟨w.heap.size,0,none⟩) (show w.heap.size<w.heap.size+1 by omega)).trans s0,(hV.cell (p:=⟨w.heap.size,1,none⟩) (show w.heap.size<w.heap.size+1 by omega)).trans s1,(hV.cell (p:=⟨w.heap.size,2,none⟩) (show w.heap.size<w.heap.size+1 by omega)).trans s2,(hV.cell (p:=⟨w.heap.size,3,none⟩) (show w.heap.size<w.heap.size+1 by omega)).trans s3⟩
 have hzz:w.heap.size+1<=w2.heap.size:=by omega
 have HKS:Hid (∀ V,Kept w2 V->(Below (w.heap.size+1) w2 V/\V.cell? ⟨w.heap.size,0,none⟩=some (.int .i64 t)/\V.cell? ⟨w.heap.size,1,none⟩=some (.slice a1 n1 c1)/\V.cell? ⟨w.heap.size,2,none⟩=some (.slice a2 n2 c2)/\V.cell? ⟨w.heap.size,3,none⟩=some (.slice a3 n3 c3))):=fun V hV=>HKT.out V (Below.mono hV hzz)
 have HKQ:Hid (∀ V,Kept w2 V->∀ v0 v1 v2 v3,(fun V=>Below (w.heap.size+1) w2 V/\V.cell? ⟨w.heap.size,0,none⟩=some (.int .i64 t)/\V.cell? ⟨w.heap.size,1,none⟩=some (.slice a1 n1 c1)/\V.cell? ⟨w.heap.size,2,none⟩=some (.slice a2 n2 c2)/\V.cell? ⟨w.heap.size,3,none⟩=some (.slice a3 n3 c3)) ((((V.setCell ⟨w.heap.size+1,0,none⟩ v0).setCell ⟨w.heap.size+1,1,none⟩ v1).setCell ⟨w.heap.size+1,2,none⟩ v2).setCell ⟨w.heap.size+1,3,none⟩ v3)):=fun V hV v0 v1 v2 v3=>HKT.out _ (zah (Below.mono hV hzz) (zL _) v0 v1 v2 v3)
 have hltq:w.heap.size+1<w2.heap.size:=by omega
 clear hin hw2 hs2' hf0 hB2
 go_enter Tryz.func30,Tryz.ntmps30
 go_wp2_with fail
 rw [<- HW2.out]
 go_region_held3 (fun V=>Below (w.heap.size+1) w2 V/\V.cell? ⟨w.heap.size,0,none⟩=some (.int .i64 t)/\V.cell? ⟨w.heap.size,1,none⟩=some (.slice a1 n1 c1)/\V.cell? ⟨w.heap.size,2,none⟩=some (.slice a2 n2 c2)/\V.cell? ⟨w.heap.size,3,none⟩=some (.slice a3 n3 c3))
  (first|exact HKS.out _ (by with_reducible first|exact Kept.refl _|exact Kept.drew (Kept.refl _)|exact zab (Kept.refl _) _|exact Kept.drew (zab (Kept.refl _) _)|exact zab (zab (Kept.refl _) _) _|exact Kept.drew (zab (zab (Kept.refl _) _) _)|exact zab (zab (zab (Kept.refl _) _) _) _|exact Kept.drew (zab (zab (zab (Kept.refl _) _) _) _))|exact HKS.out _ (kept_trans (by assumption) (by with_reducible first|exact Kept.refl _|exact Kept.drew (Kept.refl _)|exact zab (Kept.refl _) _|exact Kept.drew (zab (Kept.refl _) _)|exact zab (zab (Kept.refl _) _) _|exact Kept.drew (zab (zab (Kept.refl _) _) _)|exact zab (zab (zab (Kept.refl _) _) _) _|exact Kept.drew (zab (zab (zab (Kept.refl _) _) _) _)))|exact HKQ.out _ (by assumption) _ _ _ _)
  (first
   | (refine step_append0_r rfl _ _ rfl rfl rfl (HIN.out _ (by with_reducible first|exact Kept.refl _|exact Kept.drew (Kept.refl _)|exact zab (Kept.refl _) _|exact Kept.drew (zab (Kept.refl _) _)|exact zab (zab (Kept.refl _) _) _|exact Kept.drew (zab (zab (Kept.refl _) _) _)|exact zab (zab (zab (Kept.refl _) _) _) _|exact Kept.drew (zab (zab (zab (Kept.refl _) _) _) _))).rs hn1 ?_;intro v1 V1 own1 kb1;obtain ⟨x1,y1,rfl⟩:=own1.slice
      replace own1:OwnR0 V1 w2.heap.size 46 (.slice x1 s.rs.length y1) s.rs:=own1.mono (kept_size (by with_reducible first|exact Kept.refl _|exact Kept.drew (Kept.refl _)|exact zab (Kept.refl _) _|exact Kept.drew (zab (Kept.refl _) _)|exact zab (zab (Kept.refl _) _) _|exact Kept.drew (zab (zab (Kept.refl _) _) _)|exact zab (zab (zab (Kept.refl _) _) _) _|exact Kept.drew (zab (zab (zab (Kept.refl _) _) _) _)))
      have kv1:Kept w2 V1:=kept_step (by with_reducible first|exact Kept.refl _|exact Kept.drew (Kept.refl _)|exact zab (Kept.refl _) _|exact Kept.drew (zab (Kept.refl _) _)|exact zab (zab (Kept.refl _) _) _|exact Kept.drew (zab (zab (Kept.refl _) _) _)|exact zab (zab (zab (Kept.refl _) _) _) _|exact Kept.drew (zab (zab (zab (Kept.refl _) _) _) _)) kb1)
   | (refine step_append0_t rfl _ _ rfl rfl rfl (HIN.out _ (kept_trans kv1 (by with_reducible first|exact Kept.refl _|exact Kept.drew (Kept.refl _)|exact zab (Kept.refl _) _|exact Kept.drew (zab (Kept.refl _) _)|exact zab (zab (Kept.refl _) _) _|exact Kept.drew (zab (zab (Kept.refl _) _) _)|exact zab (zab (zab (Kept.refl _) _) _) _|exact Kept.drew (zab (zab (zab (Kept.refl _) _) _) _)))).ts hn2 ?_;intro v2 V2 own2 kb2;obtain ⟨x2,y2,rfl⟩:=own2.slice
      replace own2:OwnR0 V2 w2.heap.size 48 (.slice x2 s.ts.length y2) s.ts:=own2.mono (kept_size (kept_trans kv1 (by with_reducible first|exact Kept.refl _|exact Kept.drew (Kept.refl _)|exact zab (Kept.refl _) _|exact Kept.drew (zab (Kept.refl _) _)|exact zab (zab (Kept.refl _) _) _|exact Kept.drew (zab (zab (Kept.refl _) _) _)|exact zab (zab (zab (Kept.refl _) _) _) _|exact Kept.drew (zab (zab (zab (Kept.refl _) _) _) _))))
      have k12:Kept V1 V2:=kept_step (by with_reducible first|exact Kept.refl _|exact Kept.drew (Kept.refl _)|exact zab (Kept.refl _) _|exact Kept.drew (zab (Kept.refl _) _)|exact zab (zab (Kept.refl _) _) _|exact Kept.drew (zab (zab (Kept.refl _) _) _)|exact zab (zab (zab (Kept.refl _) _) _) _|exact Kept.drew (zab (zab (zab (Kept.refl _) _) _) _)) kb2
      have kv2:Kept w2 V2:=kept_trans kv1 k12)
   | (refine step_append0_z rfl _ _ rfl rfl rfl (HIN.out _ (kept_trans kv2 (by with_reducible first|exact Kept.refl _|exact Kept.drew (Kept.refl _)|exact zab (Kept.refl _) _|exact Kept.drew (zab (Kept.refl _) _)|exact zab (zab (Kept.refl _) _) _|exact Kept.drew (zab (zab (Kept.refl _) _) _)|exact zab (zab (zab (Kept.refl _) _) _) _|exact Kept.drew (zab (zab (zab (Kept.refl _) _) _) _)))).bl hn3 ?_;intro v3 V3 own3 kb3;obtain ⟨x3,y3,rfl⟩:=own3.slice
      replace own3:OwnZ0 V3 w2.heap.size (.slice x3 s.bl.length y3) s.bl:=own3.mono (kept_size (kept_trans kv2 (by with_reducible first|exact Kept.refl _|exact Kept.drew (Kept.refl _)|exact zab (Kept.refl _) _|exact Kept.drew (zab (Kept.refl _) _)|exact zab (zab (Kept.refl _) _) _|exact Kept.drew (zab (zab (Kept.refl _) _) _)|exact zab (zab (zab (Kept.refl _) _) _) _|exact Kept.drew (zab (zab (zab (Kept.refl _) _) _) _))))
      have k23:Kept V2 V3:=kept_step (by with_reducible first|exact Kept.refl _|exact Kept.drew (Kept.refl _)|exact zab (Kept.refl _) _|exact Kept.drew (zab (Kept.refl _) _)|exact zab (zab (Kept.refl _) _) _|exact Kept.drew (zab (zab (Kept.refl _) _) _)|exact zab (zab (zab (Kept.refl _) _) _) _|exact Kept.drew (zab (zab (zab (Kept.refl _) _) _) _)) kb3
      have kv3:Kept w2 V3:=kept_trans kv2 k23
      obtain ⟨q0,q1,q2,q3⟩:=HQ.out V3 kv3
      have f0:=HQF.out V3 kv3 0
      have f1:=HQF.out V3 kv3 1
      have f2:=HQF.out V3 kv3 2
      have f3:=HQF.out V3 kv3 3))
 all_goals
  have hst:=zcg q0 q1 q2 q3 ⟨t,x1,s.rs.length,y1,x2,s.ts.length,y2,x3,s.bl.length,y3⟩
  have HO1:=qz (zap (own1.calls (kept_trans k12 k23)) hltq (.int .i64 t) (.slice x1 s.rs.length y1) (.slice x2 s.ts.length y2) (.slice x3 s.bl.length y3))
  have HO2:=qz (zap (own2.calls k23) hltq (.int .i64 t) (.slice x1 s.rs.length y1) (.slice x2 s.ts.length y2) (.slice x3 s.bl.length y3))
  have HO3:=qz (zbh own3 hltq (.int .i64 t) (.slice x1 s.rs.length y1) (.slice x2 s.ts.length y2) (.slice x3 s.bl.length y3))
  have HBF:=qz (zah (HB2.out.trans (Below.mono kv3 (by omega))) (show w.heap.size<=w.heap.size+1 by omega) (.int .i64 t) (.slice x1 s.rs.length y1) (.slice x2 s.ts.length y2) (.slice x3 s.bl.length y3))
  clear own1 own2 own3 kb1 kb2 kb3 k12 k23 kv1 kv2 kv3 q0 q1 q2 q3 f0 f1 f2 f3
  generalize ((((V3.setCell { block:=w.heap.size+1,off:=0 } (Value.int IntKind.i64 t)).setCell { block:=w.heap.size+1,off:=1 } (Value.slice x1 s.rs.length y1)).setCell { block:=w.heap.size+1,off:=2 } (Value.slice x2 s.ts.length y2)).setCell { block:=w.heap.size+1,off:=3 } (Value.slice x3 s.bl.length y3))=V at hst HO1 HO2 HO3 HBF
  obtain ⟨r0,r1,r2,r3⟩:=hst
  simp only [] at r0 r1 r2 r3
  go_wp2_with fail
  exact bodyPost_ret (v:=shV ⟨t,x1,s.rs.length,y1,x2,s.ts.length,y2,x3,s.bl.length,y3⟩) (by simp [results,Tryz.results30,go_sem,r0,r1,r2,r3]) rfl
   ⟨⟨t,x1,s.rs.length,y1,x2,s.ts.length,y2,x3,s.bl.length,y3⟩,rfl,⟨HT.out,HO1.out.mono (by omega),HO2.out.mono (by omega),HO3.out.mono (by omega),rfl,rfl,rfl⟩,HBF.out⟩
end Go.Proofs.YtknnnbpgkfaapaaGreat.Vm
namespace Go.Proofs.YtknnnbpgkfaapaaGreat.Vm
open Go Go.RowKit
theorem OwnR0.other {w:World}{B B' lb n c i:Nat}{ty ty':TypeId}{v u:Value}{rs rs':List Rec}(h:OwnR0 w B ty v rs)(ho:OwnR w B' ty' (.slice (some ⟨lb,0,none⟩) n c) rs')(hne:ty'≠ty):OwnR0 (w.setCell ⟨lb,i,none⟩ u) B ty v rs :=
 h.imp (fun h=>World.ownsRow.kept h (zaj w lb i u) (zbu ho h hne)) id
theorem OwnZ0.other {w:World}{B B' lb n c i:Nat}{ty':TypeId}{v u:Value}{l:List Int}{rs':List Rec}(h:OwnZ0 w B v l)(ho:OwnR w B' ty' (.slice (some ⟨lb,0,none⟩) n c) rs')(hne:ty'≠3):OwnZ0 (w.setCell ⟨lb,i,none⟩ u) B v l :=
 h.imp (fun h=>World.ownsRow.kept h (zaj w lb i u) (zbu ho h hne)) id
theorem OwnR0.full {w:World}{B:Nat}{ty:TypeId}{v:Value}{rs:List Rec}(h:OwnR0 w B ty v rs)(hn:0<rs.length):OwnR w B ty v rs:=by
 rcases h with h|⟨rfl,_⟩
 · exact h
 · simp at hn
section
variable {w:World} {B lb i j:Nat} {h:Sh} {s:St}
theorem Copy0.setR (m:Copy0 w B h s)(ha:h.a1=some ⟨lb,0,none⟩)(hi:i<s.rs.length)(hj:j<5)(x:Int) :
 Copy0 (w.setCell ⟨lb,i*5+j,none⟩ (.int .i64 x)) B h ⟨s.tick,s.rs.set i (setF (s.rs.getD i zr) j x),s.ts,s.bl⟩/\Below B w (w.setCell ⟨lb,i*5+j,none⟩ (.int .i64 x)):=by
 obtain ⟨hT,o1,o2,o3,e1,e2,e3⟩:=m
 have ho1:=o1.full (by omega)
 rw [ha] at ho1
 exact ⟨⟨hT,.inl (by rw [ha];exact ho1.setF hi hj x),o2.other ho1 (by decide),o3.other ho1 (by decide),by rw [e1];simp,e2,e3⟩,(zX _ _).setCell (p:=⟨lb,i*5+j,none⟩) (show B<=lb from (World.ownsRow.lt ho1 lb rfl).1) _⟩
theorem Copy0.setT (m:Copy0 w B h s)(ha:h.a2=some ⟨lb,0,none⟩)(hi:i<s.ts.length)(hj:j<5)(x:Int) :
 Copy0 (w.setCell ⟨lb,i*5+j,none⟩ (.int .i64 x)) B h ⟨s.tick,s.rs,s.ts.set i (setF (s.ts.getD i zr) j x),s.bl⟩/\Below B w (w.setCell ⟨lb,i*5+j,none⟩ (.int .i64 x)):=by
 obtain ⟨hT,o1,o2,o3,e1,e2,e3⟩:=m
 have ho2:=o2.full (by omega)
 rw [ha] at ho2
 exact ⟨⟨hT,o1.other ho2 (by decide),.inl (by rw [ha];exact ho2.setF hi hj x),o3.other ho2 (by decide),e1,by rw [e2];simp,e3⟩,(zX _ _).setCell (p:=⟨lb,i*5+j,none⟩) (show B<=lb from (World.ownsRow.lt ho2 lb rfl).1) _⟩
theorem Copy0.setRec (m:Copy0 w B h s)(ha:h.a1=some ⟨lb,0,none⟩)(hi:i<s.rs.length)(r:Rec) :
 Copy0 (((((w.setCell ⟨lb,i*5,none⟩ (.int .i64 r.a)).setCell ⟨lb,i*5+1,none⟩ (.int .i64 r.b)).setCell ⟨lb,i*5+2,none⟩ (.int .i64 r.c)).setCell ⟨lb,i*5+3,none⟩ (.int .i64 r.d)).setCell ⟨lb,i*5+4,none⟩ (.int .i64 r.e)) B h ⟨s.tick,s.rs.set i r,s.ts,s.bl⟩ /\
 Below B w (((((w.setCell ⟨lb,i*5,none⟩ (.int .i64 r.a)).setCell ⟨lb,i*5+1,none⟩ (.int .i64 r.b)).setCell ⟨lb,i*5+2,none⟩ (.int .i64 r.c)).setCell ⟨lb,i*5+3,none⟩ (.int .i64 r.d)).setCell ⟨lb,i*5+4,none⟩ (.int .i64 r.e)):=by
 obtain ⟨m1,b1⟩:=m.setR ha hi (show 0<5 by omega) r.a
 obtain ⟨m2,b2⟩:=m1.setR ha (i:=i) (by simpa using hi) (show 1<5 by omega) r.b
 obtain ⟨m3,b3⟩:=m2.setR ha (i:=i) (by simpa using hi) (show 2<5 by omega) r.c
 obtain ⟨m4,b4⟩:=m3.setR ha (i:=i) (by simpa using hi) (show 3<5 by omega) r.d
 obtain ⟨m5,b5⟩:=m4.setR ha (i:=i) (by simpa using hi) (show 4<5 by omega) r.e
 have hbb:=(((b1.trans b2).trans b3).trans b4).trans b5
 simp only [List.set_set] at m5
 rw [zba hi,zba hi,zba hi,zba hi] at m5
 exact ⟨m5,hbb⟩
end
end Go.Proofs.YtknnnbpgkfaapaaGreat.Vm
