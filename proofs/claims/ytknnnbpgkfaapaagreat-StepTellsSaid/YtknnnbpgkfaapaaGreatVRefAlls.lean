import Derived.Test.YtknnnbpgkfaapaaGreatQ
import Derived.Test.YtknnnbpgkfaapaaGreatVRapOrder
import Derived.Test.YtknnnbpgkfaapaaGreatVRapBlocks
import Derived.Test.YtknnnbpgkfaapaaGreatVApplyHead
import Derived.Deep.CutRange
import Derived.Deep.LoopGhost
import Derived.Deep.RegionHeld3
import Derived.BigRegion
import Derived.BigQuiet
set_option maxRecDepth 100000
set_option linter.unusedSimpArgs false
set_option linter.unusedVariables false
namespace Go.Proofs.YtknnnbpgkfaapaaGreat.Vm
open Go Go.RowKit
theorem right_fetch {fl:Int->Bool}{s:St}{a:Int}(h:RightP fl s)(hr:IsR s a)(hb:(s.rs.getD a.toNat zr).b=1):0<=zat s.ts (s.rs.getD a.toNat zr).c:=by
 have hm:=h.mode a.toNat (isR_nat hr)
 unfold ModeP at hm
 rcases hm with ⟨h1,_⟩|⟨_,k,_,e,_⟩|⟨h1,_⟩|⟨h1,_⟩
 · omega
 · omega
 · omega
 · omega
theorem rapply_any (W H:Int)(g:ByteArray)(h:Sh)(s:St)(x:Inp)(w:World)(hg:g.size<=maxLen)(hin:StIn w w.heap.size h s)(hr:RightP (zac (zaa g)) s)(hn:s.bl.length<=90000) :
 Calls Tryz.prog 47 #[zam W H g,shV h,inpV x] w fun e w'=>∃ h',e=.returned (.tuple #[shV h',.int .i64 (zbx (zac (zaa g)) s x)])/\Fine w' h s w.heap.size h' (zbt (zac (zaa g)) s x)/\Below w.heap.size w w':=by
 have hrn:=hr.rn
 have htn:=hr.tn
 have m1:=hin.rs.1
 have m2:=hin.ts.1
 have m3:=hin.bl.1
 unfold zbt
 by_cases h1:x.k=1
 · have e1:zbx (zac (zaa g)) s x=codeO (zac (zaa g)) s x:=by unfold zbx;rw [if_pos h1]
   have e2:turnS s x=turnO s x:=by unfold turnS;rw [if_pos h1]
   rw [e1,e2]
   exact rap_order W H g h s x w hg hin (by omega) (by omega) (by omega) h1
 by_cases h2:x.k=2
 · have e1:zbx (zac (zaa g)) s x=codeF s x:=by unfold zbx;rw [if_neg h1,if_pos h2]
   have e2:turnS s x=turnF s x:=by unfold turnS;rw [if_neg h1,if_pos h2]
   rw [e1,e2]
   exact rap_robot2 W H g h s x w hg hin (by omega) (by omega) (by omega) (fun h=>right_fetch hr h) h2
 by_cases h3:x.k=3
 · have e1:zbx (zac (zaa g)) s x=codeR s x:=by unfold zbx;rw [if_neg h1,if_neg h2,if_pos h3]
   have e2:turnS s x=turnR s x:=by unfold turnS;rw [if_neg h1,if_neg h2,if_pos h3]
   rw [e1,e2]
   exact rap_robot3 W H g h s x w hg hin (by omega) (by omega) (by omega) h3
 by_cases h4:x.k=4
 · have e1:zbx (zac (zaa g)) s x=codeH s x:=by unfold zbx;rw [if_neg h1,if_neg h2,if_neg h3,if_pos h4]
   have e2:turnS s x=turnH s x:=by unfold turnS;rw [if_neg h1,if_neg h2,if_neg h3,if_pos h4]
   rw [e1,e2]
   exact rap_robot4 W H g h s x w hg hin (by omega) (by omega) (by omega) h4
 by_cases h5:x.k=5
 · have e1:zbx (zac (zaa g)) s x=codeB (zac (zaa g)) s x:=by unfold zbx;rw [if_neg h1,if_neg h2,if_neg h3,if_neg h4,if_pos h5]
   have e2:turnS s x=turnB s x:=by unfold turnS;rw [if_neg h1,if_neg h2,if_neg h3,if_neg h4,if_pos h5]
   rw [e1,e2]
   exact rap_block W H g h s x w hg hin (by omega) (by omega) (by omega) (up_right hr).pairs h5
 by_cases h6:x.k=6
 · have e1:zbx (zac (zaa g)) s x=codeC (zac (zaa g)) s x:=by unfold zbx;rw [if_neg h1,if_neg h2,if_neg h3,if_neg h4,if_neg h5,if_pos h6]
   have e2:turnS s x=turnC s x:=by unfold turnS;rw [if_neg h1,if_neg h2,if_neg h3,if_neg h4,if_neg h5]
   rw [e1,e2]
   exact rap_clear W H g h s x w hg hin (by omega) (by omega) (by omega) (up_right hr).pairs h6
 have e1:zbx (zac (zaa g)) s x=3:=by unfold zbx;rw [if_neg h1,if_neg h2,if_neg h3,if_neg h4,if_neg h5,if_neg h6]
 rw [e1,if_neg (by omega)]
 exact rap_none W H g h s x w hin (by omega) (by omega) (by omega) (by omega)
end Go.Proofs.YtknnnbpgkfaapaaGreat.Vm
namespace Go.Proofs.YtknnnbpgkfaapaaGreat.Vm
open Go Go.RowKit
def Lies0 (V:World)(q B:Nat)(h:Sh)(s:St):Prop:=StIn V q h s\/Copy0 V B h s
theorem Lies0.stIn {V:World}{q B:Nat}{h:Sh}{s:St}(hl:Lies0 V q B h s)(hq:q<=V.heap.size):StIn V V.heap.size h s:=hl.elim (fun h=>h.mono hq) (fun h=>h.stIn)
theorem Lies0.calls {V V':World}{q B:Nat}{h:Sh}{s:St}(hl:Lies0 V q B h s)(hq:q<=V.heap.size)(hb:Below V.heap.size V V'):Lies0 V' q B h s :=
 hl.elim (fun h=>.inl (h.below (hb.mono hq))) (fun h=>.inr (h.calls hb))
theorem copy0_set4 {w:World}{B b:Nat}{h:Sh}{s:St}(c:Copy0 w B h s)(hb:b<B)(v0 v1 v2 v3:Value):Copy0 ((((w.setCell ⟨b,0,none⟩ v0).setCell ⟨b,1,none⟩ v1).setCell ⟨b,2,none⟩ v2).setCell ⟨b,3,none⟩ v3) B h s :=
 ⟨c.tick,zap c.rs hb v0 v1 v2 v3,zap c.ts hb v0 v1 v2 v3,zbh c.bl hb v0 v1 v2 v3,c.n1,c.n2,c.n3⟩
theorem Lies0.set4 {V:World}{q B b:Nat}{h:Sh}{s:St}(hl:Lies0 V q B h s)(hq:q<=b)(hb:b<B)(v0 v1 v2 v3:Value):Lies0 ((((V.setCell ⟨b,0,none⟩ v0).setCell ⟨b,1,none⟩ v1).setCell ⟨b,2,none⟩ v2).setCell ⟨b,3,none⟩ v3) q B h s :=
 hl.elim (fun h=>.inl (h.below (zah (zX _ _) hq v0 v1 v2 v3))) (fun h=>.inr (copy0_set4 h hb v0 v1 v2 v3))
theorem lies_alloc {wr w5:World}{q B B5:Nat}{hk h1:Sh}{sk sn:St}(f:Fine w5 hk sk B5 h1 sn)(hl:Lies0 wr q B hk sk)(hq:q<=wr.heap.size)(hB:B<=B5)(kd:Below wr.heap.size wr w5)(o:Obj):Lies0 (w5.alloc o) q B h1 sn:=by
 rcases f with ⟨rfl,rfl⟩|hc
 · exact hl.calls hq (kd.alloc kd.size o)
 · exact .inr ((hc.calls ((zX _ _).alloc (zL _) o)).mono hB)
theorem lies_set4 {wr w5:World}{q B B5 bt:Nat}{hk h1:Sh}{sk sn:St}(f:Fine w5 hk sk B5 h1 sn)(hl:Lies0 wr q B hk sk)(hq:q<=wr.heap.size)(hB:B<=B5)(kd:Below wr.heap.size wr w5)(hbt:bt<B5)(hbt2:wr.heap.size<=bt)(v0 v1 v2 v3:Value) :
 Lies0 ((((w5.setCell ⟨bt,0,none⟩ v0).setCell ⟨bt,1,none⟩ v1).setCell ⟨bt,2,none⟩ v2).setCell ⟨bt,3,none⟩ v3) q B h1 sn:=by
 rcases f with ⟨rfl,rfl⟩|hc
 · exact hl.calls hq (zah kd hbt2 v0 v1 v2 v3)
 · exact .inr ((copy0_set4 hc hbt v0 v1 v2 v3).mono hB)
def OwnE (w:World)(B:Nat)(v:Value)(l:List Int):Prop:=w.ownsRow B 40 1 v l.length (zan l)
theorem OwnE.row {w:World}{B:Nat}{v:Value}{l:List Int}(h:OwnE w B v l):∃ a c,v=.slice a l.length c/\RowZ .i64 w w.heap.size a l.length c l:=by
 rcases h.2 with ⟨rfl,hn⟩|⟨g,cap,cur,rfl,hb,hg,hnc,hm,hcs,htk⟩
 · have hn':l.length=0:=hn
   obtain rfl:=List.eq_nil_of_length_eq_zero hn'
   exact ⟨none,0,rfl,rfl,zL _,by simp [maxLen],fun h=>absurd h (by simp)⟩
 · refine ⟨_,cap,rfl,rfl,hnc,hm,fun _=>⟨g,0,rfl,(Array.getElem?_eq_some_iff.1 hg).1,fun i hi=>?_⟩⟩
   have:=World.ownsRow.cells h (g:=g) rfl i (.int .i64 (l.getD i 0)) (by simp [zan,List.getD,hi])
   rwa [Row.add] at this
theorem OwnE.calls {w w':World}{B:Nat}{v:Value}{l:List Int}(h:OwnE w B v l)(hb:Below w.heap.size w w'):OwnE w' B v l:=zbp h hb (fun k hk=>(World.ownsRow.lt h k hk).2)
theorem OwnE.lower {w:World}{B B':Nat}{v:Value}{l:List Int}(h:OwnE w B v l)(hB:B'<=B):OwnE w B' v l:=by
 refine ⟨h.1,?_⟩
 rcases h.2 with h2|⟨g,cap,cur,hv,hb,r⟩
 · exact .inl h2
 · exact .inr ⟨g,cap,cur,hv,by omega,r⟩
theorem run_push_e {w:World}(ty:TypeId){B:Nat}{v:Value}{l:List Int}(hown:OwnE w B v l){ad:Addr}{y:Int}{B2:Nat}(hr:RowZ .i64 w B2 (some ad) 1 1 [y])(hlen:l.length<=900000)(hB:B<=w.heap.size) :
 ∃ a' m' c' w',(Builtin.append_ #[32,32] ty #[v,.slice (some ad) 1 1]).run Tryz.prog w=.ok (.slice a' m' c') w'/\OwnE w' B (.slice a' m' c') (l++[y])/\Below B w w'/\∀ q B3 h s,q<=B->Lies0 w q B3 h s->Lies0 w' q B3 h s:=by
 obtain ⟨i0,hi0,hz0,hz1,hz2⟩:=info_parts info_errno
 obtain ⟨v',w',hrun,hown',hg,_⟩:=run_append_own (P:=Tryz.prog) w B 32 ty 40 i0 (.int .i64 0) 1 8 Tryz.underlying32 hi0 hz0 hz1 hz2 rfl (by decide) v l.length (zan l) hown ad 1 1 (zan [y]) (by simp [zan]) (cells_rowZ hr)
  (fun u hu=>by obtain ⟨_,_,rfl⟩:=List.mem_map.1 hu;rfl) (by unfold maxLen;omega) (by omega) hB
 have hb:=(zX B w).grown hg hB (fun k hk=>(World.ownsRow.lt hown k hk).1)
 have hown2:OwnE w' B v' (l++[y]):=by
  unfold OwnE
  rw [List.length_append]
  simpa [zan] using hown'
 obtain ⟨a',c',rfl,_⟩:=hown2.row
 refine ⟨a',_,c',w',hrun,hown2,hb,?_⟩
 · intro q B3 h s hq hl
   rcases hl with hl|c
   · exact .inl (hl.below (hb.mono hq))
   · exact .inr ⟨c.tick,c.rs.imp (fun h1=>World.ownsRow.kept h1 hg (zbu hown h1 (by decide))) id,c.ts.imp (fun h1=>World.ownsRow.kept h1 hg (zbu hown h1 (by decide))) id,c.bl.imp (fun h1=>World.ownsRow.kept h1 hg (zbu hown h1 (by decide))) id,c.n1,c.n2,c.n3⟩
set_option maxHeartbeats 4000000 in
theorem rall_own (W H:Int)(g:ByteArray)(h:Sh)(s:St)(a:Option Addr)(n c:Nat)(l:List Inp)(w:World)(hg:g.size<=maxLen)(hin:StIn w w.heap.size h s)(hl:RowI w w.heap.size a n c l)(hr:RightP (zac (zaa g)) s)(hn:s.bl.length<=80000)(hn2:n<=1000) :
 Calls Tryz.prog 23 #[zam W H g,shV h,.slice a n c] w fun e w'=>∃ h' a' c',e=.returned (.tuple #[shV h',.slice a' n c'])/\StIn w' w'.heap.size h' (allS (zac (zaa g)) s l)/\OwnE w' w.heap.size (.slice a' n c') (zbr (zac (zaa g)) s l)/\Below w.heap.size w w':=by
 obtain ⟨w3,hw3,hB3,hz3,hg3,hs3,hr3,hf3⟩:=gsz_head w W H g h
 have hfs:∀ i,w3.frozen? ⟨w.heap.size+1,i,none⟩=false:=fun i=>by
  obtain ⟨u,hu,_,zu,_⟩:=zbv w W H g h
  have h1:u.frozen? ⟨w.heap.size+1,i,none⟩=false:=by rw [hu];simp
  rw [hw3,<- hu]
  exact (((zX u.heap.size u).alloc (zL _) _).frozen (p:=⟨w.heap.size+1,i,none⟩) (by show w.heap.size+1<u.heap.size;omega)).trans h1
 have HW:=qz hw3
 have HB3:=qz hB3
 have HG3:=qz hg3
 have HS3:=qz hs3
 have HR3:=qz hr3
 have HF3:=qz hf3
 have HFS:=qz hfs
 have HZ3:=qz hz3
 have HL:=qz hl
 have HLL:=qz hl.1
 have HG:=qz hg
 have hc1:=hl.2.1
 have hc2:=hl.2.2.1
 unfold maxLen at hc2
 obtain ⟨fl,hfl⟩:∃ fl,zac (zaa g)=fl:=⟨_,rfl⟩
 have HFL:=qz hfl
 rw [hfl] at hr ⊢
 have HRA:=qz fun k=>all_right fl (l.take k) s hr
 have HBL:Hid (∀ k,k<=n->(allS fl s (l.take k)).bl.length<=90000):=fun k hk=>by
  have h1:=all_bl fl (l.take k) s
  rw [List.length_take] at h1
  omega
 have HLI0:Hid (Lies0 w3 (w.heap.size+1) w3.heap.size h s):=.inl ((hin.below hB3).mono (by omega))
 have hzz:w.heap.size<w3.heap.size:=by omega
 have hzz1:w.heap.size+1<w3.heap.size:=by omega
 have hzz2:w.heap.size+1+1<w3.heap.size:=by omega
 obtain ⟨t,a1,n1,c1,a2,n2,c2,a3,n3,c3⟩:=h
 obtain ⟨s0,s1,s2,s3⟩:=hs3
 simp only [] at s0 s1 s2 s3
 clear hw3 hB3 hg3 hr3 hf3 hfs hr hn hin hg hl hfl hz3
 go_enter Tryz.func23,Tryz.ntmps23
 go_wp2_with fail
 rw [<- HW.out]
 go_loopg [8,9] n (fun gg cs i wr=>∃ (k:Nat) (hk:Sh) (ea:Option Addr) (em ec:Nat),cs=.slice ea em ec/\k<=n/\n-k<=gg/\i=.int .i64 k/\Hid (StAt wr (w.heap.size+1) hk)/\Hid (∀ i,wr.frozen? ⟨w.heap.size+1,i,none⟩=false)/\Hid (Lies0 wr (w.heap.size+1) w3.heap.size hk (allS fl s (l.take k)))/\Hid (OwnE wr w3.heap.size (.slice ea em ec) (zbr fl s (l.take k)))/\Hid (Below (w.heap.size+1) w3 wr)/\Hid (StAt wr (w.heap.size+1+1) ⟨0,none,0,0,none,0,0,none,0,0⟩/\∀ i,wr.frozen? ⟨w.heap.size+1+1,i,none⟩=false)/\Hid (w3.heap.size<=wr.heap.size))
 case atStart=>exact ⟨0,_,none,0,0,rfl,Nat.zero_le _,by omega,rfl,HS3.out,HFS.out,HLI0.out,World.ownsRow_nil _ _ _ _,zX _ _,⟨HR3.out,HF3.out⟩,zL _⟩
 case round =>
  obtain ⟨k,hk,ea,em,ec,rfl,hkn,hgg,rfl,HS,HF,HLIE,HOE,HBR,HRZ,HZR⟩:=hrel
  have hzr:=HZR.out
  have HBW:Hid (Below w.heap.size w wr):=HB3.out.trans (HBR.out.mono (by omega))
  by_cases hlt:k<n
  · obtain ⟨bi,off,rfl,hbi,hcs⟩:=HL.out.2.2.2 (by omega)
    obtain ⟨p1,p2,p3,p4⟩:=hcs k hlt
    have i1:=(HBW.out.cell (p:=⟨bi,off+k*4,none⟩) hbi).trans p1
    have i2:=(HBW.out.cell (p:=⟨bi,off+k*4+1,none⟩) hbi).trans p2
    have i3:=(HBW.out.cell (p:=⟨bi,off+k*4+2,none⟩) hbi).trans p3
    have i4:=(HBW.out.cell (p:=⟨bi,off+k*4+3,none⟩) hbi).trans p4
    obtain ⟨x,hx⟩:∃ x,l.getD k zx=x:=⟨_,rfl⟩
    have HX:=qz hx
    rw [hx] at i1 i2 i3 i4
    obtain ⟨g0,g1,g2⟩:=HG3.out.below HBR.out (by omega)
    clear s0 s1 s2 s3
    obtain ⟨s0,s1,s2,s3⟩:=id HS.out
    have HIR:=qz (HLIE.out.stIn (by omega))
    obtain ⟨sk,hsk⟩:∃ sk,allS fl s (l.take k)=sk:=⟨_,rfl⟩
    have HR:=qz (HRA.out k)
    have hbl:=HBL.out k hkn
    have HAD:Hid (allS fl s (l.take (k+1))=zbt fl sk x):=by
     unfold Hid
     rw [take_x (by rw [HLL.out];exact hlt),allS_more,HX.out,hsk]
    have HCD:Hid (zbr fl s (l.take (k+1))=zbr fl s (l.take k)++[zbx fl sk x]):=by
     unfold Hid
     rw [take_x (by rw [HLL.out];exact hlt),codesS_more,HX.out,hsk]
    have HCL:Hid ((zbr fl s (l.take k)).length<=900000):=by
     unfold Hid
     rw [codesS_len,List.length_take]
     omega
    rw [hsk] at HIR HR HLIE hbl
    have HAP:Hid (∀ V,Below wr.heap.size wr V->Calls Tryz.prog 47 #[zam W H g,shV hk,inpV x] V fun e w'=>∃ h'',e=.returned (.tuple #[shV h'',.int .i64 (zbx fl sk x)])/\Fine w' hk sk V.heap.size h'' (zbt fl sk x)/\Below V.heap.size V w'/\Kept wr w'):=fun V hV=>by
     have:=rapply_any W H g hk sk x V HG.out ((HIR.out.below hV).mono hV.size) (by rw [HFL.out];exact HR.out) hbl
     rw [HFL.out] at this
     exact this.mono fun e w' ⟨h'',he,hc,hb⟩=>⟨h'',he,hc,hb,Below.trans hV (hb.mono hV.size)⟩
    generalize zbx fl sk x=code at HAP HCD
    generalize zbt fl sk x=sn at HAP HAD
    obtain ⟨xk,xa,xb,xc⟩:=x
    obtain ⟨u,b1,m1,d1,b2,m2,d2,b3,m3,d3⟩:=hk
    simp only [] at i1 i2 i3 i4 s0 s1 s2 s3
    have hwr:w.heap.size<wr.heap.size:=by omega
    have hwr1:w.heap.size+1<wr.heap.size:=by omega
    have hbiw:bi<wr.heap.size:=by omega
    have hn1':(k:Int)<(n:Int):=by omega
    clear hcs p1 p2 p3 p4 hx hsk hbl
    have k0:Kept wr wr:=Kept.refl _
    have HKS:Hid (∀ V,Kept wr V->Kept wr V/\V.cell? ⟨w.heap.size,0,none⟩=some (.int .i64 W)/\V.cell? ⟨w.heap.size,1,none⟩=some (.int .i64 H)/\V.cell? ⟨w.heap.size,2,none⟩=some (.string g)/\V.cell? ⟨w.heap.size+1,0,none⟩=some (.int .i64 u)/\V.cell? ⟨w.heap.size+1,1,none⟩=some (.slice b1 m1 d1)/\V.cell? ⟨w.heap.size+1,2,none⟩=some (.slice b2 m2 d2)/\V.cell? ⟨w.heap.size+1,3,none⟩=some (.slice b3 m3 d3)/\V.cell? ⟨bi,off+k*4,none⟩=some (.int .i64 xk)/\V.cell? ⟨bi,off+k*4+1,none⟩=some (.int .i64 xa)/\V.cell? ⟨bi,off+k*4+2,none⟩=some (.int .i64 xb)/\V.cell? ⟨bi,off+k*4+3,none⟩=some (.int .i64 xc)):=fun V hV=>⟨hV,(Below.cell hV (p:=⟨w.heap.size,0,none⟩) hwr).trans g0,(Below.cell hV (p:=⟨w.heap.size,1,none⟩) hwr).trans g1,(Below.cell hV (p:=⟨w.heap.size,2,none⟩) hwr).trans g2,(Below.cell hV (p:=⟨w.heap.size+1,0,none⟩) hwr1).trans s0,(Below.cell hV (p:=⟨w.heap.size+1,1,none⟩) hwr1).trans s1,(Below.cell hV (p:=⟨w.heap.size+1,2,none⟩) hwr1).trans s2,(Below.cell hV (p:=⟨w.heap.size+1,3,none⟩) hwr1).trans s3,(Below.cell hV (p:=⟨bi,off+k*4,none⟩) hbiw).trans i1,(Below.cell hV (p:=⟨bi,off+k*4+1,none⟩) hbiw).trans i2,(Below.cell hV (p:=⟨bi,off+k*4+2,none⟩) hbiw).trans i3,(Below.cell hV (p:=⟨bi,off+k*4+3,none⟩) hbiw).trans i4⟩
    have HZ0:Hid (StAt ((wr.alloc (.cells #[.int .i64 0,.slice none 0 0,.slice none 0 0,.slice none 0 0] 28)).drew) wr.heap.size ⟨0,none,0,0,none,0,0,none,0,0⟩):=zbo wr ⟨0,none,0,0,none,0,0,none,0,0⟩
    have HZF:Hid (∀ i,((wr.alloc (.cells #[.int .i64 0,.slice none 0 0,.slice none 0 0,.slice none 0 0] 28)).drew).frozen? ⟨wr.heap.size,i,none⟩=false):=fun i=>by simp
    go_wp2_with fail
    go_cut [10,11] from 12 to 32 (fun vt ve V=>∃ (bt:Nat) (h1:Sh),vt=.pointer (some ⟨bt,0,none⟩)/\ve=.int .i64 code/\Hid (StAt V bt h1)/\Hid (Lies0 V (w.heap.size+1) w3.heap.size h1 sn)/\Hid (Below wr.heap.size wr V)/\wr.heap.size<=bt/\bt<V.heap.size)
    case first =>
     go_region_held3 (fun V=>Kept wr V/\V.cell? ⟨w.heap.size,0,none⟩=some (.int .i64 W)/\V.cell? ⟨w.heap.size,1,none⟩=some (.int .i64 H)/\V.cell? ⟨w.heap.size,2,none⟩=some (.string g)/\V.cell? ⟨w.heap.size+1,0,none⟩=some (.int .i64 u)/\V.cell? ⟨w.heap.size+1,1,none⟩=some (.slice b1 m1 d1)/\V.cell? ⟨w.heap.size+1,2,none⟩=some (.slice b2 m2 d2)/\V.cell? ⟨w.heap.size+1,3,none⟩=some (.slice b3 m3 d3)/\V.cell? ⟨bi,off+k*4,none⟩=some (.int .i64 xk)/\V.cell? ⟨bi,off+k*4+1,none⟩=some (.int .i64 xa)/\V.cell? ⟨bi,off+k*4+2,none⟩=some (.int .i64 xb)/\V.cell? ⟨bi,off+k*4+3,none⟩=some (.int .i64 xc))
      (first|exact HKS.out _ (by assumption)|exact HKS.out _ (Kept.drew (by assumption))|exact HKS.out _ (zab (by assumption) _)|exact HKS.out _ (Kept.drew (zab (by assumption) _))|exact HKS.out _ (zah (by assumption) (zL _) _ _ _ _)|exact HKS.out _ (Kept.drew (zah (by assumption) (zL _) _ _ _ _)))
      (first
       | (go_at_call 47;refine (HAP.out _ ?_).mono ?_;(first|exact k0|exact Kept.drew k0|exact zab k0 _|exact Kept.drew (zab k0 _));rintro e w5 ⟨h1,rfl,hc5,hb5,kd⟩;obtain ⟨t',v1,q1,f1,v2,q2,f2,v3,q3,f3⟩:=h1
          try (obtain ⟨z0,z1,z2,z3⟩:=HZ0.out.below hb5 (by simp))
          try (have y0:=(hb5.frozen (p:=⟨wr.heap.size,0,none⟩) (by simp)).trans (HZF.out 0))
          try (have y1:=(hb5.frozen (p:=⟨wr.heap.size,1,none⟩) (by simp)).trans (HZF.out 1))
          try (have y2:=(hb5.frozen (p:=⟨wr.heap.size,2,none⟩) (by simp)).trans (HZF.out 2))
          try (have y3:=(hb5.frozen (p:=⟨wr.heap.size,3,none⟩) (by simp)).trans (HZF.out 3))))
     all_goals go_wp2_with fail
     all_goals go_meet
     all_goals (first
      | exact ⟨w5.heap.size,⟨t',v1,q1,f1,v2,q2,f2,v3,q3,f3⟩,rfl,rfl,zbo w5 ⟨t',v1,q1,f1,v2,q2,f2,v3,q3,f3⟩,lies_alloc hc5 HLIE.out (by omega) (by first|exact hzr|exact Nat.le_trans hzr (by simp)) kd _,zab kd _,Below.size kd,by simp⟩
      | exact ⟨wr.heap.size,⟨t',v1,q1,f1,v2,q2,f2,v3,q3,f3⟩,rfl,rfl,zcg z0 z1 z2 z3 ⟨t',v1,q1,f1,v2,q2,f2,v3,q3,f3⟩,lies_set4 hc5 HLIE.out (by omega) (Nat.le_trans hzr (by simp)) kd (by simp) (zL _) _ _ _ _,zah kd (zL _) _ _ _ _,zL _,by have:=Below.size kd;simp [World.setCell];(have:=hb5.size;simp at this;omega)⟩)
    case rest =>
     obtain ⟨bt,h1,rfl,rfl,HT,HC,HBV,hbt,hbtl⟩:=hcut
     have hzv:=HBV.out.size
     have HSV:=qz (HS.out.below HBV.out (by omega))
     have HFV:Hid (∀ i,wc.frozen? ⟨w.heap.size+1,i,none⟩=false):=fun i=>(HBV.out.frozen (p:=⟨w.heap.size+1,i,none⟩) hwr1).trans (HF.out i)
     clear s0 s1 s2 s3 g0 g1 g2 i1 i2 i3 i4
     obtain ⟨s0,s1,s2,s3⟩:=id HSV.out
     obtain ⟨t',v1,q1,f1,v2,q2,f2,v3,q3,f3⟩:=h1
     obtain ⟨x0,x1,x2,x3⟩:=id HT.out
     simp only [] at s0 s1 s2 s3 x0 x1 x2 x3
     have y0:=HFV.out 0
     have y1:=HFV.out 1
     have y2:=HFV.out 2
     have y3:=HFV.out 3
     obtain ⟨ws,hws⟩:∃ ws,ws=((((wc.setCell ⟨w.heap.size+1,0,none⟩ (.int .i64 t')).setCell ⟨w.heap.size+1,1,none⟩ (.slice v1 q1 f1)).setCell ⟨w.heap.size+1,2,none⟩ (.slice v2 q2 f2)).setCell ⟨w.heap.size+1,3,none⟩ (.slice v3 q3 f3)):=⟨_,rfl⟩
     have hbs:Below (w.heap.size+1) wc ws:=by rw [hws];exact zah (zX _ _) (zL _) _ _ _ _
     have hss:StAt ws (w.heap.size+1) ⟨t',v1,q1,f1,v2,q2,f2,v3,q3,f3⟩:=by rw [hws];exact zcg s0 s1 s2 s3 ⟨t',v1,q1,f1,v2,q2,f2,v3,q3,f3⟩
     have hfz:∀ b i,ws.frozen? ⟨b,i,none⟩=wc.frozen? ⟨b,i,none⟩:=fun b i=>by rw [hws];simp
     have hos:OwnE ws w3.heap.size (.slice ea em ec) (zbr fl s (l.take k)):=by rw [hws];exact zbc (HOE.out.calls HBV.out) hzz1 _ _ _ _
     have hls:Lies0 ws (w.heap.size+1) w3.heap.size ⟨t',v1,q1,f1,v2,q2,f2,v3,q3,f3⟩ sn:=by rw [hws];exact HC.out.set4 (zL _) hzz1 _ _ _ _
     have hrs:StAt ws (w.heap.size+1+1) ⟨0,none,0,0,none,0,0,none,0,0⟩:=by
      obtain ⟨e0,e1,e2,e3⟩:=HRZ.out.1.below HBV.out (by omega)
      rw [hws]
      exact ⟨by simpa [go_sem] using e0,by simpa [go_sem] using e1,by simpa [go_sem] using e2,by simpa [go_sem] using e3⟩
     have hzs:ws.heap.size=wc.heap.size:=by rw [hws];simp [World.setCell]
     have hba:Below ws.heap.size ws (ws.alloc (.cells #[.int .i64 code] 40)):=(zX _ _).alloc (zL _) _
     obtain ⟨ea',em',ec',w10,hrun,hown,hb10,hlies⟩:=run_push_e (w:=ws.alloc (.cells #[.int .i64 code] 40)) 32 (hos.calls hba) (one_rowZ ws code 40) HCL.out (by have:=hba.size;omega)
     have hbs10:=(hba.mono (show w3.heap.size<=ws.heap.size by omega)).trans hb10
     have HS10:=qz (hss.below hbs10 hzz1)
     have HF10:Hid (∀ i,w10.frozen? ⟨w.heap.size+1,i,none⟩=false):=fun i=>(hbs10.frozen (p:=⟨w.heap.size+1,i,none⟩) hzz1).trans ((hfz _ i).trans (HFV.out i))
     have HL10:=qz (hlies (w.heap.size+1) w3.heap.size _ _ (by omega) (hls.calls (by omega) hba))
     have HB10:=qz (((HBR.out.trans (HBV.out.mono (by omega))).trans hbs).trans (hbs10.mono (by omega)))
     have HR10:Hid (StAt w10 (w.heap.size+1+1) ⟨0,none,0,0,none,0,0,none,0,0⟩/\∀ i,w10.frozen? ⟨w.heap.size+1+1,i,none⟩=false):=⟨hrs.below hbs10 hzz2,fun i=>(hbs10.frozen (p:=⟨w.heap.size+1+1,i,none⟩) hzz2).trans ((hfz _ i).trans ((HBV.out.frozen (p:=⟨w.heap.size+1+1,i,none⟩) (by show w.heap.size+1+1<wr.heap.size;omega)).trans (HRZ.out.2 i)))⟩
     have HZ10:Hid (w3.heap.size<=w10.heap.size):=by have h1:=hba.size;have h2:=hb10.size;unfold Hid;omega
     have HO10:=qz hown
     rw [<- HCD.out] at HO10
     rw [<- HAD.out] at HL10
     rw [hzs,hws] at hrun
     clear hbs hss hfz hos hls hrs hzs hba hown hb10 hlies hbs10 hws
     go_wp2_with (at_builtin;refine Lib.wpList_append_run _ rfl _ _ _ _ rfl _ _ rfl rfl _ _ hrun ?_)
     go_roundg (n-(k+1))
     case measure=>omega
     case rel=>exact ⟨k+1,_,ea',em',ec',rfl,by omega,zL _,by go_num,HS10.out,HF10.out,HL10.out,HO10.out,HB10.out,HR10.out,HZ10.out⟩
  · obtain rfl:k=n:=by omega
    have ht:l.take k=l:=List.take_of_length_le (by rw [HLL.out];exact zL _)
    obtain ⟨e0,e1,e2,e3⟩:=HRZ.out.1
    have y0:=HRZ.out.2 0
    have y1:=HRZ.out.2 1
    have y2:=HRZ.out.2 2
    have y3:=HRZ.out.2 3
    obtain ⟨t',v1,q1,f1,v2,q2,f2,v3,q3,f3⟩:=hk
    clear s0 s1 s2 s3
    obtain ⟨s0,s1,s2,s3⟩:=id HS.out
    simp only [] at s0 s1 s2 s3 e0 e1 e2 e3
    have hl1:=HLIE.out.set4 (b:=w.heap.size+1+1) (by omega) hzz2 (.int .i64 t') (.slice v1 q1 f1) (.slice v2 q2 f2) (.slice v3 q3 f3)
    have hb1:=zah HBW.out (show w.heap.size<=w.heap.size+1+1 by omega) (.int .i64 t') (.slice v1 q1 f1) (.slice v2 q2 f2) (.slice v3 q3 f3)
    have ho1:OwnE _ w3.heap.size (.slice ea em ec) _:=zbc HOE.out hzz2 (.int .i64 t') (.slice v1 q1 f1) (.slice v2 q2 f2) (.slice v3 q3 f3)
    obtain ⟨a',c',hv,hrow⟩:=ho1.row
    have hlen:(zbr fl s (l.take k)).length=k:=by rw [codesS_len,List.length_take,HLL.out];omega
    rw [hlen] at hv
    injection hv with hv1 hv2 hv3
    subst hv1 hv2 hv3
    rw [ht] at hl1 ho1
    have HFIN:=qz (And.intro (hl1.stIn (by have:=hb1.size;simp [World.setCell];omega)) (And.intro (ho1.lower (show w.heap.size<=w3.heap.size by omega)) hb1))
    clear hl1 hb1 ho1 hrow hlen ht
    have hll:¬ (em:Int)<(em:Int):=by omega
    go_wp2_with fail
    refine bodyPost_ret (v:=.tuple #[shV ⟨t',v1,q1,f1,v2,q2,f2,v3,q3,f3⟩,.slice ea em ec]) (by simp [results,Tryz.results23,go_sem,e0,e1,e2,e3]) rfl ⟨⟨t',v1,q1,f1,v2,q2,f2,v3,q3,f3⟩,ea,ec,by first|rfl|trivial,?_⟩
    exact HFIN.out
end Go.Proofs.YtknnnbpgkfaapaaGreat.Vm
