import Derived.Test.YtknnnbpgkfaapaaGreatQ
import Derived.Test.YtknnnbpgkfaapaaGreatVMines
import Derived.Test.YtknnnbpgkfaapaaGreatVRefFinds
import Derived.Test.YtknnnbpgkfaapaaGreatVCopies0
import Derived.Test.YtknnnbpgkfaapaaGreatVInChecksB
import Derived.StillTailTactics
import Derived.BigRegion
import Derived.RegionTactic
import Derived.Deep.RegionHeld3
set_option maxRecDepth 100000
set_option linter.unusedSimpArgs false
set_option linter.unusedVariables false
namespace Go.Proofs.YtknnnbpgkfaapaaGreat.Vm
open Go Go.RowKit
theorem x_head {w:World}{B b:Nat}{h:Sh}{s:St}(m:Mine w B b h s)(x:Inp) :
 ∃ w1,w1=w.alloc (inpO x 44)/\TurnsH w B b h s w1/\InpAt w1 w.heap.size x/\w1.heap.size=w.heap.size+1 :=
 ⟨_,rfl,.calls m ((zX _ _).alloc (zL _) _),inpAt_new w x _,by simp⟩
set_option maxHeartbeats 1000000 in
theorem stall_any (B b:Nat)(h:Sh)(s:St)(x:Inp)(w:World)(m:Mine w B b h s)(hr:IsR s x.a) :
 Calls Tryz.prog 110 #[.pointer (some ⟨b,0,none⟩),inpV x] w fun e w'=>e=.returned (.tuple #[])/\Turns w B b (turnH s x) w':=by
 obtain ⟨w1,hw1,t1,hx1,hz1⟩:=x_head m x
 obtain ⟨i,hxa,hi⟩:=isR_int hr
 obtain ⟨lb,ha,hlb,hltb,hcs,hfz⟩:=t1.m.c.rs.at (by omega)
 have HT:Hid (Turns w B b (turnH s x) ((w1.setCell ⟨lb,i*5+4,none⟩ (.int .i64 x.b)).drew)):=by
  have h1:=(t1.trans (t1.m.setR ha hi (show 4<5 by omega) x.b)).drew.t
  have e:turnH s x=⟨s.tick,s.rs.set i (setF (s.rs.getD i zr) 4 x.b),s.ts,s.bl⟩:=by
   unfold turnH
   rw [hxa,Int.toNat_natCast]
   rfl
  unfold Hid
  rw [e]
  exact h1
 have hc:=(hcs i hi).2.2.2.2
 have hf:=hfz (i*5+4)
 have s1:=t1.m.cell 1
 have hin:i<h.n1:=by have:=t1.m.c.n1;omega
 have hnm:=t1.m.stIn.rs.len
 unfold maxLen at hnm
 have HW:=qz hw1
 obtain ⟨t,a1,n1,c1,a2,n2,c2,a3,n3,c3⟩:=h
 obtain ⟨xk,xa,xb,xc⟩:=x
 obtain ⟨x0,x1,x2,x3⟩:=hx1
 simp only [] at ha hxa x0 x1 x2 x3 hin hnm HT
 subst ha hxa
 generalize (s.rs.getD i zr).e=old at hc
 simp at s1
 have hltb':=t1.m.lt
 clear t1 hcs hfz hr hw1 m hi hlb hltb
 go_enter Tryz.func110,Tryz.ntmps110
 go_wp2_with fail
 rw [<- HW.out]
 go_still_tail 10,(by kernel_rfl)
 change wpList _ _ _ _ _ w1.drew
 go_wp2_with fail
 go_end0
 exact ⟨rfl,HT.out⟩
theorem turnR_at {s:St}{x:Inp}{i:Nat}(hxa:x.a=(i:Int))(y:Int)(hy:(if (s.rs.getD i zr).c=0 then (0:Int) else 2)=y):turnR s x=⟨s.tick,s.rs.set i (setF (s.rs.getD i zr) 1 y),s.ts,s.bl⟩:=by
 unfold turnR repairR
 rw [hxa,Int.toNat_natCast,hy]
 rfl
set_option maxHeartbeats 1000000 in
theorem repair_any (B b:Nat)(h:Sh)(s:St)(x:Inp)(w:World)(m:Mine w B b h s)(hr:IsR s x.a) :
 Calls Tryz.prog 108 #[.pointer (some ⟨b,0,none⟩),inpV x] w fun e w'=>e=.returned (.tuple #[])/\Turns w B b (turnR s x) w':=by
 obtain ⟨w1,hw1,t1,hx1,hz1⟩:=x_head m x
 obtain ⟨i,hxa,hi⟩:=isR_int hr
 obtain ⟨lb,ha,hlb,hltb,hcs,hfz⟩:=t1.m.c.rs.at (by omega)
 have HT:=qz fun (y:Int) (hy:(if (s.rs.getD i zr).c=0 then (0:Int) else 2)=y) (n:Nat) =>
  (show Turns w B b (turnR s x) (((w1.drewN n).setCell ⟨lb,i*5+1,none⟩ (.int .i64 y))) by
   have t2:=t1.trans (.calls t1.m (zaf (zX _ _) n))
   rw [turnR_at hxa y hy]
   exact (t2.trans (t2.m.setR ha hi (show 1<5 by omega) y)).t)
 have hc:=(hcs i hi).2.1
 have hc2:=(hcs i hi).2.2.1
 have hf:=hfz (i*5+1)
 have s1:=t1.m.cell 1
 have hin:i<h.n1:=by have:=t1.m.c.n1;omega
 have hnm:=t1.m.stIn.rs.len
 unfold maxLen at hnm
 have HW:=qz hw1
 obtain ⟨t,a1,n1,c1,a2,n2,c2,a3,n3,c3⟩:=h
 obtain ⟨xk,xa,xb,xc⟩:=x
 obtain ⟨x0,x1,x2,x3⟩:=hx1
 simp only [] at ha hxa x0 x1 x2 x3 hin hnm HT
 subst ha hxa
 generalize (s.rs.getD i zr).b=old at hc
 generalize (s.rs.getD i zr).c=job at hc2 HT
 simp at s1
 have hltb':=t1.m.lt
 have hi0:(0:Int)<=(i:Int):=by omega
 have hi1:(i:Int)<(n1:Int):=by omega
 clear t1 hcs hfz hr hw1 m hi hlb
 by_cases hj:job=0
 · have e1:(job != 0)=false:=by simpa using hj
   have HT2:=qz fun n=>HT.out 0 (by rw [if_pos hj]) n
   clear hj HT
   go_enter Tryz.func108,Tryz.ntmps108
   go_wp2_with fail
   rw [<- HW.out]
   go_quiet (fail)
   go_wp2_with fail
   go_end0
   exact ⟨rfl,HT2.out nq⟩
 · have e1:(job != 0)=true:=by simpa using hj
   have HT2:=qz fun n=>HT.out 2 (by rw [if_neg hj]) n
   clear hj HT
   go_enter Tryz.func108,Tryz.ntmps108
   go_wp2_with fail
   rw [<- HW.out]
   go_quiet (fail)
   go_wp2_with fail
   go_end0
   exact ⟨rfl,HT2.out nq⟩
end Go.Proofs.YtknnnbpgkfaapaaGreat.Vm
namespace Go.Proofs.YtknnnbpgkfaapaaGreat.Vm
open Go Go.RowKit
theorem freeT_at_place {ts:List Rec}{id:Int}{k:Nat}(hk:k<ts.length)(hf:zat ts id=(k:Int)) :
 freeT ts id=(ts.set k (setF (ts.getD k zr) 3 1)).set k (setF ((ts.set k (setF (ts.getD k zr) 3 1)).getD k zr) 4 (-1)):=by
 unfold freeT
 rw [hf,if_neg (by omega),Int.toNat_natCast,zba hk,List.set_set]
 rfl
set_option maxHeartbeats 2000000 in
theorem release_any (B b:Nat)(h:Sh)(s:St)(id:Int)(w:World)(m:Mine w B b h s)(hid:0<=zat s.ts id) :
 Calls Tryz.prog 127 #[.pointer (some ⟨b,0,none⟩),.int .i64 id] w fun e w'=>e=.returned (.tuple #[])/\TurnsH w B b h ⟨s.tick,s.rs,freeT s.ts id,s.bl⟩ w':=by
 have HFD:=qz (find_any h s.ts id w.heap.size w m.stIn.ts (zL _))
 obtain ⟨k,hk,hf⟩:∃ k:Nat,k<s.ts.length/\zat s.ts id=k:=by
  rcases zbn s.ts id with ⟨e,_⟩|⟨k,hk,e,_⟩
  · omega
  · exact ⟨k,hk,e⟩
 rw [hf] at HFD
 obtain ⟨s0,s1,s2,s3⟩:=m.stAt
 have HM:=qz m
 have HFR:=qz (freeT_at_place hk hf)
 have hltb:=m.lt
 obtain ⟨t,a1,n1,c1,a2,n2,c2,a3,n3,c3⟩:=h
 simp only [] at s0 s1 s2 s3
 clear m hid hf
 go_enter Tryz.func127,Tryz.ntmps127
 go_wp2_with fail
 refine HFD.out.mono ?_
 rintro e w2 ⟨rfl,hb2⟩
 have t2:=TurnsH.calls HM.out hb2
 obtain ⟨lb,ha,hlb,hlt2,hcs,hfz⟩:=t2.m.c.ts.at (by omega)
 simp only [] at ha
 subst ha
 have hne:lb≠b:=fun e=>zbb t2.m.c.ts t2.m.o (by decide) (by rw [e];rfl)
 have hne':b≠lb:=fun e=>hne e.symm
 have HT:Hid (TurnsH w B b ⟨t,a1,n1,c1,some ⟨lb,0,none⟩,n2,c2,a3,n3,c3⟩ ⟨s.tick,s.rs,freeT s.ts id,s.bl⟩ (((w2.setCell ⟨lb,k*5+3,none⟩ (.int .i64 1)).setCell ⟨lb,k*5+4,none⟩ (.int .i64 (-1))).drew)):=by
  unfold Hid
  rw [HFR.out]
  have t3:=t2.trans (t2.m.setT rfl hk (show 3<5 by omega) 1)
  exact (t3.trans (t3.m.setT rfl (i:=k) (by simpa using hk) (show 4<5 by omega) (-1))).drew
 have hc3:=(hcs k hk).2.2.2.1
 have hc4:=(hcs k hk).2.2.2.2
 have f3:=hfz (k*5+3)
 have f4:=hfz (k*5+4)
 have hkn:k<n2:=by have:=t2.m.c.n2;simp only [] at this;omega
 have hnm:=t2.m.stIn.ts.len
 unfold maxLen at hnm
 simp only [] at hnm
 have hk0:(0:Int)<=(k:Int):=by omega
 have hk1:(k:Int)<(n2:Int):=by omega
 have q2:=t2.m.stAt.2.2.1
 simp only [] at q2
 have hlb2:=t2.m.lt
 generalize (s.ts.getD k zr).d=o3 at hc3
 generalize (s.ts.getD k zr).e=o4 at hc4
 clear s0 s1 s2 s3 hb2 HFD t2 hcs hfz HM HFR hlb
 go_wp2_with fail
 go_region
 all_goals go_wp2_with fail
 all_goals go_end0
 all_goals exact ⟨rfl,HT.out⟩
end Go.Proofs.YtknnnbpgkfaapaaGreat.Vm
namespace Go.Proofs.YtknnnbpgkfaapaaGreat.Vm
open Go Go.RowKit
theorem turnF_no {s:St}{x:Inp}{i:Nat}(hxa:x.a=(i:Int))(h1:(s.rs.getD i zr).b≠1):turnF s x=⟨s.tick,s.rs.set i (setF (s.rs.getD i zr) 1 4),s.ts,s.bl⟩:=by
 unfold turnF faultR
 rw [hxa,Int.toNat_natCast,if_neg h1,if_neg h1]
 rfl
theorem turnF_yes {s:St}{x:Inp}{i:Nat}(hi:i<s.rs.length)(hxa:x.a=(i:Int))(h1:(s.rs.getD i zr).b=1) :
 turnF s x=⟨s.tick,(s.rs.set i (setF (s.rs.getD i zr) 2 0)).set i (setF ((s.rs.set i (setF (s.rs.getD i zr) 2 0)).getD i zr) 1 4),freeT s.ts (s.rs.getD i zr).c,s.bl⟩:=by
 unfold turnF faultR
 rw [hxa,Int.toNat_natCast,if_pos h1,if_pos h1,zba hi,List.set_set]
 rfl
set_option maxHeartbeats 2000000 in
theorem fault_any (B b:Nat)(h:Sh)(s:St)(x:Inp)(w:World)(m:Mine w B b h s)(hr:IsR s x.a)(hfd:(s.rs.getD x.a.toNat zr).b=1->0<=zat s.ts (s.rs.getD x.a.toNat zr).c) :
 Calls Tryz.prog 106 #[.pointer (some ⟨b,0,none⟩),inpV x] w fun e w'=>e=.returned (.tuple #[])/\Turns w B b (turnF s x) w':=by
 obtain ⟨w1,hw1,t1,hx1,hz1⟩:=x_head m x
 obtain ⟨i,hxa,hi⟩:=isR_int hr
 obtain ⟨lb,ha,hlb,hltb,hcs,hfz⟩:=t1.m.c.rs.at (by omega)
 have hc:=(hcs i hi).2.1
 have hc2:=(hcs i hi).2.2.1
 have hf:=hfz (i*5+1)
 have s1:=t1.m.cell 1
 have hin:i<h.n1:=by have:=t1.m.c.n1;omega
 have hnm:=t1.m.stIn.rs.len
 unfold maxLen at hnm
 have HW:=qz hw1
 have HT1:=qz t1
 have HI:=qz hi
 rw [hxa,Int.toNat_natCast] at hfd
 have HF1:=qz fun h1=>turnF_yes hi hxa h1
 have HF0:=qz fun h1=>turnF_no (s:=s) hxa h1
 have HR:=qz fun (V:World) (m:Mine V B b h s) (h1:(s.rs.getD i zr).b=1)=>release_any B b h s (s.rs.getD i zr).c V m (hfd h1)
 obtain ⟨t,a1,n1,c1,a2,n2,c2,a3,n3,c3⟩:=h
 obtain ⟨xk,xa,xb,xc⟩:=x
 obtain ⟨x0,x1,x2,x3⟩:=hx1
 simp only [] at ha hxa x0 x1 x2 x3 hin hnm
 subst ha hxa
 generalize hj:(s.rs.getD i zr).c=job at hc2 HR HF1
 generalize hm:(s.rs.getD i zr).b=mode at hc HR HF1 HF0
 simp at s1
 have hltb':=t1.m.lt
 have hi0:(0:Int)<=(i:Int):=by omega
 have hi1:(i:Int)<(n1:Int):=by omega
 clear t1 hcs hfz hr hw1 m hi hlb hfd hj hm
 by_cases h1:mode=1
 · subst h1
   go_enter Tryz.func106,Tryz.ntmps106
   go_wp2_with fail
   rw [<- HW.out]
   go_quiet (fail)
   have t2:=HT1.out.trans (.calls HT1.out.m (zaf (zX _ _) nq))
   have HR2:=qz (HR.out _ t2.m (by trivial))
   have HT2:=qz t2
   clear t2 HR
   go_wp2_with fail
   refine HR2.out.mono ?_
   rintro e w3 ⟨rfl,t3⟩
   have t4:=HT2.out.trans t3
   obtain ⟨lb',ha,hlb,hltb3,hcs,hfz⟩:=t4.m.c.rs.at (by have:=HI.out;simp only [];omega)
   injection ha with ha
   injection ha with ha
   subst ha
   have d1:=(hcs i HI.out).2.1
   have d2:=(hcs i HI.out).2.2.1
   have f1:=hfz (i*5+1)
   have f2:=hfz (i*5+2)
   have HT:Hid (Turns w B b (turnF s ⟨xk,i,xb,xc⟩) ((w3.setCell ⟨lb,i*5+2,none⟩ (.int .i64 0)).setCell ⟨lb,i*5+1,none⟩ (.int .i64 4))):=by
    have t5:=t4.trans (t4.m.setR rfl HI.out (show 2<5 by omega) 0)
    unfold Hid
    rw [HF1.out (by trivial)]
    exact (t5.trans (t5.m.setR rfl (i:=i) (by have:=HI.out;simpa using this) (show 1<5 by omega) 4)).t
   simp only [] at d1 d2
   generalize (s.rs.getD i zr).b=o1 at d1
   generalize (s.rs.getD i zr).c=o2 at d2
   clear t3 t4 hcs hfz hc hc2 hf s1 x0 x1 x2 x3 HT2 HT1 HR2 HF1 HF0
   go_wp2_with fail
   go_end0
   exact ⟨rfl,HT.out⟩
 · have e1:(mode==1)=false:=by simpa using h1
   have HT:=qz fun (n:Nat)=>(show Turns w B b (turnF s ⟨xk,i,xb,xc⟩) ((w1.drewN n).setCell ⟨lb,i*5+1,none⟩ (.int .i64 4)) by
    have t2:=HT1.out.trans (.calls HT1.out.m (zaf (zX _ _) n))
    rw [HF0.out h1]
    exact (t2.trans (t2.m.setR rfl HI.out (show 1<5 by omega) 4)).t)
   clear h1 HT1 HR HF1 HF0
   go_enter Tryz.func106,Tryz.ntmps106
   go_wp2_with fail
   rw [<- HW.out]
   go_quiet (fail)
   go_wp2_with fail
   go_end0
   exact ⟨rfl,HT.out nq⟩
set_option maxHeartbeats 1000000 in
theorem rblocked_any (h:Sh)(s:St)(x:Int)(B:Nat)(w:World)(hin:StIn w B h s)(hB:B<=w.heap.size) :
 Calls Tryz.prog 77 #[shV h,.int .i64 x] w fun e w'=>∃ r:Int,e=.returned (.int .i64 r)/\((x∈s.bl/\0<=r)\/(x ∉ s.bl/\r<0))/\Below w.heap.size w w':=by
 have hb1:Below w.heap.size w (w.alloc (shO h)):=(zX _ _).alloc (zL _) _
 have hs1:=zbo w h
 have hz1:(w.alloc (shO h)).heap.size=w.heap.size+1:=by simp
 obtain ⟨w1,hw1⟩:∃ w1,w1=w.alloc (shO h):=⟨_,rfl⟩
 rw [<- hw1] at hb1 hs1 hz1
 have HW:=qz hw1
 have HB:=qz hb1
 have HC:=qz (((hin.bl.mono hB).below hb1).cells)
 have HL:=qz hin.bl.1
 have hnm:=Nat.le_trans hin.bl.2.1 hin.bl.2.2.1
 unfold maxLen at hnm
 obtain ⟨t,a1,n1,c1,a2,n2,c2,a3,n3,c3⟩:=h
 obtain ⟨s0,s1,s2,s3⟩:=hs1
 simp only [] at s0 s1 s2 s3 HC HL hnm
 clear hin hw1 hb1
 go_enter Tryz.func77,Tryz.ntmps77
 go_wp2_with fail
 rw [<- HW.out]
 go_loopw [5] (fun i wr=>∃ k:Nat,k<=n3/\i=.int .i64 k/\wr=w1/\Hid (∀ j,j<k->s.bl.getD j 0≠x)) (fun i _=>n3-(intOf i).toNat)
 case atStart=>exact ⟨0,Nat.zero_le _,rfl,rfl,fun j hj=>absurd hj (Nat.not_lt_zero _)⟩
 case round =>
  obtain ⟨k,hk,rfl,rfl,HA⟩:=hrel
  by_cases hlt:k<n3
  · obtain ⟨b,off,rfl,hb,hcs⟩:=HC.out (by omega)
    have hcell:=hcs k hlt
    obtain ⟨y,hy⟩:∃ y,s.bl.getD k 0=y:=⟨_,rfl⟩
    have HY:=qz hy
    rw [hy] at hcell
    have hk0:(0:Int)<=(k:Int):=by omega
    have hk1:(k:Int)<(n3:Int):=by omega
    clear hcs hy
    by_cases he:y=x
    · have e1:(y==x)=true:=by simpa using he
      have HM:Hid (x∈s.bl):=by
       unfold Hid
       rw [<- he,<- HY.out]
       exact mem_getD (by rw [HL.out];exact hlt)
      clear he
      go_wp2_with fail
      go_ret
      exact ⟨(k:Int),by first|rfl|trivial,.inl ⟨HM.out,by omega⟩,HB.out⟩
    · have e1:(y==x)=false:=by simpa using he
      have HE:Hid (s.bl.getD k 0≠x):=by unfold Hid;rw [HY.out];exact he
      clear he
      go_wp2_with fail
      go_roundw
      case rel=>exact ⟨k+1,by omega,by go_num,by first|rfl|trivial,upto_more HA.out HE.out⟩
      case measure=>simp [intOf];omega
  · have hkn:k=n3:=by omega
    subst hkn
    have HM:Hid (x ∉ s.bl):=fun hm=>by
     obtain ⟨i,hi,e⟩:=List.mem_iff_getElem.1 hm
     have:=HA.out i (by rw [<- HL.out];exact hi)
     simp [List.getD,hi,e] at this
    clear HA hlt
    go_wp2_with fail
    go_ret
    exact ⟨-1,by first|rfl|trivial,.inr ⟨HM.out,by omega⟩,HB.out⟩
end Go.Proofs.YtknnnbpgkfaapaaGreat.Vm
