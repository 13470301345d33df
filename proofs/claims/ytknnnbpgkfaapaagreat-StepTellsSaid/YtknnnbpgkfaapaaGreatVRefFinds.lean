import Derived.Test.YtknnnbpgkfaapaaGreatQ
import Derived.Test.YtknnnbpgkfaapaaGreatVSets
import Derived.Test.YtknnnbpgkfaapaaGreatVLeadMath
import Derived.Test.YtknnnbpgkfaapaaGreatVOwnIs
import Derived.Deep.AppendLies
import Derived.Deep.QuietTactic
import Derived.BigQuiet
set_option maxRecDepth 100000
set_option linter.unusedSimpArgs false
set_option linter.unusedVariables false
namespace Go.Proofs.YtknnnbpgkfaapaaGreat.Vm
open Go Go.RowKit Go.Maps
theorem grown_alloc (w:World)(o:Obj)(row:Option Nat):w.grownBy (w.alloc o) row :=
 have h:=World.grownBy_alloc w o none
 ⟨h.os,h.tape,h.output,h.size,fun i hi _=>h.block i hi (by simp)⟩
set_option maxHeartbeats 400000 in
theorem add_no (mb m:Nat)(bl:List Int)(c:Int)(w:World)(h:ShutIn w mb m bl)(hc:(Lit.int .i64 c).wf=true)(hin:c∈bl) :
 Calls Tryz.prog 32 #[.map (some mb),.int .i64 c] w fun e w'=>e=.returned (.bool false)/\Below w.heap.size w w':=by
 have hkey:keyOf Tryz.prog 3 (.int .i64 c)=some (.int .i64 c):=keyOf_int_mk Tryz.underlying3 hc
 have hh:=has_keys bl c
 rw [decide_eq_true hin] at hh
 clear hin
 go_enter Tryz.func32,Tryz.ntmps32
 go_wp2_with (at_lookup;refine wpList_lookup_own_unit _ rfl _ _ 74 rfl 3 99 key_law Tryz.underlying74 (zero_unit _) mb m _ rfl h _ _ rfl hkey ?_)
 go_ret
 exact ⟨rfl,(zX _ _).alloc (zL _) _⟩
set_option maxHeartbeats 400000 in
theorem add_yes (mb m:Nat)(bl:List Int)(c:Int)(w:World)(h:ShutIn w mb m bl)(hc:(Lit.int .i64 c).wf=true)(hm:m<=1000000)(hin:c ∉ bl) :
 Calls Tryz.prog 32 #[.map (some mb),.int .i64 c] w fun e w'=>e=.returned (.bool true)/\ShutIn w' mb (m+1) (bl++[c])/\w.grownBy w' (some mb):=by
 have hkey:keyOf Tryz.prog 3 (.int .i64 c)=some (.int .i64 c):=keyOf_int_mk Tryz.underlying3 hc
 have hh:=has_keys bl c
 rw [decide_eq_false hin] at hh
 have hmb:=h.lt
 have h1:∀ o,World.ownsMap (w.alloc o) Tryz.prog 3 (unitElem (H:=Unit)) mb m (setOf (.agg []) (keysZ bl)):=fun o=>World.ownsMap.alloc h o
 have hsn:setOf (H:=Unit) (.agg []) (keysZ (bl++[c]))=(setOf (.agg []) (keysZ bl)).put (.int .i64 c) (.agg []):=by
  unfold keysZ
  rw [List.map_append,<- setOf_snoc]
  rfl
 have HSN:=qz hsn
 clear hin hsn
 go_enter Tryz.func32,Tryz.ntmps32
 go_wp2_with (first
  | (at_lookup;refine wpList_lookup_own_unit _ rfl _ _ 74 rfl 3 99 key_law Tryz.underlying74 (zero_unit _) mb m _ rfl h _ _ rfl hkey ?_)
  | (at_mapUpdate;refine wpList_mapUpdate_own _ rfl _ _ _ 74 rfl 3 99 key_law Tryz.underlying74 (unitElem (H:=Unit)) mb m _ rfl (h1 _) (by unfold maxLen;omega) _ _ _ rfl rfl hkey _ [] unitElem_mk ?_;intro w1 hown1 hgrow1))
 go_ret
 refine ⟨rfl,?_,?_⟩
 · unfold ShutIn
   rw [HSN.out]
   exact hown1
 · exact World.grownBy.trans (grown_alloc _ _ _) hgrow1
end Go.Proofs.YtknnnbpgkfaapaaGreat.Vm
namespace Go.Proofs.YtknnnbpgkfaapaaGreat.Vm
open Go Go.RowKit
set_option maxHeartbeats 400000 in
theorem within_any (x lo hi:Int)(w:World):Calls Tryz.prog 136 #[.int .i64 x,.int .i64 lo,.int .i64 hi] w fun e w'=>e=.returned (.bool (yes (lo<=x/\x<=hi)))/\w=w':=by
 have ht:lo<=x->x<=hi->yes (lo<=x/\x<=hi)=true:=fun h1 h2=>zby ⟨h1,h2⟩
 have hf:¬ (lo<=x/\x<=hi)->yes (lo<=x/\x<=hi)=false:=fun h=>zal h
 generalize yes (lo<=x/\x<=hi)=Y at ht hf
 by_cases h1:lo<=x
 · by_cases h2:x<=hi
   · have HY:=qz (ht h1 h2)
     clear ht hf
     go_enter Tryz.func136,Tryz.ntmps136
     go_wp2
     go_ret
     exact ⟨zad HY.out.symm,rfl⟩
   · have HY:=qz (hf (fun h=>h2 h.2))
     clear ht hf
     go_enter Tryz.func136,Tryz.ntmps136
     go_wp2
     go_ret
     exact ⟨zad HY.out.symm,rfl⟩
 · have HY:=qz (hf (fun h=>h1 h.1))
   clear ht hf
   go_enter Tryz.func136,Tryz.ntmps136
   go_wp2
   go_ret
   exact ⟨zad HY.out.symm,rfl⟩
set_option maxHeartbeats 400000 in
theorem isRobot_any (a:Option Addr)(n c:Nat)(x:Int)(w:World)(hn:n<=maxLen):Calls Tryz.prog 117 #[.slice a n c,.int .i64 x] w fun e w'=>e=.returned (.bool (yes (0<=x/\x<(n:Int))))/\w=w':=by
 unfold maxLen at hn
 have HY:=qz (yes_same (p:=0<=x/\x<=(n:Int)-1) (q:=0<=x/\x<(n:Int)) ⟨fun h=>by omega,fun h=>by omega⟩)
 go_enter Tryz.func117,Tryz.ntmps117
 go_wp2_with fail
 refine (within_any _ _ _ _).mono ?_
 rintro e w' ⟨rfl,rfl⟩
 go_wp2_with fail
 go_ret
 exact ⟨zad HY.out,rfl⟩
theorem isRobot_yes (a:Option Addr){n:Nat}(c:Nat){x:Int}(w:World)(hn:n<=maxLen)(h:0<=x/\x<(n:Int)):Calls Tryz.prog 117 #[.slice a n c,.int .i64 x] w fun e w'=>e=.returned (.bool true)/\w=w':=by
 have:=isRobot_any a n c x w hn
 rwa [zby h] at this
theorem isRobot_no (a:Option Addr){n:Nat}(c:Nat){x:Int}(w:World)(hn:n<=maxLen)(h:¬ (0<=x/\x<(n:Int))):Calls Tryz.prog 117 #[.slice a n c,.int .i64 x] w fun e w'=>e=.returned (.bool false)/\w=w':=by
 have:=isRobot_any a n c x w hn
 rwa [zal h] at this
theorem floor_yes {W H c:Int}{s:ByteArray}(w:World)(hs:s.size<=maxLen)(h:zac (zaa s) c=true) :
 Calls Tryz.prog 31 #[zam W H s,.int .i64 c] w fun e w'=>e=.returned (.bool true)/\Below w.heap.size w w':=by
 have:=zcd W H c s w hs
 rwa [h] at this
theorem floor_no {W H c:Int}{s:ByteArray}(w:World)(hs:s.size<=maxLen)(h:zac (zaa s) c=false) :
 Calls Tryz.prog 31 #[zam W H s,.int .i64 c] w fun e w'=>e=.returned (.bool false)/\Below w.heap.size w w':=by
 have:=zcd W H c s w hs
 rwa [h] at this
theorem floor_wf {s:ByteArray}{c:Int}(hs:s.size<=maxLen)(h:zac (zaa s) c=true):(Lit.int .i64 c).wf=true:=by
 have:=zaq h
 rw [zag] at this
 unfold maxLen at hs
 obtain ⟨k,rfl⟩:=Int.eq_ofNat_of_zero_le this.1
 exact WalkArith.wf_i64 (by omega)
theorem makeSet (n:Nat)(w:World):(Instr.makeMap 74 (some (.int .i64 (n:Int)))).run Tryz.prog w=.ok (.map (some w.heap.size)) (w.alloc (.map #[] 0)):=by
 simp [Instr.makeMap,go_sem,Result.andThen]
end Go.Proofs.YtknnnbpgkfaapaaGreat.Vm
namespace Go.Proofs.YtknnnbpgkfaapaaGreat.Vm
open Go Go.RowKit
theorem yes_beq {p:Prop}{x y:Int}(h:p ↔ x=y):yes p=(x==y):=by
 by_cases e:x=y
 · rw [zby (h.2 e),beq_iff_eq.2 e]
 · rw [zal (fun q=>e (h.1 q)),beq_eq_false_iff_ne.2 e]
theorem role_1 {rs:List Rec}{t:Rec}(h:t.d=1):yes (RoleP rs t)=(t.e==-1):=yes_beq (by unfold RoleP;omega)
theorem role_23 {rs:List Rec}{t:Rec}(h:t.d=2\/t.d=3)(he:0<=t.e/\t.e<rs.length):yes (RoleP rs t)=((rs.getD t.e.toNat zr).c==t.a):=yes_beq (by unfold RoleP;omega)
theorem ret_int' {a b:Int}(h:a=b):Ending.returned (.int .i64 a)=.returned (.int .i64 b):=by rw [h]
set_option maxHeartbeats 400000 in
theorem rfind_any (h:Sh)(ts:List Rec)(id:Int)(B:Nat)(w:World)(hin:RowR w B h.a2 h.n2 h.c2 ts)(hB:B<=w.heap.size) :
 Calls Tryz.prog 28 #[shV h,.int .i64 id] w fun e w'=>e=.returned (.int .i64 (zat ts id))/\Below w.heap.size w w':=by
 have hB0:Below w.heap.size w (w.alloc (shO h)):=(zX _ _).alloc (zL _) _
 obtain ⟨t,a1,n1,c1,a2,n2,c2,a3,n3,c3⟩:=h
 have hm2:=hin.len
 unfold maxLen at hm2
 have HL:=qz hin.1
 have HC:=qz hin.cells
 simp only [] at hm2
 have HB0:=qz hB0
 clear hin hB0
 go_enter Tryz.func28,Tryz.ntmps28
 go_wp2_with fail
 go_loop [5] (fun i=>∃ k:Nat,k<=n2/\i=.int .i64 k/\Hid (∀ j,j<k->(ts.getD j zr).a≠id)) (fun i=>n2-(intOf i).toNat)
 case atStart=>exact ⟨0,Nat.zero_le _,rfl,fun j hj=>absurd hj (Nat.not_lt_zero _)⟩
 case round =>
  obtain ⟨k,hk,rfl,HA⟩:=hrel
  by_cases hlt:k<n2
  · obtain ⟨b,off,rfl,hb,hcs⟩:=HC.out (show 0<n2 by omega)
    have hcell:=hcs k hlt
    have HKN:Hid (k<ts.length):=by unfold Hid;rw [HL.out];exact hlt
    have hb3:b<w.heap.size:=by omega
    have hx:∃ x,ts.getD k zr=x:=⟨_,rfl⟩
    obtain ⟨x,hx⟩:=hx
    rw [hx] at hcell
    have HX:=qz hx
    obtain ⟨p1,p2,p3,p4,p5⟩:=hcell
    clear hcs hx
    by_cases he:x.a=id
    · have e1:(x.a==id)=true:=by simpa using he
      have HY:=qz (findS_at HKN.out HA.out (by rw [HX.out];exact he))
      clear he
      go_wp2
      go_ret
      exact ⟨ret_int' HY.out.symm,HB0.out⟩
    · have e1:(x.a==id)=false:=by simpa using he
      have HE:Hid ((ts.getD k zr).a≠id):=by unfold Hid;rw [HX.out];exact he
      clear he
      go_wp2
      go_round
      case rel=>exact ⟨k+1,by omega,by go_num,upto_more HA.out HE.out⟩
      case measure=>simp [intOf];omega
  · have hkn:k=n2:=by omega
    rw [hkn] at HA
    have HY:Hid (zat ts id=-1):=findS_no (by rw [HL.out];exact HA.out)
    clear HA
    go_wp2
    go_ret
    exact ⟨ret_int' HY.out.symm,HB0.out⟩
theorem rfloor_yes {W H c:Int}{s:ByteArray}(w:World)(hs:s.size<=maxLen)(h:zac (zaa s) c=true) :
 Calls Tryz.prog 36 #[zam W H s,.int .i64 c] w fun e w'=>e=.returned (.bool true)/\Below w.heap.size w w':=by
 have:=zaw W H c s w hs
 rwa [h] at this
theorem rfloor_no {W H c:Int}{s:ByteArray}(w:World)(hs:s.size<=maxLen)(h:zac (zaa s) c=false) :
 Calls Tryz.prog 36 #[zam W H s,.int .i64 c] w fun e w'=>e=.returned (.bool false)/\Below w.heap.size w w':=by
 have:=zaw W H c s w hs
 rwa [h] at this
theorem mo_03 {ts:List Rec}{r:Rec}{i:Nat}(h:r.b=0\/r.b=3):yes (ModeP ts r i)=(r.c==0):=yes_beq (by unfold ModeP;omega)
theorem mo_4 {ts:List Rec}{r:Rec}{i:Nat}(h:r.b=4)(hc:r.c=0):yes (ModeP ts r i)=true:=zby (by unfold ModeP;omega)
theorem mo_x {ts:List Rec}{r:Rec}{i:Nat}(h0:r.b≠0)(h1:r.b≠1)(h2:r.b≠2)(h3:r.b≠3)(h4:r.b≠4):yes (ModeP ts r i)=false:=zal (by unfold ModeP;omega)
theorem mo_no {ts:List Rec}{r:Rec}{i:Nat}(h0:r.b≠0)(h3:r.b≠3)(h4:¬ (r.b=4/\r.c=0))(hf:zat ts r.c=-1):yes (ModeP ts r i)=false:=by
 have hn:∀ st,¬ OwnP ts r.c i st:=fun st ⟨k,_,e,_⟩=>by omega
 refine zal ?_
 unfold ModeP
 simp only [hn,and_false,or_false,false_or]
 omega
theorem own_at {ts:List Rec}{id:Int}{i j:Nat}(hj:j<ts.length)(hf:zat ts id=j)(st:Int):OwnP ts id i st ↔ (ts.getD j zr).d=st/\(ts.getD j zr).e=i :=
 ⟨fun ⟨k,_,e,h2,h3⟩=>by
  obtain rfl:k=j:=by omega
  exact ⟨h2,h3⟩,fun ⟨h2,h3⟩=>⟨j,hj,hf,h2,h3⟩⟩
theorem mo_1 {ts:List Rec}{r:Rec}{i j:Nat}(h:r.b=1)(hj:j<ts.length)(hf:zat ts r.c=j)(hd:(ts.getD j zr).d=2):yes (ModeP ts r i)=((ts.getD j zr).e==(i:Int)):=yes_beq (by
 unfold ModeP
 rw [own_at hj hf,own_at hj hf]
 omega)
theorem mo_1' {ts:List Rec}{r:Rec}{i j:Nat}(h:r.b=1)(hj:j<ts.length)(hf:zat ts r.c=j)(hd:(ts.getD j zr).d≠2):yes (ModeP ts r i)=false:=zal (by
 unfold ModeP
 rw [own_at hj hf,own_at hj hf]
 omega)
theorem mo_24 {ts:List Rec}{r:Rec}{i j:Nat}(h:r.b=2\/r.b=4/\r.c≠0)(hj:j<ts.length)(hf:zat ts r.c=j)(hd:(ts.getD j zr).d=3):yes (ModeP ts r i)=((ts.getD j zr).e==(i:Int)):=yes_beq (by
 unfold ModeP
 rw [own_at hj hf,own_at hj hf]
 omega)
theorem mo_24' {ts:List Rec}{r:Rec}{i j:Nat}(h:r.b=2\/r.b=4/\r.c≠0)(hj:j<ts.length)(hf:zat ts r.c=j)(hd:(ts.getD j zr).d≠3):yes (ModeP ts r i)=false:=zal (by
 unfold ModeP
 rw [own_at hj hf,own_at hj hf]
 omega)
theorem rob_mode {fl:Int->Bool}{s:St}{i:Nat}(h:RestP fl s.rs i):yes (RobP fl s i)=yes (ModeP s.ts (s.rs.getD i zr) i):=yes_same ⟨fun h2=>h2.2,fun h2=>⟨h,h2⟩⟩
end Go.Proofs.YtknnnbpgkfaapaaGreat.Vm
namespace Go.Proofs.YtknnnbpgkfaapaaGreat.Vm
open Go Go.RowKit
set_option maxHeartbeats 2000000 in
theorem rrobot_any (W H:Int)(g:ByteArray)(h:Sh)(s:St)(i B:Nat)(w:World)(hg:g.size<=maxLen)(hin:StIn w B h s)(hB:B<=w.heap.size)(hi:i<s.rs.length)(hn1:h.n1<=1000000) :
 Calls Tryz.prog 34 #[zam W H g,shV h,.int .i64 (i:Int)] w fun e w'=>e=.returned (.bool (yes (RobP (zac (zaa g)) s i)))/\Below w.heap.size w w':=by
 obtain ⟨w2,hw2,hB2,hz2,hg2,hs2⟩:=zbv w W H g h
 have hR:=hin.rs.mono hB
 have hT:=hin.ts.mono hB
 have HIN:=qz (hin.mono hB)
 obtain ⟨t,a1,n1,c1,a2,n2,c2,a3,n3,c3⟩:=h
 obtain ⟨tick,rs,ts,bl⟩:=s
 simp only [] at hR hT hi hn1
 obtain ⟨b,off,rfl,hb,hcs⟩:=hR.cells (by have:=hR.1;omega)
 have hi1:i<n1:=by have:=hR.1;omega
 have hcell:=hcs i hi1
 have HCS:=qz hcs
 have HW2:=qz hw2
 have HG:=qz hg
 have HI:=qz hi
 have HRL:=qz hR.1
 have HT:=qz hT
 have hx:∃ x,rs.getD i zr=x:=⟨_,rfl⟩
 obtain ⟨x,hx⟩:=hx
 rw [hx] at hcell
 have HX:=qz hx
 have hB3:Below w.heap.size w (w2.alloc (.cells #[.int .i64 x.a,.int .i64 x.b,.int .i64 x.c,.int .i64 x.d,.int .i64 x.e] 46)):=hB2.alloc (by omega) _
 have hra:=recAt_new w2 x 46
 have hba:Below w2.heap.size w2 (w2.alloc (.cells #[.int .i64 x.a,.int .i64 x.b,.int .i64 x.c,.int .i64 x.d,.int .i64 x.e] 46)):=(zX _ _).alloc (zL _) _
 have hza:(w2.alloc (.cells #[.int .i64 x.a,.int .i64 x.b,.int .i64 x.c,.int .i64 x.d,.int .i64 x.e] 46)).heap.size=w.heap.size+3:=by simp [hz2]
 have hga:=hg2.below hba (by omega)
 have hsa:=hs2.below hba (by omega)
 rw [hz2] at hra
 obtain ⟨s0,s1,s2,s3⟩:=hs2
 simp only [] at s0 s1 s2 s3
 obtain ⟨p1,p2,p3,p4,p5⟩:=hcell
 generalize hw3:w2.alloc (.cells #[.int .i64 x.a,.int .i64 x.b,.int .i64 x.c,.int .i64 x.d,.int .i64 x.e] 46)=w3 at hB3 hra hza hga hsa
 have HW3:=qz hw3
 have HRA:=qz hra
 have HGA:=qz hga
 have HSA:=qz hsa
 clear hw2 hcs hx hg hR hT hin hi hg2 hw3 hra hga hsa hba
 obtain ⟨fl,hfl⟩:∃ fl,zac (zaa g)=fl:=⟨_,rfl⟩
 rw [hfl]
 have HFL:=qz hfl
 clear hfl
 go_enter Tryz.func34,Tryz.ntmps34
 go_wp2_with fail
 rw [<- HW2.out,HW3.out]
 clear p1 p2 p3 p4 p5 s0 s1 s2 s3
 have hsz3:=hB3.size
 cases hf:fl x.a
 · have HN:Hid (¬ RobP fl ⟨tick,rs,ts,bl⟩ i):=fun hh=>by
    have h1:fl (rs.getD i zr).a=true:=hh.1.1
    rw [HX.out,hf] at h1
    cases h1
   have HF:=qz fun (V:World)=>rfloor_no (W:=W) (H:=H) V HG.out (by rw [HFL.out];exact hf)
   clear hf
   refine (HF.out _).mono ?_
   rintro e w4 ⟨rfl,hv4⟩
   have hB4:=hB3.trans (hv4.mono hsz3)
   go_wp2_with fail
   go_ret
   exact ⟨zad (zal HN.out).symm,hB4⟩
 have HF:=qz fun (V:World)=>rfloor_yes (W:=W) (H:=H) V HG.out (by rw [HFL.out];exact hf)
 have HFX:=qz hf
 clear hf
 refine (HF.out _).mono ?_
 rintro e w4 ⟨rfl,hv4⟩
 have hB4:=hB3.trans (hv4.mono hsz3)
 have hra:=HRA.out.below hv4 (by omega)
 have hga:=HGA.out.below hv4 (by omega)
 have hsa:=HSA.out.below hv4 (by omega)
 have hz4:=hv4.size
 have HRA4:=qz hra
 have HSA4:=qz hsa
 obtain ⟨r1,r2,r3,r4,r5⟩:=hra
 obtain ⟨s0,s1,s2,s3⟩:=hsa
 simp only [] at s0 s1 s2 s3
 have hno:(RestP fl rs i->False)->Hid (¬ RobP fl ⟨tick,rs,ts,bl⟩ i):=fun h1 h2=>h1 h2.1
 have HNO:=qz hno
 clear hno hga
 by_cases hd0:x.d<0
 · have HN:=HNO.out fun hh=>by have:=hh.2.2.1;rw [HX.out] at this;omega
   go_wp2_with fail
   go_ret
   exact ⟨zad (zal HN.out).symm,hB4⟩
 by_cases hd1:1000<x.d
 · have HN:=HNO.out fun hh=>by have:=hh.2.2.1;rw [HX.out] at this;omega
   go_wp2_with fail
   go_ret
   exact ⟨zad (zal HN.out).symm,hB4⟩
 by_cases he0:x.e<0
 · have HN:=HNO.out fun hh=>by have:=hh.2.2.2;rw [HX.out] at this;omega
   go_wp2_with fail
   go_ret
   exact ⟨zad (zal HN.out).symm,hB4⟩
 by_cases he1:1000<x.e
 · have HN:=HNO.out fun hh=>by have:=hh.2.2.2;rw [HX.out] at this;omega
   go_wp2_with fail
   go_ret
   exact ⟨zad (zal HN.out).symm,hB4⟩
 have HDE:Hid ((0<=x.d/\x.d<=1000)/\0<=x.e/\x.e<=1000):=⟨by omega,by omega⟩
 go_wp2_with fail
 clear hd0 hd1 he0 he1 r1 r2 r3 r4 r5 s0 s1 s2 s3
 go_loopw [8] (fun j wr=>∃ k:Nat,k<=i/\j=.int .i64 k/\Below w4.heap.size w4 wr/\Hid (∀ j,j<k->(rs.getD j zr).a≠x.a)) (fun j _=>i-(intOf j).toNat)
 case atStart=>exact ⟨0,Nat.zero_le _,rfl,zX _ _,fun j hj=>absurd hj (Nat.not_lt_zero _)⟩
 case round =>
  obtain ⟨k,hk,rfl,hbel,HA⟩:=hrel
  have hBr:=hB4.trans (hbel.mono hB4.size)
  have hra:=HRA4.out.below hbel (by omega)
  have hsa:=HSA4.out.below hbel (by omega)
  have hzr:=hbel.size
  by_cases hlt:k<i
  · have hcell:=(HCS.out k (by omega)).below hBr (by omega)
    have hy:∃ y,rs.getD k zr=y:=⟨_,rfl⟩
    obtain ⟨y,hy⟩:=hy
    rw [hy] at hcell
    have HY:=qz hy
    obtain ⟨q1,q2,q3,q4,q5⟩:=hcell
    obtain ⟨r1,r2,r3,r4,r5⟩:=hra
    obtain ⟨s0,s1,s2,s3⟩:=hsa
    simp only [] at s0 s1 s2 s3
    clear hy
    by_cases hya:y.a=x.a
    · have e1:(y.a==x.a)=true:=by simpa using hya
      have HN:=HNO.out fun hh=>by
       have:=hh.2.1 k hlt
       rw [HX.out,HY.out] at this
       exact this hya
      clear hya
      go_wp2
      go_quiet (fail)
      go_wp2
      go_ret
      exact ⟨zad (zal HN.out).symm,zaf hBr _⟩
    · have e1:(y.a==x.a)=false:=by simpa using hya
      have HE:Hid ((rs.getD k zr).a≠x.a):=by unfold Hid;rw [HY.out];exact hya
      clear hya
      go_wp2
      go_quiet (fail)
      go_wp2
      go_roundw
      case rel=>exact ⟨k+1,by omega,by go_num,zaf hbel _,upto_more HA.out HE.out⟩
      case measure=>simp [intOf];omega
  · have hkn:k=i:=by omega
    rw [hkn] at HA
    have HREST:Hid (RestP fl rs i):=by
     unfold Hid RestP
     rw [HX.out]
     exact ⟨HFX.out,HA.out,HDE.out.1,HDE.out.2⟩
    have HYM:Hid (yes (RobP fl ⟨tick,rs,ts,bl⟩ i)=yes (ModeP ts x i)):=by
     have:=rob_mode (fl:=fl) (s:=⟨tick,rs,ts,bl⟩) (i:=i) HREST.out
     rw [<- HX.out]
     exact this
    have HFD:=qz fun (V:World) (hV:Below w.heap.size w V)=>rfind_any ⟨t,some ⟨b,off,none⟩,n1,c1,a2,n2,c2,a3,n3,c3⟩ ts x.c w.heap.size V (HT.out.below hV) hV.size
    clear HA hkn hk
    obtain ⟨r1,r2,r3,r4,r5⟩:=hra
    obtain ⟨s0,s1,s2,s3⟩:=hsa
    simp only [] at s0 s1 s2 s3
    go_wp2_with fail
    refine (HFD.out _ hBr).mono ?_
    rintro e w5 ⟨rfl,hv5⟩
    have hB5:=hBr.trans (hv5.mono hBr.size)
    have hr5:=HRA4.out.below (hbel.trans (hv5.mono hzr)) (by omega)
    have hs5:=HSA4.out.below (hbel.trans (hv5.mono hzr)) (by omega)
    clear r1 r2 r3 r4 r5 s0 s1 s2 s3 HFD hv5
    obtain ⟨r1,r2,r3,r4,r5⟩:=hr5
    obtain ⟨s0,s1,s2,s3⟩:=hs5
    simp only [] at s0 s1 s2 s3
    by_cases h0:x.b=0
    · have HZ:=qz (HYM.out.trans (mo_03 (ts:=ts) (i:=i) (.inl h0)))
      have e0:(x.b==0)=true:=by simpa using h0
      clear h0 HYM
      generalize zat ts x.c=f
      go_wp2_with fail
      go_ret
      exact ⟨zad HZ.out.symm,hB5⟩
    have e0:(x.b==0)=false:=by simpa using h0
    by_cases h3:x.b=3
    · have HZ:=qz (HYM.out.trans (mo_03 (ts:=ts) (i:=i) (.inr h3)))
      have e3:(x.b==3)=true:=by simpa using h3
      clear h0 h3 HYM
      generalize zat ts x.c=f
      go_wp2_with fail
      go_ret
      exact ⟨zad HZ.out.symm,hB5⟩
    have e3:(x.b==3)=false:=by simpa using h3
    by_cases h40:x.b=4/\x.c=0
    · have HZ:=qz (HYM.out.trans (mo_4 (ts:=ts) (i:=i) h40.1 h40.2))
      have e4:(x.b==4)=true:=by simpa using h40.1
      have e5:(x.c==0)=true:=by simpa using h40.2
      clear h0 h3 h40 HYM
      generalize zat ts x.c=f
      go_wp2_with fail
      go_ret
      exact ⟨zad HZ.out.symm,hB5⟩
    by_cases h124:¬ (x.b=1\/x.b=2\/x.b=4)
    · have HZ:=qz (HYM.out.trans (mo_x (ts:=ts) (i:=i) h0 (by omega) (by omega) h3 (by omega)))
      have e1:(x.b==1)=false:=by rw [beq_eq_false_iff_ne];omega
      have e2:(x.b==2)=false:=by rw [beq_eq_false_iff_ne];omega
      have e4:(x.b==4)=false:=by rw [beq_eq_false_iff_ne];omega
      clear h0 h3 h40 h124 HYM
      generalize zat ts x.c=f
      go_wp2_with fail
      go_ret
      exact ⟨zad HZ.out.symm,hB5⟩
    have h124:=Classical.not_not.1 h124
    rcases zbn ts x.c with ⟨hfn,_⟩|⟨j,hj,hfj,_,_⟩
    · have HZ:=qz (HYM.out.trans (mo_no (i:=i) h0 h3 h40 hfn))
      rw [hfn]
      clear hfn HYM h0 h3
      rcases h124 with h1|h2|h4
      · have e1:(x.b==1)=true:=by simpa using h1
        have e4:(x.b==4)=false:=by rw [beq_eq_false_iff_ne];omega
        clear h1 h40
        go_wp2_with fail
        go_ret
        exact ⟨zad HZ.out.symm,hB5⟩
      · have e1:(x.b==1)=false:=by rw [beq_eq_false_iff_ne];omega
        have e2:(x.b==2)=true:=by simpa using h2
        have e4:(x.b==4)=false:=by rw [beq_eq_false_iff_ne];omega
        clear h2 h40
        go_wp2_with fail
        go_ret
        exact ⟨zad HZ.out.symm,hB5⟩
      · have e1:(x.b==1)=false:=by rw [beq_eq_false_iff_ne];omega
        have e2:(x.b==2)=false:=by rw [beq_eq_false_iff_ne];omega
        have e4:(x.b==4)=true:=by simpa using h4
        have e5:(x.c==0)=false:=by rw [beq_eq_false_iff_ne];exact fun h=>h40 ⟨h4,h⟩
        clear h4 h40
        go_wp2_with fail
        go_ret
        exact ⟨zad HZ.out.symm,hB5⟩
    · obtain ⟨b',off',e',hb',hcs'⟩:=HT.out.cells (by have:=HT.out.1;omega)
      subst e'
      have hjn:j<n2:=by have:=HT.out.1;omega
      have hcell:=(hcs' j hjn).below hB5 (by omega)
      have hy:∃ y,ts.getD j zr=y:=⟨_,rfl⟩
      obtain ⟨y,hy⟩:=hy
      rw [hy] at hcell
      obtain ⟨q1,q2,q3,q4,q5⟩:=hcell
      have M1:=fun h hd=>mo_1 (ts:=ts) (r:=x) (i:=i) (j:=j) h hj hfj hd
      have M1':=fun h hd=>mo_1' (ts:=ts) (r:=x) (i:=i) (j:=j) h hj hfj hd
      have M2:=fun h hd=>mo_24 (ts:=ts) (r:=x) (i:=i) (j:=j) h hj hfj hd
      have M2':=fun h hd=>mo_24' (ts:=ts) (r:=x) (i:=i) (j:=j) h hj hfj hd
      rw [hy] at M1 M1' M2 M2'
      have HM1:=qz M1
      have HM1':=qz M1'
      have HM2:=qz M2
      have HM2':=qz M2'
      rw [hfj]
      have hj0:(0:Int)<=(j:Int):=by omega
      clear M1 M1' M2 M2' hy hcs' hfj hj h0 h3
      rcases h124 with h1|h2|h4
      · have e1:(x.b==1)=true:=by simpa using h1
        have e4:(x.b==4)=false:=by rw [beq_eq_false_iff_ne];omega
        by_cases hd:y.d=2
        · have HZ:=qz (HYM.out.trans (HM1.out h1 hd))
          have ed:(y.d==2)=true:=by simpa using hd
          clear hd h1 h40 HYM
          go_wp2_with fail
          go_ret
          exact ⟨zad HZ.out.symm,hB5⟩
        · have HZ:=qz (HYM.out.trans (HM1'.out h1 hd))
          have ed:(y.d==2)=false:=by simpa using hd
          clear hd h1 h40 HYM
          go_wp2_with fail
          go_ret
          exact ⟨zad HZ.out.symm,hB5⟩
      · have e1:(x.b==1)=false:=by rw [beq_eq_false_iff_ne];omega
        have e2:(x.b==2)=true:=by simpa using h2
        have e4:(x.b==4)=false:=by rw [beq_eq_false_iff_ne];omega
        by_cases hd:y.d=3
        · have HZ:=qz (HYM.out.trans (HM2.out (.inl h2) hd))
          have ed:(y.d==3)=true:=by simpa using hd
          clear hd h2 h40 HYM
          go_wp2_with fail
          go_ret
          exact ⟨zad HZ.out.symm,hB5⟩
        · have HZ:=qz (HYM.out.trans (HM2'.out (.inl h2) hd))
          have ed:(y.d==3)=false:=by simpa using hd
          clear hd h2 h40 HYM
          go_wp2_with fail
          go_ret
          exact ⟨zad HZ.out.symm,hB5⟩
      · have e1:(x.b==1)=false:=by rw [beq_eq_false_iff_ne];omega
        have e2:(x.b==2)=false:=by rw [beq_eq_false_iff_ne];omega
        have e4:(x.b==4)=true:=by simpa using h4
        have hc0:x.c≠0:=fun h=>h40 ⟨h4,h⟩
        have e5:(x.c==0)=false:=by rw [beq_eq_false_iff_ne];exact hc0
        by_cases hd:y.d=3
        · have HZ:=qz (HYM.out.trans (HM2.out (.inr ⟨h4,hc0⟩) hd))
          have ed:(y.d==3)=true:=by simpa using hd
          clear hd h4 h40 hc0 HYM
          go_wp2_with fail
          go_ret
          exact ⟨zad HZ.out.symm,hB5⟩
        · have HZ:=qz (HYM.out.trans (HM2'.out (.inr ⟨h4,hc0⟩) hd))
          have ed:(y.d==3)=false:=by simpa using hd
          clear hd h4 h40 hc0 HYM
          go_wp2_with fail
          go_ret
          exact ⟨zad HZ.out.symm,hB5⟩
end Go.Proofs.YtknnnbpgkfaapaaGreat.Vm
namespace Go.Proofs.YtknnnbpgkfaapaaGreat.Vm
open Go Go.RowKit
theorem task_role {fl:Int->Bool}{s:St}{i:Nat}(h:JobP fl s.ts i):yes (TaskP fl s i)=yes (RoleP s.rs (s.ts.getD i zr)):=yes_same ⟨fun h2=>h2.2,fun h2=>⟨h,h2⟩⟩
theorem role_out {rs:List Rec}{t:Rec}(h1:t.d≠1)(he:¬ (0<=t.e/\t.e<rs.length)):yes (RoleP rs t)=false:=zal (by unfold RoleP;omega)
theorem role_4' {rs:List Rec}{t:Rec}(h1:t.d≠1)(h2:t.d≠2)(h3:t.d≠3)(he:0<=t.e/\t.e<rs.length):yes (RoleP rs t)=(t.d==4):=yes_beq (by unfold RoleP;omega)
set_option maxHeartbeats 2000000 in
theorem rtask_any (W H:Int)(g:ByteArray)(h:Sh)(s:St)(i B:Nat)(w:World)(hg:g.size<=maxLen)(hin:StIn w B h s)(hB:B<=w.heap.size)(hi:i<s.ts.length) :
 Calls Tryz.prog 35 #[zam W H g,shV h,.int .i64 (i:Int)] w fun e w'=>e=.returned (.bool (yes (TaskP (zac (zaa g)) s i)))/\Below w.heap.size w w':=by
 obtain ⟨w2,hw2,hB2,hz2,hg2,hs2⟩:=zbv w W H g h
 have hR:=hin.rs.mono hB
 have hT:=hin.ts.mono hB
 have hm1:=hin.rs.len
 obtain ⟨t,a1,n1,c1,a2,n2,c2,a3,n3,c3⟩:=h
 obtain ⟨tick,rs,ts,bl⟩:=s
 simp only [] at hR hT hi hm1
 unfold maxLen at hm1
 obtain ⟨b,off,rfl,hb,hcs⟩:=hT.cells (by have:=hT.1;omega)
 have hi1:i<n2:=by have:=hT.1;omega
 have hcell:=hcs i hi1
 have HW2:=qz hw2
 have HG:=qz hg
 have HI:=qz hi
 have HTL:=qz hT.1
 have HRL:=qz hR.1
 have HR:=qz hR
 have HT:=qz hT
 have hx:∃ x,ts.getD i zr=x:=⟨_,rfl⟩
 obtain ⟨x,hx⟩:=hx
 rw [hx] at hcell
 have HX:=qz hx
 have hB3:Below w.heap.size w (w2.alloc (.cells #[.int .i64 x.a,.int .i64 x.b,.int .i64 x.c,.int .i64 x.d,.int .i64 x.e] 48)):=hB2.alloc (by omega) _
 have hra:=recAt_new w2 x 48
 have hba:Below w2.heap.size w2 (w2.alloc (.cells #[.int .i64 x.a,.int .i64 x.b,.int .i64 x.c,.int .i64 x.d,.int .i64 x.e] 48)):=(zX _ _).alloc (zL _) _
 have hza:(w2.alloc (.cells #[.int .i64 x.a,.int .i64 x.b,.int .i64 x.c,.int .i64 x.d,.int .i64 x.e] 48)).heap.size=w.heap.size+3:=by simp [hz2]
 have hga:=hg2.below hba (by omega)
 have hsa:=hs2.below hba (by omega)
 rw [hz2] at hra
 obtain ⟨p1,p2,p3,p4,p5⟩:=hcell
 have hns:¬ x.a<1->True:=fun _=>trivial
 generalize hw3:w2.alloc (.cells #[.int .i64 x.a,.int .i64 x.b,.int .i64 x.c,.int .i64 x.d,.int .i64 x.e] 48)=w3 at hB3 hra hza hga hsa
 have HW3:=qz hw3
 have HRA:=qz hra
 have HGA:=qz hga
 have HSA:=qz hsa
 have HB3:=qz hB3
 clear hw2 hcs hx hg hR hT hin hi hg2 hw3 hra hga hsa hba hns hs2
 obtain ⟨fl,hfl⟩:∃ fl,zac (zaa g)=fl:=⟨_,rfl⟩
 rw [hfl]
 have HFL:=qz hfl
 have hno:(JobP fl ts i->False)->Hid (¬ TaskP fl ⟨tick,rs,ts,bl⟩ i):=fun h1 h2=>h1 h2.1
 have HNO:=qz hno
 clear hfl hno
 have hBa:=HB3.out
 rw [<- HW3.out,HW2.out] at hBa
 have HBA:=qz hBa
 clear hBa
 by_cases ha0:x.a<1
 · have HN:=HNO.out fun hh=>by have:=hh.1;rw [HX.out] at this;omega
   go_enter Tryz.func35,Tryz.ntmps35
   go_wp2_with fail
   go_ret
   exact ⟨zad (zal HN.out).symm,HBA.out⟩
 by_cases ha1:2147483647<x.a
 · have HN:=HNO.out fun hh=>by have:=hh.1;rw [HX.out] at this;omega
   go_enter Tryz.func35,Tryz.ntmps35
   go_wp2_with fail
   go_ret
   exact ⟨zad (zal HN.out).symm,HBA.out⟩
 have HAA:Hid (1<=x.a/\x.a<=2147483647):=⟨by omega,by omega⟩
 have HFD:=qz fun (V:World) (hV:Below w.heap.size w V)=>rfind_any ⟨t,a1,n1,c1,some ⟨b,off,none⟩,n2,c2,a3,n3,c3⟩ ts x.a w.heap.size V (HT.out.below hV) hV.size
 go_enter Tryz.func35,Tryz.ntmps35
 go_wp2_with fail
 rw [<- HW2.out,HW3.out]
 clear p1 p2 p3 p4 p5 ha0 ha1
 have hsz3:=hB3.size
 refine (HFD.out _ hB3).mono ?_
 rintro e w4 ⟨rfl,hv4⟩
 have hB4:=hB3.trans (hv4.mono hsz3)
 have hra:=HRA.out.below hv4 (by omega)
 have hga:=HGA.out.below hv4 (by omega)
 have hsa:=HSA.out.below hv4 (by omega)
 have hz4:=hv4.size
 have HRA4:=qz hra
 have HSA4:=qz hsa
 have HGA4:=qz hga
 obtain ⟨r1,r2,r3,r4,r5⟩:=hra
 obtain ⟨s0,s1,s2,s3⟩:=hsa
 obtain ⟨g1,g2,g3⟩:=hga
 simp only [] at s0 s1 s2 s3
 by_cases hfi:zat ts x.a≠i
 · have HN:=HNO.out fun hh=>hfi (by have h5:=findS_own HI.out hh.2.1;rw [HX.out] at h5;exact h5)
   have e1:(zat ts x.a != (i:Int))=true:=by rw [bne_iff_ne];exact hfi
   clear hfi
   go_wp2_with fail
   go_ret
   exact ⟨zad (zal HN.out).symm,hB4⟩
 have hfi:=Classical.not_not.1 hfi
 have HDIS:Hid (∀ k,k<i->(ts.getD k zr).a≠x.a):=by
  have h5:=findS_own_iff (ts:=ts) HI.out
  rw [HX.out] at h5
  exact h5.1 hfi
 have e1:(zat ts x.a != (i:Int))=false:=by rw [bne_eq_false_iff_eq];exact hfi
 clear hfi
 generalize zat ts x.a=f at e1
 cases hf:fl x.b
 · have HN:=HNO.out fun hh=>by
    have h1:=hh.2.2.2.1
    rw [HX.out,hf] at h1
    cases h1
   have HF:=qz fun (V:World)=>rfloor_no (W:=W) (H:=H) V HG.out (by rw [HFL.out];exact hf)
   clear hf
   go_wp2_with fail
   refine (HF.out _).mono ?_
   rintro e w5 ⟨rfl,hv5⟩
   have hB5:=hB4.trans (hv5.mono hB4.size)
   go_wp2_with fail
   go_ret
   exact ⟨zad (zal HN.out).symm,hB5⟩
 have HF:=qz fun (V:World)=>rfloor_yes (W:=W) (H:=H) V HG.out (by rw [HFL.out];exact hf)
 have HFB:=qz hf
 clear hf
 go_wp2_with fail
 refine (HF.out _).mono ?_
 rintro e w5 ⟨rfl,hv5⟩
 have hB5:=hB4.trans (hv5.mono hB4.size)
 have hv5:=hv4.trans (hv5.mono hz4)
 have hz5:=hv5.size
 clear r1 r2 r3 r4 r5 s0 s1 s2 s3 g1 g2 g3
 have hra:=HRA.out.below hv5 (by omega)
 have hga:=HGA.out.below hv5 (by omega)
 have hsa:=HSA.out.below hv5 (by omega)
 obtain ⟨r1,r2,r3,r4,r5⟩:=hra
 obtain ⟨s0,s1,s2,s3⟩:=hsa
 obtain ⟨g1,g2,g3⟩:=hga
 simp only [] at s0 s1 s2 s3
 clear HF
 cases hf:fl x.c
 · have HN:=HNO.out fun hh=>by
    have h1:=hh.2.2.2.2
    rw [HX.out,hf] at h1
    cases h1
   have HF:=qz fun (V:World)=>rfloor_no (W:=W) (H:=H) V HG.out (by rw [HFL.out];exact hf)
   clear hf
   go_wp2_with fail
   refine (HF.out _).mono ?_
   rintro e w6 ⟨rfl,hv6⟩
   have hB6:=hB5.trans (hv6.mono hB5.size)
   go_wp2_with fail
   go_ret
   exact ⟨zad (zal HN.out).symm,hB6⟩
 have HF:=qz fun (V:World)=>rfloor_yes (W:=W) (H:=H) V HG.out (by rw [HFL.out];exact hf)
 have HFC:=qz hf
 clear hf
 go_wp2_with fail
 refine (HF.out _).mono ?_
 rintro e w6 ⟨rfl,hv6⟩
 have hB6:=hB5.trans (hv6.mono hB5.size)
 have hv6:=hv5.trans (hv6.mono hz5)
 have hz6:=hv6.size
 clear r1 r2 r3 r4 r5 s0 s1 s2 s3 g1 g2 g3
 have hra:=HRA.out.below hv6 (by omega)
 have hsa:=HSA.out.below hv6 (by omega)
 obtain ⟨r1,r2,r3,r4,r5⟩:=hra
 obtain ⟨s0,s1,s2,s3⟩:=hsa
 simp only [] at s0 s1 s2 s3
 clear HF
 by_cases hbc:x.b=x.c
 · have HN:=HNO.out fun hh=>by
    have h1:=hh.2.2.1
    rw [HX.out] at h1
    exact h1 hbc
   have e2:(x.b==x.c)=true:=by simpa using hbc
   clear hbc
   go_wp2_with fail
   go_ret
   exact ⟨zad (zal HN.out).symm,hB6⟩
 have e2:(x.b==x.c)=false:=by simpa using hbc
 have HJ:Hid (JobP fl ts i):=by
  unfold Hid JobP
  rw [HX.out]
  exact ⟨HAA.out,HDIS.out,hbc,HFB.out,HFC.out⟩
 clear hbc
 have HYR:Hid (yes (TaskP fl ⟨tick,rs,ts,bl⟩ i)=yes (RoleP rs x)):=by
  have:=task_role (fl:=fl) (s:=⟨tick,rs,ts,bl⟩) (i:=i) HJ.out
  rw [<- HX.out]
  exact this
 by_cases h1:x.d=1
 · have HZ:=qz (HYR.out.trans (role_1 h1))
   have e3:(x.d==1)=true:=by simpa using h1
   clear h1 HYR
   go_wp2_with fail
   go_ret
   exact ⟨zad HZ.out.symm,hB6⟩
 have e3:(x.d==1)=false:=by simpa using h1
 by_cases hr0:x.e<0
 · have HZ:=qz (HYR.out.trans (role_out h1 (by omega)))
   clear h1 HYR
   go_wp2_with fail
   go_ret
   exact ⟨zad HZ.out.symm,hB6⟩
 by_cases hr1:(n1:Int)<=x.e
 · have HZ:=qz (HYR.out.trans (role_out h1 (by rw [HRL.out];omega)))
   clear h1 HYR
   go_wp2_with fail
   go_ret
   exact ⟨zad HZ.out.symm,hB6⟩
 have hrr:0<=x.e/\x.e<rs.length:=by rw [HRL.out];omega
 obtain ⟨xa,xb,xc,xd,xe⟩:=x
 simp only [] at hrr e3 h1 hr0 hr1
 obtain ⟨k,rfl⟩:=Int.eq_ofNat_of_zero_le hrr.1
 have hkn:k<n1:=by have:=HRL.out;omega
 obtain ⟨b',off',e',hb',hcs'⟩:=HR.out.cells (by omega)
 subst e'
 have hcell:=(hcs' k hkn).below hB6 (by omega)
 obtain ⟨q1,q2,q3,q4,q5⟩:=hcell
 generalize (rs.getD k zr).a=ya at q1
 generalize (rs.getD k zr).b=yb at q2
 have hyc:∃ yc,(rs.getD k zr).c=yc:=⟨_,rfl⟩
 obtain ⟨yc,hyc⟩:=hyc
 rw [hyc] at q3
 generalize (rs.getD k zr).d=yd at q4
 generalize (rs.getD k zr).e=ye at q5
 clear hcs' hr0 hr1
 by_cases h23:xd=2\/xd=3
 · have hrl:=role_23 (rs:=rs) (t:=⟨xa,xb,xc,xd,(k:Int)⟩) h23 hrr
   simp only [Int.toNat_natCast] at hrl
   rw [hyc] at hrl
   have HZ:=qz (HYR.out.trans hrl)
   clear hrl hyc HYR hrr h1
   rcases h23 with h2|h3
   · have e4:(xd==2)=true:=by simpa using h2
     clear h2
     go_wp2_with fail
     go_quiet (fail)
     go_wp2_with fail
     go_ret
     exact ⟨zad HZ.out.symm,zaf hB6 _⟩
   · have e4:(xd==2)=false:=by rw [beq_eq_false_iff_ne];omega
     have e5:(xd==3)=true:=by simpa using h3
     clear h3
     go_wp2_with fail
     go_quiet (fail)
     go_wp2_with fail
     go_ret
     exact ⟨zad HZ.out.symm,zaf hB6 _⟩
 · have hrl:=role_4' (rs:=rs) (t:=⟨xa,xb,xc,xd,(k:Int)⟩) h1 (fun h=>h23 (.inl h)) (fun h=>h23 (.inr h)) hrr
   have HZ:=qz (HYR.out.trans hrl)
   have e4:(xd==2)=false:=by rw [beq_eq_false_iff_ne];omega
   have e5:(xd==3)=false:=by rw [beq_eq_false_iff_ne];omega
   clear hrl hyc HYR hrr h1 h23
   go_wp2_with fail
   go_ret
   exact ⟨zad HZ.out.symm,hB6⟩
set_option maxHeartbeats 400000 in
theorem iwithin_any (x lo hi:Int)(w:World):Calls Tryz.prog 124 #[.int .i64 x,.int .i64 lo,.int .i64 hi] w fun e w'=>e=.returned (.bool (yes (lo<=x/\x<=hi)))/\w=w':=by
 have ht:lo<=x->x<=hi->yes (lo<=x/\x<=hi)=true:=fun h1 h2=>zby ⟨h1,h2⟩
 have hf:¬ (lo<=x/\x<=hi)->yes (lo<=x/\x<=hi)=false:=fun h=>zal h
 generalize yes (lo<=x/\x<=hi)=Y at ht hf
 by_cases h1:lo<=x
 · by_cases h2:x<=hi
   · have HY:=qz (ht h1 h2)
     clear ht hf
     go_enter Tryz.func124,Tryz.ntmps124
     go_wp2
     go_ret
     exact ⟨zad HY.out.symm,rfl⟩
   · have HY:=qz (hf (fun h=>h2 h.2))
     clear ht hf
     go_enter Tryz.func124,Tryz.ntmps124
     go_wp2
     go_ret
     exact ⟨zad HY.out.symm,rfl⟩
 · have HY:=qz (hf (fun h=>h1 h.1))
   clear ht hf
   go_enter Tryz.func124,Tryz.ntmps124
   go_wp2
   go_ret
   exact ⟨zad HY.out.symm,rfl⟩
theorem iwithin_yes {x lo hi:Int}(h:lo<=x/\x<=hi)(w:World):Calls Tryz.prog 124 #[.int .i64 x,.int .i64 lo,.int .i64 hi] w fun e w'=>e=.returned (.bool true)/\w=w':=by
 have:=iwithin_any x lo hi w
 rwa [zby h] at this
theorem iwithin_no {x lo hi:Int}(h:¬ (lo<=x/\x<=hi))(w:World):Calls Tryz.prog 124 #[.int .i64 x,.int .i64 lo,.int .i64 hi] w fun e w'=>e=.returned (.bool false)/\w=w':=by
 have:=iwithin_any x lo hi w
 rwa [zal h] at this
set_option maxHeartbeats 400000 in
theorem iisRobot_any (h:Sh)(s:St)(B:Nat)(x:Int)(w:World)(hr:RowR w B h.a1 h.n1 h.c1 s.rs):Calls Tryz.prog 125 #[shV h,.int .i64 x] w fun e w'=>e=.returned (.bool (yes (IsR s x)))/\Below w.heap.size w w':=by
 have hn:=hr.len
 unfold maxLen at hn
 have HB:Hid (Below w.heap.size w (w.alloc (shO h))):=(zX _ _).alloc (zL _) _
 have HY:Hid (yes (0<=x/\x<=(h.n1:Int)-1)=yes (IsR s x)):=yes_same ⟨fun hh=>by have:=hr.1;unfold IsR;omega,fun hh=>by have:=hr.1;unfold IsR at hh;omega⟩
 clear hr
 obtain ⟨t,a1,n1,c1,a2,n2,c2,a3,n3,c3⟩:=h
 simp only [] at HY hn
 go_enter Tryz.func125,Tryz.ntmps125
 go_wp2_with fail
 refine (iwithin_any _ _ _ _).mono ?_
 rintro e w' ⟨rfl,rfl⟩
 go_wp2_with fail
 go_ret
 exact ⟨zad HY.out,HB.out⟩
set_option maxHeartbeats 400000 in
theorem iisFaulted_any (h:Sh)(rs:List Rec)(B i:Nat)(w:World)(hr:RowR w B h.a1 h.n1 h.c1 rs)(hB:B<=w.heap.size)(hi:i<rs.length):Calls Tryz.prog 126 #[shV h,.int .i64 (i:Int)] w fun e w'=>e=.returned (.bool ((rs.getD i zr).b==4))/\Below w.heap.size w w':=by
 have hn:=hr.len
 unfold maxLen at hn
 have hb:Below w.heap.size w (w.alloc (shO h)):=(zX _ _).alloc (zL _) _
 have hl:=hr.1
 obtain ⟨b,off,e,hbB,hcs⟩:=hr.cells (by omega)
 have hc:=((hcs i (by omega)).below hb (by omega)).2.1
 have HB:=qz hb
 clear hr hcs hb
 obtain ⟨t,a1,n1,c1,a2,n2,c2,a3,n3,c3⟩:=h
 simp only [] at e hl hn
 subst e
 have hin:i<n1:=by omega
 have hbw:b<w.heap.size:=by omega
 generalize (rs.getD i zr).b=m at hc
 clear hl hi
 go_enter Tryz.func126,Tryz.ntmps126
 go_wp2_with fail
 go_ret
 exact ⟨rfl,HB.out⟩
theorem isR_int {s:St}{a:Int}(h:IsR s a):∃ i:Nat,a=(i:Int)/\i<s.rs.length:=⟨a.toNat,by unfold IsR at h;omega,isR_nat h⟩
set_option maxHeartbeats 1000000 in
theorem checkFault_any (W H:Int)(g:ByteArray)(h:Sh)(s:St)(x:Inp)(B:Nat)(w:World)(hin:StIn w B h s)(hB:B<=w.heap.size) :
 Calls Tryz.prog 105 #[zam W H g,shV h,inpV x] w fun e w'=>e=.returned (.int .i64 (codeF s x))/\Below w.heap.size w w':=by
 obtain ⟨w3,hw3,hB3,hz3,hg3,hs3,hx3⟩:=gsx_head w W H g h x
 have HW:=qz hw3
 have HB3:=qz hB3
 have HIN:=qz ((hin.mono hB).below hB3)
 have HRO:=qz (iisRobot_any h s w.heap.size x.a w3 HIN.out.rs)
 have HS3:=qz hs3
 have HX3:=qz hx3
 by_cases hr:IsR s x.a
 · have HY:Hid (codeF s x=_):=codeF_yes hr
   rw [zby hr] at HRO
   obtain ⟨i,hxa,hi⟩:=isR_int hr
   have HFA:=qz fun (V:World) (hV:Below w3.heap.size w3 V)=>iisFaulted_any h s.rs w.heap.size i V ((HIN.out.below (hV.mono hB3.size)).rs) (by have:=hV.size;omega) hi
   obtain ⟨k,a,b,c⟩:=x
   simp only [] at hxa HRO HY
   subst hxa
   rw [Int.toNat_natCast] at HY
   obtain ⟨t,a1,n1,c1,a2,n2,c2,a3,n3,c3⟩:=h
   clear hw3 hB3 hg3 hs3 hx3 hin hr hi
   go_enter Tryz.func105,Tryz.ntmps105
   go_wp2_with fail
   rw [<- HW.out]
   refine HRO.out.mono ?_
   rintro e w4 ⟨rfl,hb4⟩
   have hs4:=HS3.out.below hb4 (by omega)
   have hx4:=HX3.out.below hb4 (by omega)
   obtain ⟨s0,s1,s2,s3⟩:=hs4
   obtain ⟨x0,x1,x2,x3⟩:=hx4
   simp only [] at s0 s1 s2 s3 x0 x1 x2 x3
   have HB4:=qz (HB3.out.trans (hb4.mono HB3.out.size))
   have HFB:=qz (HFA.out _ hb4)
   clear hb4 HRO HFA
   generalize (s.rs.getD i zr).b=m at HFB HY
   by_cases hm:m=4
   · subst hm
     rw [if_pos rfl] at HY
     go_wp2_with fail
     refine HFB.out.mono ?_
     rintro e w5 ⟨rfl,hb5⟩
     have HB5:=qz (HB4.out.trans (hb5.mono HB4.out.size))
     go_wp2_with fail
     go_ret
     exact ⟨ret_int' HY.out.symm,HB5.out⟩
   · have e1:(m==4)=false:=by simpa using hm
     rw [e1] at HFB
     rw [if_neg hm] at HY
     go_wp2_with fail
     refine HFB.out.mono ?_
     rintro e w5 ⟨rfl,hb5⟩
     have HB5:=qz (HB4.out.trans (hb5.mono HB4.out.size))
     go_wp2_with fail
     go_ret
     exact ⟨ret_int' HY.out.symm,HB5.out⟩
 · have HY:Hid (codeF s x=5):=codeF_no hr
   rw [zal hr] at HRO
   obtain ⟨k,a,b,c⟩:=x
   simp only [] at HRO
   obtain ⟨t,a1,n1,c1,a2,n2,c2,a3,n3,c3⟩:=h
   clear hw3 hB3 hg3 hs3 hx3 hin hr
   go_enter Tryz.func105,Tryz.ntmps105
   go_wp2_with fail
   rw [<- HW.out]
   refine HRO.out.mono ?_
   rintro e w4 ⟨rfl,hb4⟩
   have HB4:=qz (HB3.out.trans (hb4.mono HB3.out.size))
   go_wp2_with fail
   go_ret
   exact ⟨ret_int' HY.out.symm,HB4.out⟩
set_option maxHeartbeats 1000000 in
theorem checkRepair_any (W H:Int)(g:ByteArray)(h:Sh)(s:St)(x:Inp)(B:Nat)(w:World)(hin:StIn w B h s)(hB:B<=w.heap.size) :
 Calls Tryz.prog 107 #[zam W H g,shV h,inpV x] w fun e w'=>e=.returned (.int .i64 (codeR s x))/\Below w.heap.size w w':=by
 obtain ⟨w3,hw3,hB3,hz3,hg3,hs3,hx3⟩:=gsx_head w W H g h x
 have HW:=qz hw3
 have HB3:=qz hB3
 have HIN:=qz ((hin.mono hB).below hB3)
 have HRO:=qz (iisRobot_any h s w.heap.size x.a w3 HIN.out.rs)
 have HS3:=qz hs3
 have HX3:=qz hx3
 by_cases hr:IsR s x.a
 · have HY:Hid (codeR s x=_):=codeR_yes hr
   rw [zby hr] at HRO
   obtain ⟨i,hxa,hi⟩:=isR_int hr
   have HFA:=qz fun (V:World) (hV:Below w3.heap.size w3 V)=>iisFaulted_any h s.rs w.heap.size i V ((HIN.out.below (hV.mono hB3.size)).rs) (by have:=hV.size;omega) hi
   obtain ⟨k,a,b,c⟩:=x
   simp only [] at hxa HRO HY
   subst hxa
   rw [Int.toNat_natCast] at HY
   obtain ⟨t,a1,n1,c1,a2,n2,c2,a3,n3,c3⟩:=h
   clear hw3 hB3 hg3 hs3 hx3 hin hr hi
   go_enter Tryz.func107,Tryz.ntmps107
   go_wp2_with fail
   rw [<- HW.out]
   refine HRO.out.mono ?_
   rintro e w4 ⟨rfl,hb4⟩
   have hs4:=HS3.out.below hb4 (by omega)
   have hx4:=HX3.out.below hb4 (by omega)
   obtain ⟨s0,s1,s2,s3⟩:=hs4
   obtain ⟨x0,x1,x2,x3⟩:=hx4
   simp only [] at s0 s1 s2 s3 x0 x1 x2 x3
   have HB4:=qz (HB3.out.trans (hb4.mono HB3.out.size))
   have HFB:=qz (HFA.out _ hb4)
   clear hb4 HRO HFA
   generalize (s.rs.getD i zr).b=m at HFB HY
   by_cases hm:m=4
   · subst hm
     rw [if_pos rfl] at HY
     go_wp2_with fail
     refine HFB.out.mono ?_
     rintro e w5 ⟨rfl,hb5⟩
     have HB5:=qz (HB4.out.trans (hb5.mono HB4.out.size))
     go_wp2_with fail
     go_ret
     exact ⟨ret_int' HY.out.symm,HB5.out⟩
   · have e1:(m==4)=false:=by simpa using hm
     rw [e1] at HFB
     rw [if_neg hm] at HY
     go_wp2_with fail
     refine HFB.out.mono ?_
     rintro e w5 ⟨rfl,hb5⟩
     have HB5:=qz (HB4.out.trans (hb5.mono HB4.out.size))
     go_wp2_with fail
     go_ret
     exact ⟨ret_int' HY.out.symm,HB5.out⟩
 · have HY:Hid (codeR s x=5):=codeR_no hr
   rw [zal hr] at HRO
   obtain ⟨k,a,b,c⟩:=x
   simp only [] at HRO
   obtain ⟨t,a1,n1,c1,a2,n2,c2,a3,n3,c3⟩:=h
   clear hw3 hB3 hg3 hs3 hx3 hin hr
   go_enter Tryz.func107,Tryz.ntmps107
   go_wp2_with fail
   rw [<- HW.out]
   refine HRO.out.mono ?_
   rintro e w4 ⟨rfl,hb4⟩
   have HB4:=qz (HB3.out.trans (hb4.mono HB3.out.size))
   go_wp2_with fail
   go_ret
   exact ⟨ret_int' HY.out.symm,HB4.out⟩
set_option maxHeartbeats 1000000 in
theorem checkStall_any (W H:Int)(g:ByteArray)(h:Sh)(s:St)(x:Inp)(B:Nat)(w:World)(hin:StIn w B h s)(hB:B<=w.heap.size) :
 Calls Tryz.prog 109 #[zam W H g,shV h,inpV x] w fun e w'=>e=.returned (.int .i64 (codeH s x))/\Below w.heap.size w w':=by
 obtain ⟨w3,hw3,hB3,hz3,hg3,hs3,hx3⟩:=gsx_head w W H g h x
 have HW:=qz hw3
 have HB3:=qz hB3
 have HIN:=qz ((hin.mono hB).below hB3)
 have HRO:=qz (iisRobot_any h s w.heap.size x.a w3 HIN.out.rs)
 have HX3:=qz hx3
 by_cases hr:IsR s x.a
 · have HY:Hid (codeH s x=_):=codeH_yes hr
   rw [zby hr] at HRO
   obtain ⟨k,a,b,c⟩:=x
   simp only [] at HRO HY
   obtain ⟨t,a1,n1,c1,a2,n2,c2,a3,n3,c3⟩:=h
   clear hw3 hB3 hg3 hs3 hx3 hin hr
   by_cases hm:1<=b/\b<=1000
   · rw [if_pos hm] at HY
     have HWI:=qz fun V=>iwithin_yes hm V
     clear hm
     go_enter Tryz.func109,Tryz.ntmps109
     go_wp2_with fail
     rw [<- HW.out]
     refine HRO.out.mono ?_
     rintro e w4 ⟨rfl,hb4⟩
     have hx4:=HX3.out.below hb4 (by omega)
     obtain ⟨x0,x1,x2,x3⟩:=hx4
     simp only [] at x0 x1 x2 x3
     have HB4:=qz (HB3.out.trans (hb4.mono HB3.out.size))
     clear hb4 HRO
     go_wp2_with fail
     refine (HWI.out _).mono ?_
     rintro e w5 ⟨rfl,rfl⟩
     go_wp2_with fail
     go_ret
     exact ⟨ret_int' HY.out.symm,HB4.out⟩
   · rw [if_neg hm] at HY
     have HWI:=qz fun V=>iwithin_no hm V
     clear hm
     go_enter Tryz.func109,Tryz.ntmps109
     go_wp2_with fail
     rw [<- HW.out]
     refine HRO.out.mono ?_
     rintro e w4 ⟨rfl,hb4⟩
     have hx4:=HX3.out.below hb4 (by omega)
     obtain ⟨x0,x1,x2,x3⟩:=hx4
     simp only [] at x0 x1 x2 x3
     have HB4:=qz (HB3.out.trans (hb4.mono HB3.out.size))
     clear hb4 HRO
     go_wp2_with fail
     refine (HWI.out _).mono ?_
     rintro e w5 ⟨rfl,rfl⟩
     go_wp2_with fail
     go_ret
     exact ⟨ret_int' HY.out.symm,HB4.out⟩
 · have HY:Hid (codeH s x=5):=codeH_no hr
   rw [zal hr] at HRO
   obtain ⟨k,a,b,c⟩:=x
   simp only [] at HRO
   obtain ⟨t,a1,n1,c1,a2,n2,c2,a3,n3,c3⟩:=h
   clear hw3 hB3 hg3 hs3 hx3 hin hr
   go_enter Tryz.func109,Tryz.ntmps109
   go_wp2_with fail
   rw [<- HW.out]
   refine HRO.out.mono ?_
   rintro e w4 ⟨rfl,hb4⟩
   have HB4:=qz (HB3.out.trans (hb4.mono HB3.out.size))
   go_wp2_with fail
   go_ret
   exact ⟨ret_int' HY.out.symm,HB4.out⟩
end Go.Proofs.YtknnnbpgkfaapaaGreat.Vm
namespace Go.Proofs.YtknnnbpgkfaapaaGreat.Vm
open Go Go.RowKit Go.Maps
end Go.Proofs.YtknnnbpgkfaapaaGreat.Vm
namespace Go.Proofs.YtknnnbpgkfaapaaGreat.Vm
open Go Go.RowKit
end Go.Proofs.YtknnnbpgkfaapaaGreat.Vm
namespace Go.Proofs.YtknnnbpgkfaapaaGreat.Vm
open Go Go.RowKit
end Go.Proofs.YtknnnbpgkfaapaaGreat.Vm
namespace Go.Proofs.YtknnnbpgkfaapaaGreat.Vm
open Go Go.RowKit
noncomputable def rightB (fl:Int->Bool)(s:St):Bool:=yes (RightP fl s)
theorem robots_no {fl:Int->Bool}{s:St}{i:Nat}(hi:i<s.rs.length)(h:¬ RobP fl s i):rightB fl s=false:=zal fun hh=>h ((rightP_ref.1 hh).2.1 i hi)
theorem tasks_no {fl:Int->Bool}{s:St}{i:Nat}(hi:i<s.ts.length)(h:¬ TaskP fl s i):rightB fl s=false:=zal fun hh=>h ((rightP_ref.1 hh).2.2.1 i hi)
theorem shuts_no {fl:Int->Bool}{s:St}{i:Nat}(hi:i<s.bl.length)(h:¬ ShutP fl s.bl i):rightB fl s=false:=zal fun hh=>h (hh.shut i hi)
set_option maxHeartbeats 2000000 in
theorem rstRight_any (W H:Int)(g:ByteArray)(h:Sh)(s:St)(B:Nat)(w:World)(hg:g.size<=maxLen)(hin:StIn w B h s)(hB:B<=w.heap.size) :
 Calls Tryz.prog 15 #[zam W H g,shV h] w fun e w'=>e=.returned (.bool (rightB (zac (zaa g)) s))/\Below w.heap.size w w':=by
 obtain ⟨w2,hw2,hB2,hz2,hg2,hs2⟩:=zbv w W H g h
 have HIN:=qz (hin.mono hB)
 have HT:=qz hin.tick
 have HRL:=qz hin.rs.1
 have HTL:=qz hin.ts.1
 have HBL:=qz hin.bl.1
 have HBC:=qz hin.bl.cells
 have HW2:=qz hw2
 have HG:=qz hg
 have HG2:=qz hg2
 have HS2:=qz hs2
 have hm1:=hin.rs.len
 have hm2:=hin.ts.len
 have hm3:=Nat.le_trans hin.bl.2.1 hin.bl.2.2.1
 have HRB:=qz fun (i:Nat) (hi:i<s.rs.length) (hn:h.n1<=1000000) (V:World) (hV:Below w.heap.size w V)=>rrobot_any W H g h s i w.heap.size V hg ((hin.mono hB).below hV) hV.size hi hn
 have HTB:=qz fun (i:Nat) (hi:i<s.ts.length) (V:World) (hV:Below w.heap.size w V)=>rtask_any W H g h s i w.heap.size V hg ((hin.mono hB).below hV) hV.size hi
 obtain ⟨t,a1,n1,c1,a2,n2,c2,a3,n3,c3⟩:=h
 obtain ⟨tick,rs,ts,bl⟩:=s
 simp only [] at hm1 hm2 hm3 HT HRL HTL HBL HRB HTB HBC
 unfold maxLen at hm1 hm2 hm3
 obtain ⟨g1,g2,g3⟩:=hg2
 obtain ⟨s0,s1,s2,s3⟩:=hs2
 simp only [] at s0 s1 s2 s3
 obtain ⟨fl,hfl⟩:∃ fl,zac (zaa g)=fl:=⟨_,rfl⟩
 rw [hfl]
 rw [hfl] at HRB HTB
 have HFL:=qz hfl
 have hno:∀ p:Prop,(RightP fl ⟨tick,rs,ts,bl⟩->p)->¬ p->rightB fl ⟨tick,rs,ts,bl⟩=false:=fun p h1 h2=>zal fun h3=>h2 (h1 h3)
 have HNO:=qz hno
 have HBA:=qz hB2
 rw [HW2.out] at HBA
 clear hin hw2 hg hfl hno
 by_cases ht0:t<0
 · have HY:=qz (HNO.out _ (fun h=>h.tick) (by show ¬ (0<=tick/\tick<=2147483647);have:=HT.out;omega))
   go_enter Tryz.func15,Tryz.ntmps15
   go_wp2_with fail
   go_ret
   exact ⟨zad HY.out.symm,HBA.out⟩
 by_cases ht1:2147483647<t
 · have HY:=qz (HNO.out _ (fun h=>h.tick) (by show ¬ (0<=tick/\tick<=2147483647);have:=HT.out;omega))
   go_enter Tryz.func15,Tryz.ntmps15
   go_wp2_with fail
   go_ret
   exact ⟨zad HY.out.symm,HBA.out⟩
 by_cases hn1:1024<n1
 · have HY:=qz (HNO.out _ (fun h=>h.rn) (by show ¬ rs.length<=1024;rw [HRL.out];omega))
   go_enter Tryz.func15,Tryz.ntmps15
   go_wp2_with fail
   go_ret
   exact ⟨zad HY.out.symm,HBA.out⟩
 by_cases hn2:1000<n2
 · have HY:=qz (HNO.out _ (fun h=>h.tn) (by show ¬ ts.length<=1000;rw [HTL.out];omega))
   go_enter Tryz.func15,Tryz.ntmps15
   go_wp2_with fail
   go_ret
   exact ⟨zad HY.out.symm,HBA.out⟩
 have HHEAD:Hid ((0<=tick/\tick<=2147483647)/\rs.length<=1024/\ts.length<=1000):=by
  have h1:=HT.out
  have h2:=HRL.out
  have h3:=HTL.out
  exact ⟨by omega,by omega,by omega⟩
 go_enter Tryz.func15,Tryz.ntmps15
 go_wp2_with fail
 rw [<- HW2.out]
 clear g1 g2 g3 s0 s1 s2 s3 ht0 ht1
 go_loopw [5] (fun i wr=>∃ k:Nat,k<=n1/\i=.int .i64 k/\Below w2.heap.size w2 wr/\Hid (∀ j,j<k->RobP fl ⟨tick,rs,ts,bl⟩ j)) (fun i _=>n1-(intOf i).toNat)
 case atStart=>exact ⟨0,Nat.zero_le _,rfl,zX _ _,fun j hj=>absurd hj (Nat.not_lt_zero _)⟩
 case round =>
  obtain ⟨k,hk,rfl,hbel,HA⟩:=hrel
  have hBr:=hB2.trans (hbel.mono hB2.size)
  obtain ⟨g1,g2,g3⟩:=HG2.out.below hbel (by omega)
  obtain ⟨s0,s1,s2,s3⟩:=HS2.out.below hbel (by omega)
  simp only [] at s0 s1 s2 s3
  by_cases hlt:k<n1
  · have HKN:Hid (k<rs.length):=by unfold Hid;rw [HRL.out];exact hlt
    have HC:=qz (HRB.out k HKN.out (by omega) _ hBr)
    by_cases hp:¬ RobP fl ⟨tick,rs,ts,bl⟩ k
    · have HY:=qz (robots_no (s:=⟨tick,rs,ts,bl⟩) HKN.out hp)
      rw [zal hp] at HC
      clear hp
      go_wp2_with fail
      refine HC.out.mono ?_
      rintro e w3 ⟨rfl,hv3⟩
      have hB3:=hBr.trans (hv3.mono hBr.size)
      go_wp2_with fail
      go_ret
      exact ⟨zad HY.out.symm,hB3⟩
    · have HP:=qz (Classical.not_not.1 hp)
      rw [zby HP.out] at HC
      clear hp
      go_wp2_with fail
      refine HC.out.mono ?_
      rintro e w3 ⟨rfl,hv3⟩
      go_wp2_with fail
      go_roundw
      case rel=>exact ⟨k+1,by omega,by go_num,hbel.trans (hv3.mono hbel.size),upto_more HA.out HP.out⟩
      case measure=>simp [intOf];omega
  · have hkn:k=n1:=by omega
    rw [hkn] at HA
    have HAR:Hid (∀ i,i<rs.length->RobP fl ⟨tick,rs,ts,bl⟩ i):=by unfold Hid;rw [HRL.out];exact HA.out
    clear HA hkn hk HRB
    go_wp2_with fail
    clear g1 g2 g3 s0 s1 s2 s3
    go_loopw [6] (fun i wr=>∃ k:Nat,k<=n2/\i=.int .i64 k/\Below w2.heap.size w2 wr/\Hid (∀ j,j<k->TaskP fl ⟨tick,rs,ts,bl⟩ j)) (fun i _=>n2-(intOf i).toNat)
    case atStart=>exact ⟨0,Nat.zero_le _,rfl,hbel,fun j hj=>absurd hj (Nat.not_lt_zero _)⟩
    case round =>
     clear hbel hBr
     obtain ⟨k,hk,rfl,hbel,HA⟩:=hrel
     have hBr:=hB2.trans (hbel.mono hB2.size)
     obtain ⟨g1,g2,g3⟩:=HG2.out.below hbel (by omega)
     obtain ⟨s0,s1,s2,s3⟩:=HS2.out.below hbel (by omega)
     simp only [] at s0 s1 s2 s3
     by_cases hlt:k<n2
     · have HKN:Hid (k<ts.length):=by unfold Hid;rw [HTL.out];exact hlt
       have HC:=qz (HTB.out k HKN.out _ hBr)
       by_cases hp:¬ TaskP fl ⟨tick,rs,ts,bl⟩ k
       · have HY:=qz (tasks_no (s:=⟨tick,rs,ts,bl⟩) HKN.out hp)
         rw [zal hp] at HC
         clear hp
         go_wp2_with fail
         refine HC.out.mono ?_
         rintro e w3 ⟨rfl,hv3⟩
         have hB3:=hBr.trans (hv3.mono hBr.size)
         go_wp2_with fail
         go_ret
         exact ⟨zad HY.out.symm,hB3⟩
       · have HP:=qz (Classical.not_not.1 hp)
         rw [zby HP.out] at HC
         clear hp
         go_wp2_with fail
         refine HC.out.mono ?_
         rintro e w3 ⟨rfl,hv3⟩
         go_wp2_with fail
         go_roundw
         case rel=>exact ⟨k+1,by omega,by go_num,hbel.trans (hv3.mono hbel.size),upto_more HA.out HP.out⟩
         case measure=>simp [intOf];omega
     · have hkn:k=n2:=by omega
       rw [hkn] at HA
       have HAT:Hid (∀ i,i<ts.length->TaskP fl ⟨tick,rs,ts,bl⟩ i):=by unfold Hid;rw [HTL.out];exact HA.out
       clear HA hkn hk HTB
       go_wp2_with fail
       clear g1 g2 g3 s0 s1 s2 s3
       go_loopw [7] (fun i wr=>∃ k:Nat,k<=n3/\i=.int .i64 k/\Below w2.heap.size w2 wr/\Hid (∀ j,j<k->ShutP fl bl j)) (fun i _=>n3-(intOf i).toNat)
       case atStart=>exact ⟨0,Nat.zero_le _,rfl,hbel,fun j hj=>absurd hj (Nat.not_lt_zero _)⟩
       case round =>
        clear hbel hBr
        obtain ⟨k,hk,rfl,hbel,HA⟩:=hrel
        have hBr:=hB2.trans (hbel.mono hB2.size)
        have hzr:=hbel.size
        have hgr:=HG2.out.below hbel (by omega)
        have hsr:=HS2.out.below hbel (by omega)
        obtain ⟨g1,g2,g3⟩:=id hgr
        obtain ⟨s0,s1,s2,s3⟩:=id hsr
        simp only [] at s0 s1 s2 s3
        by_cases hlt:k<n3
        · obtain ⟨b,off,rfl,hb,hcs⟩:=HBC.out (by omega)
          have hcell:=(hBr.cell (p:=⟨b,off+k,none⟩) (show b<w.heap.size by omega)).trans (hcs k hlt)
          have HKN:Hid (k<bl.length):=by unfold Hid;rw [HBL.out];exact hlt
          have hx:∃ x,bl.getD k 0=x:=⟨_,rfl⟩
          obtain ⟨x,hx⟩:=hx
          rw [hx] at hcell
          have HX:=qz hx
          have hbr:b<wr.heap.size:=by omega
          have k0:Kept wr wr:=Kept.refl _
          clear hx
          obtain ⟨q,hq⟩:∃ q,fl x=q:=⟨_,rfl⟩
          have hcall:∀ n:Held wr,Calls Tryz.prog 36 #[zam W H g,.int .i64 x] n.V fun e V'=>e=.returned (.bool q)/\∃ m:Held wr,V'=m.V:=fun n=>n.call (by
           have hc:=zaw W H x g n.V HG.out
           rwa [HFL.out,hq] at hc)
          have HF:=qz hcall
          have hne:Nonempty (Held wr):=⟨⟨wr,k0⟩⟩
          have c1:∀ n:Held wr,n.V.cell? ⟨w.heap.size,0,none⟩=some (.int .i64 W):=fun n=>n.cell g1
          have c2:∀ n:Held wr,n.V.cell? ⟨w.heap.size,1,none⟩=some (.int .i64 H):=fun n=>n.cell g2
          have c3':∀ n:Held wr,n.V.cell? ⟨w.heap.size,2,none⟩=some (.string g):=fun n=>n.cell g3
          have c4:∀ n:Held wr,n.V.cell? ⟨w.heap.size+1,3,none⟩=some (.slice (some ⟨b,off,none⟩) n3 c3):=fun n=>n.cell s3
          clear hcall
          cases q
          · have HY:=qz (shuts_no (fl:=fl) (s:=⟨tick,rs,ts,bl⟩) HKN.out (fun h=>by have h1:=h.1;simp only [] at h1;rw [HX.out,hq] at h1;cases h1))
            have HBR:=qz hBr
            have c5:∀ n:Held wr,n.V.cell? ⟨b,off+k,none⟩=some (.int .i64 x):=fun n=>n.cell hcell
            clear hq hgr hsr hcs hBr s0 s1 s2
            go_wp2_with fail
            refine zaz k0 (by kernel_rfl) (by kernel_rfl) ?_
            repeat (go_big_quiet_step ((go_at_call 36;exact HF.out _)))
            refine wpQuiet_nil ?_
            rintro _ ⟨⟨V,hV⟩,rfl⟩
            go_wp2_with fail
            go_ret
            exact ⟨zad HY.out.symm,HBR.out.trans (Below.mono hV HBR.out.size)⟩
          · have HFX:=qz hq
            by_cases hk0:k=0
            · subst hk0
              rw [Nat.add_zero] at hcell
              have HP:Hid (ShutP fl bl 0):=by
               unfold Hid ShutP
               rw [HX.out]
               exact ⟨HFX.out,fun h=>absurd h (Nat.lt_irrefl _)⟩
              have HBE:=qz hbel
              have c5:∀ n:Held wr,n.V.cell? ⟨b,off,none⟩=some (.int .i64 x):=fun n=>n.cell hcell
              clear hq hgr hsr hcs hBr s0 s1 s2 hbel
              go_wp2_with fail
              refine zaz k0 (by kernel_rfl) (by kernel_rfl) ?_
              repeat (go_big_quiet_step ((go_at_call 36;exact HF.out _)))
              refine wpQuiet_nil ?_
              rintro _ ⟨⟨V,hV⟩,rfl⟩
              go_wp2_with fail
              go_roundw
              case rel=>exact ⟨1,by omega,by go_num,HBE.out.trans (Below.mono hV HBE.out.size),upto_more HA.out HP.out⟩
              case measure=>simp [intOf];omega
            · obtain ⟨m,rfl⟩:∃ m,k=m+1:=⟨k-1,by omega⟩
              have hcell2:=(hBr.cell (p:=⟨b,off+m,none⟩) (show b<w.heap.size by omega)).trans (hcs m (by omega))
              have hy:∃ y,bl.getD m 0=y:=⟨_,rfl⟩
              obtain ⟨y,hy⟩:=hy
              rw [hy] at hcell2
              have HYY:=qz hy
              have hk1:decide ((0:Int)<((m+1:Nat):Int))=true:=decide_eq_true (by omega)
              have HBE:=qz hbel
              have HBR:=qz hBr
              have c5:∀ n:Held wr,n.V.cell? ⟨b,off+(m+1),none⟩=some (.int .i64 x):=fun n=>n.cell hcell
              have c6:∀ n:Held wr,n.V.cell? ⟨b,off+m,none⟩=some (.int .i64 y):=fun n=>n.cell hcell2
              clear hq hgr hsr hcs hy
              by_cases hle:x<=y
              · have HY:=qz (shuts_no (fl:=fl) (s:=⟨tick,rs,ts,bl⟩) HKN.out (fun h=>by
                 have h1:=h.2 (by omega)
                 rw [Nat.add_sub_cancel] at h1
                 simp only [] at h1
                 rw [HX.out,HYY.out] at h1
                 omega))
                clear hBr s0 s1 s2 hbel
                go_wp2_with fail
                refine zaz k0 (by kernel_rfl) (by kernel_rfl) ?_
                repeat (go_big_quiet_step ((go_at_call 36;exact HF.out _)))
                refine wpQuiet_nil ?_
                rintro _ ⟨⟨V,hV⟩,rfl⟩
                go_wp2_with fail
                go_ret
                exact ⟨zad HY.out.symm,HBR.out.trans (Below.mono hV HBR.out.size)⟩
              · have HP:Hid (ShutP fl bl (m+1)):=by
                 unfold Hid ShutP
                 rw [HX.out,Nat.add_sub_cancel,HYY.out]
                 exact ⟨HFX.out,fun _=>by omega⟩
                clear hBr s0 s1 s2 hbel
                go_wp2_with fail
                refine zaz k0 (by kernel_rfl) (by kernel_rfl) ?_
                repeat (go_big_quiet_step ((go_at_call 36;exact HF.out _)))
                refine wpQuiet_nil ?_
                rintro _ ⟨⟨V,hV⟩,rfl⟩
                go_wp2_with fail
                go_roundw
                case rel=>exact ⟨m+1+1,by omega,by go_num,HBE.out.trans (Below.mono hV HBE.out.size),upto_more HA.out HP.out⟩
                case measure=>simp [intOf];omega
        · have hkn:k=n3:=by omega
          rw [hkn] at HA
          have HY:Hid (rightB fl ⟨tick,rs,ts,bl⟩=true):=zby (rightP_ref.2 ⟨HHEAD.out,HAR.out,HAT.out,by show ∀ i,i<bl.length->ShutP fl bl i;rw [HBL.out];exact HA.out⟩)
          clear HA
          go_wp2_with fail
          go_ret
          exact ⟨zad HY.out.symm,hBr⟩
set_option maxHeartbeats 400000 in
theorem findFn_any (b:Nat)(id:Int)(x:Rec)(w:World)(hc:w.cell? ⟨b,0,none⟩=some (.int .i64 id)) :
 Calls Tryz.prog 100 #[recV x,.pointer (some ⟨b,0,none⟩)] w fun e w'=>e=.returned (.bool (x.a==id))/\Below w.heap.size w w':=by
 have hb:b<w.heap.size:=World.block_lt_of_cell? w ⟨b,0,none⟩ hc
 go_enter Tryz.func100,Tryz.ntmps100
 go_wp2_with fail
 go_ret
 exact ⟨rfl,(zX _ _).alloc (zL _) _⟩
set_option maxHeartbeats 400000 in
theorem index_any (a:Option Addr)(n c B b:Nat)(ts:List Rec)(id:Int)(w:World)(hin:RowR w B a n c ts)(hB:B<=w.heap.size)(hc:w.cell? ⟨b,0,none⟩=some (.int .i64 id)) :
 Calls Tryz.prog 99 #[.slice a n c,.func (.func 100) #[] #[.pointer (some ⟨b,0,none⟩)]] w fun e w'=>e=.returned (.int .i64 (zat ts id))/\Below w.heap.size w w':=by
 have hm2:=hin.len
 unfold maxLen at hm2
 have hbw:b<w.heap.size:=World.block_lt_of_cell? w ⟨b,0,none⟩ hc
 have HL:=qz hin.1
 have HC:=qz hin.cells
 have HCC:=qz hc
 clear hin hc
 go_enter Tryz.func99,Tryz.ntmps99
 go_wp2_with fail
 go_loopw [8] (fun i wr=>∃ k:Nat,k<=n/\i=.int .i64 k/\Below w.heap.size w wr/\Hid (∀ j,j<k->(ts.getD j zr).a≠id)) (fun i _=>n-(intOf i).toNat)
 case atStart=>exact ⟨0,Nat.zero_le _,rfl,zX _ _,fun j hj=>absurd hj (Nat.not_lt_zero _)⟩
 case round =>
  obtain ⟨k,hk,rfl,hbel,HA⟩:=hrel
  by_cases hlt:k<n
  · obtain ⟨b1,off,rfl,hb,hcs⟩:=HC.out (by omega)
    have hcell:=(hcs k hlt).below hbel (by omega)
    have HKN:Hid (k<ts.length):=by unfold Hid;rw [HL.out];exact hlt
    have hx:∃ x,ts.getD k zr=x:=⟨_,rfl⟩
    obtain ⟨x,hx⟩:=hx
    rw [hx] at hcell
    have HX:=qz hx
    obtain ⟨p1,p2,p3,p4,p5⟩:=hcell
    have HCALL:=qz (findFn_any b id x wr ((hbel.cell (p:=⟨b,0,none⟩) hbw).trans HCC.out))
    clear hcs hx
    by_cases he:x.a=id
    · have e1:(x.a==id)=true:=by simpa using he
      have HY:=qz (findS_at HKN.out HA.out (by rw [HX.out];exact he))
      rw [e1] at HCALL
      clear he e1
      go_wp2_with fail
      refine HCALL.out.mono ?_
      rintro e w1 ⟨rfl,hv1⟩
      have hb1:=hbel.trans (hv1.mono hbel.size)
      go_wp2_with fail
      go_ret
      exact ⟨ret_int' HY.out.symm,hb1⟩
    · have e1:(x.a==id)=false:=by simpa using he
      have HE:Hid ((ts.getD k zr).a≠id):=by unfold Hid;rw [HX.out];exact he
      rw [e1] at HCALL
      clear he e1
      go_wp2_with fail
      refine HCALL.out.mono ?_
      rintro e w1 ⟨rfl,hv1⟩
      have hb1:=hbel.trans (hv1.mono hbel.size)
      go_wp2_with fail
      go_roundw
      case rel=>exact ⟨k+1,by omega,by go_num,hb1,upto_more HA.out HE.out⟩
      case measure=>simp [intOf];omega
  · have hkn:k=n:=by omega
    rw [hkn] at HA
    have HY:Hid (zat ts id=-1):=findS_no (by rw [HL.out];exact HA.out)
    clear HA
    go_wp2_with fail
    go_ret
    exact ⟨ret_int' HY.out.symm,hbel⟩
set_option maxHeartbeats 400000 in
theorem find_any (h:Sh)(ts:List Rec)(id:Int)(B:Nat)(w:World)(hin:RowR w B h.a2 h.n2 h.c2 ts)(hB:B<=w.heap.size) :
 Calls Tryz.prog 74 #[shV h,.int .i64 id] w fun e w'=>e=.returned (.int .i64 (zat ts id))/\Below w.heap.size w w':=by
 have hB0:Below w.heap.size w ((w.alloc (shO h)).alloc (.cells #[.int .i64 id] 3)):=((zX _ _).alloc (zL _) _).alloc (by simp) _
 have HIX:=qz (index_any h.a2 h.n2 h.c2 w.heap.size (w.heap.size+1) ts id ((w.alloc (shO h)).alloc (.cells #[.int .i64 id] 3)) ((hin.mono hB).below hB0) hB0.size (by simp))
 obtain ⟨t,a1,n1,c1,a2,n2,c2,a3,n3,c3⟩:=h
 have HB0:=qz hB0
 generalize zat ts id=f at HIX
 clear hB0 hin
 go_enter Tryz.func74,Tryz.ntmps74
 go_wp2_with fail
 refine HIX.out.mono ?_
 rintro e w1 ⟨rfl,hv1⟩
 have hB1:=HB0.out.trans (hv1.mono HB0.out.size)
 go_wp2_with fail
 go_ret
 exact ⟨rfl,hB1⟩
def errandS (ts:List Rec)(r:Rec):Int × Bool :=
 if zat ts r.c<0 then (0,false) else if r.b=1 then ((ts.getD (zat ts r.c).toNat zr).b,true) else ((ts.getD (zat ts r.c).toNat zr).c,true)
theorem zib {R:Int × Bool}{a:Int}{b:Bool}(h:R=(a,b)):Ending.returned (.tuple #[.int .i64 a,.bool b])=.returned (.tuple #[.int .i64 R.1,.bool R.2]):=by rw [h]
set_option maxHeartbeats 400000 in
theorem errand_any (h:Sh)(ts:List Rec)(r:Rec)(B:Nat)(w:World)(hin:RowR w B h.a2 h.n2 h.c2 ts)(hB:B<=w.heap.size) :
 Calls Tryz.prog 118 #[shV h,recV r] w fun e w'=>e=.returned (.tuple #[.int .i64 (errandS ts r).1,.bool (errandS ts r).2])/\Below w.heap.size w w':=by
 have hB1:Below w.heap.size w (w.alloc (shO h)):=(zX _ _).alloc (zL _) _
 have hs1:=zbo w h
 have hz1:(w.alloc (shO h)).heap.size=w.heap.size+1:=by simp
 obtain ⟨w1,hw1⟩:∃ w1,w1=w.alloc (shO h):=⟨_,rfl⟩
 rw [<- hw1] at hB1 hs1 hz1
 have hB2:Below w.heap.size w (w1.alloc (.cells #[.int .i64 r.a,.int .i64 r.b,.int .i64 r.c,.int .i64 r.d,.int .i64 r.e] 46)):=hB1.alloc (by omega) _
 have hb2:Below w1.heap.size w1 (w1.alloc (.cells #[.int .i64 r.a,.int .i64 r.b,.int .i64 r.c,.int .i64 r.d,.int .i64 r.e] 46)):=(zX _ _).alloc (zL _) _
 have hr2:=recAt_new w1 r 46
 have hs2:=hs1.below hb2 (by omega)
 rw [hz1] at hr2
 have hz2:(w1.alloc (.cells #[.int .i64 r.a,.int .i64 r.b,.int .i64 r.c,.int .i64 r.d,.int .i64 r.e] 46)).heap.size=w.heap.size+2:=by simp [hz1]
 obtain ⟨w2,hw2⟩:∃ w2,w2=w1.alloc (.cells #[.int .i64 r.a,.int .i64 r.b,.int .i64 r.c,.int .i64 r.d,.int .i64 r.e] 46):=⟨_,rfl⟩
 rw [<- hw2] at hB2 hr2 hs2 hz2
 have hin2:=(hin.mono hB).below hB2
 have HFD:=qz (find_any h ts r.c w.heap.size w2 hin2 hB2.size)
 have HIN:=qz (hin.mono hB)
 have HS2:=qz hs2
 have HR2:=qz hr2
 obtain ⟨t,a1,n1,c1,a2,n2,c2,a3,n3,c3⟩:=h
 have HW1:=qz hw1
 have HW2:=qz hw2
 clear hin2 hin hs1 hs2 hr2 hb2 hw1 hw2 hB1 hz1
 rcases zbn ts r.c with ⟨hfn,_⟩|⟨j,hj,hfj,_,_⟩
 · have HY:Hid (errandS ts r=(0,false)):=by
    unfold Hid errandS
    rw [if_pos (by omega)]
   rw [hfn] at HFD
   clear hfn
   go_enter Tryz.func118,Tryz.ntmps118
   go_wp2_with fail
   rw [<- HW1.out,<- HW2.out]
   refine HFD.out.mono ?_
   rintro e w3 ⟨rfl,hv3⟩
   have hB3:=hB2.trans (hv3.mono hB2.size)
   go_wp2_with fail
   go_ret2
   exact ⟨zib HY.out,hB3⟩
 · have hjn:j<n2:=by have:=HIN.out.1;simp only [] at this;omega
   obtain ⟨b1,off,e',hb,hcs⟩:=HIN.out.cells (show 0<n2 by omega)
   simp only [] at e'
   subst e'
   have hcell:=hcs j hjn
   have hy:∃ y,ts.getD j zr=y:=⟨_,rfl⟩
   obtain ⟨y,hy⟩:=hy
   rw [hy] at hcell
   have HY1:Hid (r.b=1->errandS ts r=(y.b,true)):=fun h1=>by
    unfold errandS
    rw [hfj,if_neg (by omega),if_pos h1,Int.toNat_natCast,hy]
   have HY2:Hid (r.b≠1->errandS ts r=(y.c,true)):=fun h1=>by
    unfold errandS
    rw [hfj,if_neg (by omega),if_neg h1,Int.toNat_natCast,hy]
   rw [hfj] at HFD
   have HCL:=qz (hcell.below hB2 (by omega))
   clear hcell hcs hy hfj hj
   by_cases h1:r.b=1
   · have e1:(r.b==1)=true:=by simpa using h1
     have HZ:=qz (HY1.out h1)
     clear h1
     go_enter Tryz.func118,Tryz.ntmps118
     go_wp2_with fail
     rw [<- HW1.out,<- HW2.out]
     refine HFD.out.mono ?_
     rintro e w3 ⟨rfl,hv3⟩
     have hB3:=hB2.trans (hv3.mono hB2.size)
     obtain ⟨s0,s1,s2,s3⟩:=HS2.out.below hv3 (by omega)
     obtain ⟨r1,r2,r3,r4,r5⟩:=HR2.out.below hv3 (by omega)
     obtain ⟨q1,q2,q3,q4,q5⟩:=HCL.out.below hv3 (by have:=hB2.size;omega)
     simp only [] at s0 s1 s2 s3
     go_wp2_with fail
     go_ret2
     exact ⟨zib HZ.out,hB3⟩
   · have e1:(r.b==1)=false:=by simpa using h1
     have HZ:=qz (HY2.out h1)
     clear h1
     go_enter Tryz.func118,Tryz.ntmps118
     go_wp2_with fail
     rw [<- HW1.out,<- HW2.out]
     refine HFD.out.mono ?_
     rintro e w3 ⟨rfl,hv3⟩
     have hB3:=hB2.trans (hv3.mono hB2.size)
     obtain ⟨s0,s1,s2,s3⟩:=HS2.out.below hv3 (by omega)
     obtain ⟨r1,r2,r3,r4,r5⟩:=HR2.out.below hv3 (by omega)
     obtain ⟨q1,q2,q3,q4,q5⟩:=HCL.out.below hv3 (by have:=hB2.size;omega)
     simp only [] at s0 s1 s2 s3
     go_wp2_with fail
     go_ret2
     exact ⟨zib HZ.out,hB3⟩
end Go.Proofs.YtknnnbpgkfaapaaGreat.Vm
