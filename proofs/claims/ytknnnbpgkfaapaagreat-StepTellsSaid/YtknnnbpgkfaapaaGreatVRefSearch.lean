import Derived.Test.YtknnnbpgkfaapaaGreatQ
import Derived.Test.YtknnnbpgkfaapaaGreatVIntRows
import Derived.Test.YtknnnbpgkfaapaaGreatVAppendZ
import Derived.Test.YtknnnbpgkfaapaaGreatVRefGoes
import Derived.Test.YtknnnbpgkfaapaaGreatVLeadMath
import Derived.OwnWalk
set_option maxRecDepth 100000
set_option linter.unusedSimpArgs false
set_option linter.unusedVariables false
namespace Go.Proofs.YtknnnbpgkfaapaaGreat.Vm
open Go Go.RowKit
def CurAt (w:World)(cur:Option (List Int × Int))(v1 v2 v3:Value):Prop :=
 match cur with
 | none=>v1=.slice none 0 0/\v2=.int .i64 0/\v3=.bool false
 | some x=>∃ a n c,v1=.slice a n c/\v2=.int .i64 x.2/\v3=.bool true/\RowZ .i64 w w.heap.size a n c x.1
theorem CurAt.below {w w':World}{cur:Option (List Int × Int)}{v1 v2 v3:Value}(h:CurAt w cur v1 v2 v3)(hb:Below w.heap.size w w'):CurAt w' cur v1 v2 v3:=by
 cases cur with
 | none=>exact h
 | some x =>
   obtain ⟨a,n,c,h1,h2,h3,h4⟩:=h
   exact ⟨a,n,c,h1,h2,h3,(h4.below hb).mono hb.size⟩
def SearchPost (w:World)(r:Option (List Int × Int))(e:Ending)(w':World):Prop:=∃ v1 v2 v3,e=.returned (.tuple #[v1,v2,v3])/\CurAt w' r v1 v2 v3/\Below w.heap.size w w'
section
variable {W H:Int} {cells:List Nat} {far bl:List Int} {oth:List (List Int)} {k way:Nat} {c t:Int}
theorem candP_no1 (h:(zak W H cells c (way:Nat)).2=false):zce W H cells far bl oth k c way=none:=by unfold zce;rw [if_neg (fun hc=>by rw [h] at hc;cases hc.1)]
theorem candP_no2 (h:zak W H cells c (way:Nat)=(t,true))(hm:¬ MayP bl oth (5-k) c t):zce W H cells far bl oth k c way=none:=by unfold zce;rw [if_neg (fun hc=>by rw [h] at hc;exact hm hc.2)]
theorem candP_no3 (h:zak W H cells c (way:Nat)=(t,true))(hp:pathS W H cells far bl oth k t=none):zce W H cells far bl oth k c way=none:=by
 unfold zce
 rw [h]
 simp only []
 rw [hp]
 split <;> rfl
theorem candP_yes {x:List Int × Int}(h:zak W H cells c (way:Nat)=(t,true))(hm:MayP bl oth (5-k) c t)(hp:pathS W H cells far bl oth k t=some x):zce W H cells far bl oth k c way=some (t :: x.1,x.2+costP far t):=by
 unfold zce
 rw [h]
 simp only []
 rw [if_pos ⟨trivial,hm⟩,hp]
 rfl
theorem bestP_stay {f:Nat->Option (List Int × Int)}{m:Nat}(h:f m=none):bestP f (m+1)=bestP f m:=by rw [bestP,h];rfl
theorem bestP_first {f:Nat->Option (List Int × Int)}{m:Nat}{y:List Int × Int}(h:f m=some y)(hb:bestP f m=none):bestP f (m+1)=some y:=by rw [bestP,h,hb];rfl
theorem bestP_less {f:Nat->Option (List Int × Int)}{m:Nat}{x y:List Int × Int}(h:f m=some y)(hb:bestP f m=some x)(hl:y.2<x.2):bestP f (m+1)=some y:=by
 rw [bestP,h,hb]
 show (if y.2<x.2 then some y else some x)=some y
 rw [if_pos hl]
theorem bestP_keep {f:Nat->Option (List Int × Int)}{m:Nat}{x y:List Int × Int}(h:f m=some y)(hb:bestP f m=some x)(hl:¬ y.2<x.2):bestP f (m+1)=some x:=by
 rw [bestP,h,hb]
 show (if y.2<x.2 then some y else some x)=some x
 rw [if_neg hl]
end
theorem ownZ_lit (w:World)(x:Int){B:Nat}(hB:B<=w.heap.size):OwnZ (w.alloc (.cells #[.int .i64 x] 3)) B (.slice (some ⟨w.heap.size,0,none⟩) 1 1) [x]:=by
 have:=World.ownsRow_lit (base:=B) (e:=3) (size:=1) w #[.int .i64 x] 1 hB (by unfold maxLen;omega) rfl
 exact this
set_option maxHeartbeats 4000000 in
theorem rsearch_any (W H:Int)(s:ByteArray)(hok:Okay W H s)(far bl:List Int)(oth:List (List Int))(af a1 a2:Option Addr)(nf cf n1 c1 n2 c2 B:Nat)(hfl:far.length=s.size)(hfb:∀ i,far.getD i 0<=1000000)(hfg:∀ i,-1<=far.getD i 0)(hn1:n1<=100000)(hn2:n2<=100000) :
 ∀ (k p:Nat) (c:Int) (w:World),p+k=6->RowZ .i64 w B af nf cf far->RowZ .i64 w B a1 n1 c1 bl->RowL w B a2 n2 c2 oth->B<=w.heap.size ->
   Calls Tryz.prog 82 #[zam W H s,.slice af nf cf,.slice a1 n1 c1,.slice a2 n2 c2,.int .i64 (p:Nat),.int .i64 c] w (SearchPost w (pathS W H (zaa s) far bl oth k c)):=by
 intro k
 induction k with
 | zero =>
   intro p c w hpk _ _ _ _
   obtain rfl:p=6:=by omega
   have hb0:∀ o,Below w.heap.size w (w.alloc o):=fun o=>(zX _ _).alloc (zL _) o
   go_enter Tryz.func82,Tryz.ntmps82
   go_wp2_with fail
   go_ret3
   exact ⟨_,_,_,rfl,⟨none,0,0,rfl,rfl,rfl,rfl,zL _,by simp [maxLen],fun h=>absurd h (by omega)⟩,hb0 _⟩
 | succ k ih =>
   intro p c w hpk hrf hr1 hr2 hB
   obtain rfl:p=5-k:=by omega
   have hk5:k<=5:=by omega
   have hp6:(((5-k:Nat):Int)==6)=false:=by simp;omega
   have hb0:Below w.heap.size w (w.alloc (zar W H s)):=(zX _ _).alloc (zL _) _
   have hg0:=zbq w W H s
   have hz0:(w.alloc (zar W H s)).heap.size=w.heap.size+1:=by simp
   have IH:=qz ih
   have HRF:=qz hrf
   have HR1:=qz hr1
   have HR2:=qz hr2
   have HG0:=qz hg0
   have HB0:=qz hb0
   have HFB:=qz hfb
   have HFG:=qz hfg
   have hnf:far.length=nf:=hrf.1
   have hcf:=hrf.2.1
   have HOK:=qz hok
   have hsz:=hok.le
   clear ih hrf hr1 hr2 hg0 hb0 hfb hfg
   generalize hw1:w.alloc (zar W H s)=w1 at HG0 HB0 hz0
   have HW1:=qz hw1
   clear hw1
   obtain ⟨q,hq⟩:∃ q:Nat,5-k=q:=⟨_,rfl⟩
   have HQ:=qz hq
   rw [hq] at hp6 ⊢
   have hq5:q<=5:=by omega
   have hqk:q+k=5:=by omega
   clear hq
   rw [pathS_succ]
   go_enter Tryz.func82,Tryz.ntmps82
   go_wp2_with fail
   rw [HW1.out]
   go_loopw [15,16,17,18] (fun v1 v2 v3 v4 wr=>∃ m:Nat,m<=5/\v4=.int .i64 m/\Hid (CurAt wr (bestP (zce W H (zaa s) far bl oth k c) m) v1 v2 v3)/\Hid (Below (w.heap.size+1) w1 wr)) (fun _ _ _ v _=>5-(intOf v).toNat)
   case atStart=>exact ⟨0,Nat.zero_le _,rfl,⟨rfl,rfl,rfl⟩,zX _ _⟩
   case round =>
    obtain ⟨m,hm,rfl,HC,HBE⟩:=hrel
    by_cases hlt:m<5
    · have HWR:Hid (Below w.heap.size w wr):=HB0.out.trans (HBE.out.mono (by omega))
      have hgr:=HG0.out.below HBE.out (by omega)
      have hsw:=HWR.out.size
      have hle4:(m:Int)<=4:=by omega
      have HGO:=qz (rgoes_any W H c (m:Int) s wr HOK.out)
      have HGE:=qz (fun (t:Int) (h:zak W H (zaa s) c (m:Int)=(t,true))=>goesS_nat h)
      have hlen:(zaa s).length=s.size:=zag s
      cases hgs:zak W H (zaa s) c (m:Int) with
      | mk t is =>
        rw [hgs] at HGO
        simp only [] at HGO
        have HGS:=qz hgs
        obtain ⟨g1,g2,g3⟩:=hgr
        cases is with
        | false =>
          have HN:Hid (bestP (zce W H (zaa s) far bl oth k c) (m+1)=bestP (zce W H (zaa s) far bl oth k c) m):=bestP_stay (candP_no1 (by rw [hgs]))
          clear hgs
          go_wp2_with fail
          refine HGO.out.mono ?_
          rintro e w2 ⟨rfl,hb2⟩
          have HC2:=qz (HC.out.below hb2)
          have HB2:=qz (HBE.out.trans (hb2.mono HBE.out.size |>.mono (by omega)))
          go_wp2_with fail
          go_roundw
          case rel=>exact ⟨m+1,by omega,by go_num,by rw [HN.out];exact HC2.out,HB2.out⟩
          case measure=>simp [intOf];omega
        | true =>
          obtain ⟨ht0,htN⟩:=HGE.out t hgs
          obtain ⟨t',rfl⟩:=Int.eq_ofNat_of_zero_le ht0
          have htl:t'<nf:=by omega
          clear hgs ht0 htN
          go_wp2_with fail
          refine HGO.out.mono ?_
          rintro e w2 ⟨rfl,hb2⟩
          have HB2:=qz (HBE.out.trans (hb2.mono (Nat.le_trans (by omega) HBE.out.size)))
          have HW2:Hid (Below w.heap.size w w2):=HWR.out.trans (hb2.mono HWR.out.size)
          have hs2:=HW2.out.size
          have HC2:=qz (HC.out.below hb2)
          obtain ⟨g1,g2,g3⟩:=HG0.out.below HB2.out (by omega)
          have HMA:=qz (rmay_any a1 a2 n1 c1 n2 c2 B q c (t':Nat) bl oth w2 (HR1.out.below (HW2.out.mono hB)) (HR2.out.below (HW2.out.mono hB)) (by omega) hn1 hn2)
          clear hb2 HGO HC HBE HWR hsw
          by_cases hmy:MayP bl oth q c (t':Nat)
          · rw [decide_eq_true hmy] at HMA
            have hs:=IH.out (q+1) (t':Nat) w2 (by omega) (HRF.out.below (HW2.out.mono hB)) (HR1.out.below (HW2.out.mono hB)) (HR2.out.below (HW2.out.mono hB)) (Nat.le_trans hB hs2)
            rw [show ((q+1:Nat):Int)=(q:Int)+1 by omega] at hs
            have HS:=qz hs
            have hwq:IntKind.i64.wrap ((q:Int)+1)=(q:Int)+1:=by simp only [IntKind.wrap_i64];omega
            have HMY:Hid (MayP bl oth (5-k) c (t':Nat)):=by unfold Hid;rw [HQ.out];exact hmy
            clear hs hmy
            cases hps:pathS W H (zaa s) far bl oth k (t':Nat) with
            | none =>
              have HN:Hid (bestP (zce W H (zaa s) far bl oth k c) (m+1)=bestP (zce W H (zaa s) far bl oth k c) m):=bestP_stay (candP_no3 HGS.out hps)
              rw [hps] at HS
              clear hps
              go_wp2_with fail
              refine HMA.out.mono ?_
              rintro e w3 ⟨rfl,hw3⟩
              subst hw3
              go_wp2_with fail
              refine HS.out.mono ?_
              rintro e w4 ⟨v1,v2,v3,rfl,⟨rfl,rfl,rfl⟩,hb4⟩
              have HC4:=qz (HC2.out.below hb4)
              have HB4:=qz (HB2.out.trans (hb4.mono (Nat.le_trans (by omega) HB2.out.size)))
              clear hb4
              go_wp2_with fail
              go_roundw
              case rel=>exact ⟨m+1,by omega,by go_num,by rw [HN.out];exact HC4.out,HB4.out⟩
              case measure=>simp [intOf];omega
            | some x =>
              have hx:=pathS_cost HFB.out hps
              have hxl:=(pathS_steps hps).len
              have HY:Hid (zce W H (zaa s) far bl oth k c m=some ((t':Int) :: x.1,x.2+costP far (t':Nat))):=candP_yes HGS.out HMY.out hps
              rw [hps] at HS
              clear hps
              obtain ⟨x1,x2⟩:=x
              simp only [] at hx hxl HY
              have hx6:(k:Int)*1000000<=5000000:=by omega
              have hfv:=HFB.out t'
              have hfw:=HFG.out t'
              have hwx:IntKind.i64.wrap (x2+1000000)=x2+1000000:=by simp only [IntKind.wrap_i64];omega
              have hwf:IntKind.i64.wrap (x2+far.getD t' 0)=x2+far.getD t' 0:=by simp only [IntKind.wrap_i64];omega
              have HCP:Hid (costP far (t':Nat)=if far.getD t' 0<0 then 1000000 else far.getD t' 0):=by unfold Hid costP;rw [Int.toNat_natCast]
              rw [HCP.out] at HY
              go_wp2_with fail
              refine HMA.out.mono ?_
              rintro e w3 ⟨rfl,hw3⟩
              subst hw3
              go_wp2_with fail
              refine HS.out.mono ?_
              rintro e w4 ⟨v1,v2,v3,rfl,⟨a,n,cc,rfl,rfl,rfl,hrow⟩,hb4⟩
              have HC4:=qz (HC2.out.below hb4)
              have HB4:=qz (HB2.out.trans (hb4.mono (Nat.le_trans (by omega) HB2.out.size)))
              have HW4:=qz (HW2.out.trans (hb4.mono hs2))
              obtain ⟨fb,fo,rfl,hfb2,hfc⟩:=(HRF.out.below (HW4.out.mono hB)).cells (by omega)
              have hfcell:=hfc t' htl
              have hrl:=hrow.1
              have HROW:=qz fun o=>(hrow.below ((zX w4.heap.size w4).alloc (zL _) o))
              have HOW:=qz (ownZ_lit w4 (t':Int) (zL _))
              have HBA:=qz fun o=>(zX w4.heap.size w4).alloc (zL _) o
              have hs4:=HB4.out.size
              have hlx:x1.length=n:=hrl
              clear hfc hb4 HS HMA hrow HC2 HB2 HW2 g1 g2 g3
              generalize hfvv:far.getD t' 0=fv at hfcell hwf HY hfv hfw
              clear hfvv
              by_cases hneg:fv<0
              · rw [if_pos hneg] at HY
                cases hcur:bestP (zce W H (zaa s) far bl oth k c) m with
                | none =>
                  have HN:=qz (bestP_first HY.out hcur)
                  rw [hcur] at HC4
                  obtain ⟨rfl,rfl,rfl⟩:=HC4.out
                  clear hcur
                  go_wp2_with (at_builtin;refine zbm rfl (.tmp 83) (.tmp 84) rfl rfl HOW.out rfl (HROW.out _) (by simp only [List.length_cons,List.length_nil];omega) (HBA.out _).size ?_;intro v' w5 ho5 hb5)
                  obtain ⟨a5,c5,rfl,hr5⟩:=ho5.row
                  have HB5:=qz (HB4.out.trans (((HBA.out _).trans hb5).mono (by omega)))
                  have HR5:=qz hr5
                  clear ho5 hb5 hr5
                  go_wp2_with fail
                  go_roundw
                  case rel=>exact ⟨m+1,by omega,by go_num,by rw [HN.out];exact ⟨a5,_,c5,rfl,rfl,rfl,HR5.out⟩,HB5.out⟩
                  case measure=>simp [intOf];omega
                | some z =>
                  obtain ⟨z1,z2⟩:=z
                  rw [hcur] at HC4
                  obtain ⟨az,nz,cz,rfl,rfl,rfl,hzr⟩:=HC4.out
                  by_cases hless:x2+1000000<z2
                  · have HN:=qz (bestP_less HY.out hcur hless)
                    clear hcur hzr
                    go_wp2_with (at_builtin;refine zbm rfl (.tmp 83) (.tmp 84) rfl rfl HOW.out rfl (HROW.out _) (by simp only [List.length_cons,List.length_nil];omega) (HBA.out _).size ?_;intro v' w5 ho5 hb5)
                    obtain ⟨a5,c5,rfl,hr5⟩:=ho5.row
                    have HB5:=qz (HB4.out.trans (((HBA.out _).trans hb5).mono (by omega)))
                    have HR5:=qz hr5
                    clear ho5 hb5 hr5
                    go_wp2_with fail
                    go_roundw
                    case rel=>exact ⟨m+1,by omega,by go_num,by rw [HN.out];exact ⟨a5,_,c5,rfl,rfl,rfl,HR5.out⟩,HB5.out⟩
                    case measure=>simp [intOf];omega
                  · have HN:=qz (bestP_keep HY.out hcur hless)
                    have HZ:=qz hzr
                    clear hcur hzr
                    go_wp2_with fail
                    go_roundw
                    case rel=>exact ⟨m+1,by omega,by go_num,by rw [HN.out];exact ⟨az,nz,cz,rfl,rfl,rfl,HZ.out⟩,HB4.out⟩
                    case measure=>simp [intOf];omega
              · rw [if_neg hneg] at HY
                cases hcur:bestP (zce W H (zaa s) far bl oth k c) m with
                | none =>
                  have HN:=qz (bestP_first HY.out hcur)
                  rw [hcur] at HC4
                  obtain ⟨rfl,rfl,rfl⟩:=HC4.out
                  clear hcur
                  go_wp2_with (at_builtin;refine zbm rfl (.tmp 83) (.tmp 84) rfl rfl HOW.out rfl (HROW.out _) (by simp only [List.length_cons,List.length_nil];omega) (HBA.out _).size ?_;intro v' w5 ho5 hb5)
                  obtain ⟨a5,c5,rfl,hr5⟩:=ho5.row
                  have HB5:=qz (HB4.out.trans (((HBA.out _).trans hb5).mono (by omega)))
                  have HR5:=qz hr5
                  clear ho5 hb5 hr5
                  go_wp2_with fail
                  go_roundw
                  case rel=>exact ⟨m+1,by omega,by go_num,by rw [HN.out];exact ⟨a5,_,c5,rfl,rfl,rfl,HR5.out⟩,HB5.out⟩
                  case measure=>simp [intOf];omega
                | some z =>
                  obtain ⟨z1,z2⟩:=z
                  rw [hcur] at HC4
                  obtain ⟨az,nz,cz,rfl,rfl,rfl,hzr⟩:=HC4.out
                  by_cases hless:x2+fv<z2
                  · have HN:=qz (bestP_less HY.out hcur hless)
                    clear hcur hzr
                    go_wp2_with (at_builtin;refine zbm rfl (.tmp 83) (.tmp 84) rfl rfl HOW.out rfl (HROW.out _) (by simp only [List.length_cons,List.length_nil];omega) (HBA.out _).size ?_;intro v' w5 ho5 hb5)
                    obtain ⟨a5,c5,rfl,hr5⟩:=ho5.row
                    have HB5:=qz (HB4.out.trans (((HBA.out _).trans hb5).mono (by omega)))
                    have HR5:=qz hr5
                    clear ho5 hb5 hr5
                    go_wp2_with fail
                    go_roundw
                    case rel=>exact ⟨m+1,by omega,by go_num,by rw [HN.out];exact ⟨a5,_,c5,rfl,rfl,rfl,HR5.out⟩,HB5.out⟩
                    case measure=>simp [intOf];omega
                  · have HN:=qz (bestP_keep HY.out hcur hless)
                    have HZ:=qz hzr
                    clear hcur hzr
                    go_wp2_with fail
                    go_roundw
                    case rel=>exact ⟨m+1,by omega,by go_num,by rw [HN.out];exact ⟨az,nz,cz,rfl,rfl,rfl,HZ.out⟩,HB4.out⟩
                    case measure=>simp [intOf];omega
          · rw [decide_eq_false hmy] at HMA
            have HN:Hid (bestP (zce W H (zaa s) far bl oth k c) (m+1)=bestP (zce W H (zaa s) far bl oth k c) m):=bestP_stay (candP_no2 HGS.out (by rw [HQ.out];exact hmy))
            clear hmy
            go_wp2_with fail
            refine HMA.out.mono ?_
            rintro e w3 ⟨rfl,hw3⟩
            subst hw3
            go_wp2_with fail
            go_roundw
            case rel=>exact ⟨m+1,by omega,by go_num,by rw [HN.out];exact HC2.out,HB2.out⟩
            case measure=>simp [intOf];omega
    · obtain rfl:m=5:=by omega
      have HWR:Hid (Below w.heap.size w wr):=HB0.out.trans (HBE.out.mono (by omega))
      go_wp2_with fail
      go_ret3
      exact ⟨_,_,_,rfl,HC.out,HWR.out⟩
end Go.Proofs.YtknnnbpgkfaapaaGreat.Vm
