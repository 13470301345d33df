import Derived.Test.YtknnnbpgkfaapaaGreatQ
import Derived.Test.YtknnnbpgkfaapaaGreatVPlanPath
import Derived.Test.YtknnnbpgkfaapaaGreatVRefStGoals
import Derived.Test.YtknnnbpgkfaapaaGreatVStepMath
import Derived.Maps.RangeWalk
import Derived.Deep.RegionHeld3
set_option maxRecDepth 100000
set_option linter.unusedSimpArgs false
set_option linter.unusedVariables false
namespace Go.Proofs.YtknnnbpgkfaapaaGreat.Vm
open Go Go.RowKit Go.Maps
def stayZ (x:Int)(k:Nat):List Int:=(List.range 7).map fun i=>if i<k then x else 0
theorem stayZ_len (x:Int)(k:Nat):(stayZ x k).length=7:=by simp [stayZ]
theorem stayZ_start (x:Int):stayZ x 0=List.replicate 7 0:=by simp [stayZ,List.range_succ]
theorem stayZ_end (x:Int):stayZ x 7=List.replicate 7 x:=by simp [stayZ,List.range_succ]
theorem stayZ_set (x:Int){k:Nat}(hk:k<7):(stayZ x k).set k x=stayZ x (k+1):=by
 match k,hk with
 | 0,_=>simp [stayZ,List.range_succ]
 | 1,_=>simp [stayZ,List.range_succ]
 | 2,_=>simp [stayZ,List.range_succ]
 | 3,_=>simp [stayZ,List.range_succ]
 | 4,_=>simp [stayZ,List.range_succ]
 | 5,_=>simp [stayZ,List.range_succ]
 | 6,_=>simp [stayZ,List.range_succ]
set_option maxHeartbeats 1000000 in
theorem staying_any (x:Int)(w:World) :
 Calls Tryz.prog 64 #[.int .i64 x] w fun e w'=>e=.returned (.slice (some ⟨w.heap.size,0,none⟩) 7 7)/\RowZ .i64 w' w'.heap.size (some ⟨w.heap.size,0,none⟩) 7 7 (List.replicate 7 x)/\Below w.heap.size w w':=by
 have hmk:(Instr.makeSlice 26 (.int .i64 7) (.int .i64 7)).run Tryz.prog w=.ok (.slice (some ⟨w.heap.size,0,none⟩) 7 7) (w.alloc (.cells ⟨zan (List.replicate 7 0)⟩ 3)):=make_ints w 7 (by omega)
 have hn0:=numsZ_made w 7 (by omega)
 rw [<- stayZ_start x] at hmk hn0
 have HN0:=qz hn0
 have hb0:Below w.heap.size w (w.alloc (.cells ⟨zan (stayZ x 0)⟩ 3)):=(zX _ _).alloc (zL _) _
 have HB0:=qz hb0
 clear hn0 hb0
 go_enter Tryz.func64,Tryz.ntmps64
 go_wp2_with fail
 clear hmk
 go_loopw [8] (fun i wr=>∃ k:Nat,k<=7/\i=.int .i64 k/\Hid (NumsZ wr w.heap.size w.heap.size (stayZ x k))/\Hid (Below w.heap.size w wr)) (fun i _=>7-(intOf i).toNat)
 case atStart=>exact ⟨0,Nat.zero_le _,rfl,HN0.out,HB0.out⟩
 case round =>
  obtain ⟨k,hk,rfl,HN,HB⟩:=hrel
  by_cases hlt:k<7
  · have hk0:(0:Int)<=(k:Int):=by omega
    have hk7:(k:Int)<7:=by omega
    have hc:=HN.out.cell (i:=k) (by rw [stayZ_len];exact hlt)
    have hf:=HN.out.frozen k
    have hs:=HN.out.set k x
    rw [stayZ_set x hlt] at hs
    have HS:=qz hs
    have HB2:=qz (HB.out.setCell (p:=⟨w.heap.size,k,none⟩) (zL _) (.int .i64 x))
    generalize (stayZ x k).getD k 0=z at hc
    clear hs
    go_wp2_with fail
    go_roundw
    case rel=>exact ⟨k+1,by omega,by go_num,HS.out,HB2.out⟩
    case measure=>simp [intOf];omega
  · obtain rfl:k=7:=by omega
    have hr:=HN.out.row
    rw [stayZ_len,stayZ_end] at hr
    have HR:=qz hr
    clear hr
    go_wp2_with fail
    go_ret
    exact ⟨rfl,HR.out,HB.out⟩
noncomputable def goF (W H:Int)(l:List Nat)(s:St)(k:Nat)(z:Int):Option Int:=if 0<=z/\z<k/\(zay W H l s z).2=true then some (zay W H l s z).1 else none
theorem goF_zero (W H:Int)(l:List Nat)(s:St)(z:Int):goF W H l s 0 z=none:=by unfold goF;rw [if_neg (by omega)]
theorem goF_yes {W H:Int}{l:List Nat}{s:St}{k:Nat}(h:(zay W H l s (k:Int)).2=true)(z:Int):goF W H l s (k+1) z=if z=(k:Int) then some (zay W H l s (k:Int)).1 else goF W H l s k z:=by
 by_cases e:z=(k:Int)
 · subst e
   unfold goF
   rw [if_pos ⟨by omega,by omega,h⟩,if_pos rfl]
 · rw [if_neg e]
   unfold goF
   congr 1
   exact propext ⟨fun ⟨h1,h2,h3⟩=>⟨h1,by omega,h3⟩,fun ⟨h1,h2,h3⟩=>⟨h1,by omega,h3⟩⟩
theorem goF_no {W H:Int}{l:List Nat}{s:St}{k:Nat}(h:(zay W H l s (k:Int)).2=false)(z:Int):goF W H l s (k+1) z=goF W H l s k z:=by
 unfold goF
 congr 1
 refine propext ⟨fun ⟨h1,h2,h3⟩=>⟨h1,?_,h3⟩,fun ⟨h1,h2,h3⟩=>⟨h1,by omega,h3⟩⟩
 have:z≠(k:Int):=fun e=>by rw [e,h] at h3;cases h3
 omega
theorem goF_at {W H:Int}{l:List Nat}{s:St}{n i:Nat}(hi:i<n):goF W H l s n (i:Int)=if (zay W H l s (i:Int)).2=true then some (zay W H l s (i:Int)).1 else none:=by
 unfold goF
 congr 1
 exact propext ⟨fun ⟨_,_,h⟩=>h,fun h=>⟨by omega,by omega,h⟩⟩
theorem MapIn.less {w:World}{mb n m:Nat}{f:Int->Option Int}(h:MapIn w mb n f)(hm:n<=m):MapIn w mb m f:=by
 obtain ⟨D,⟨es,clock,hb,r1,r2,r3⟩,r⟩:=h
 exact ⟨D,⟨es,clock,hb,r1,Nat.le_trans r2 hm,r3⟩,r⟩
theorem MapIn.isMap {w:World}{mb n:Nat}{f:Int->Option Int}(h:MapIn w mb n f):MapAt w mb:=by
 obtain ⟨D,⟨es,clock,hb,_⟩,_⟩:=h
 exact ⟨es,clock,hb⟩
set_option maxHeartbeats 1000000 in
theorem goalsOf_any (W H:Int)(g:ByteArray)(h:Sh)(s:St)(B:Nat)(w:World)(hok:Okay W H g)(hin:StIn w B h s)(hB:B<=w.heap.size)(hbw:WfZ s.bl)(hn1:h.n1<=100000)(hn3:h.n3<=1000000)(hgw:∀ i:Nat,i<h.n1->(zay W H (zaa g) s (i:Int)).2=true->wfI (zay W H (zaa g) s (i:Int)).1) :
 Calls Tryz.prog 62 #[zam W H g,shV h] w fun e w'=>∃ mb,e=.returned (.map (some mb))/\w.heap.size<=mb/\MapIn w' mb h.n1 (goF W H (zaa g) s h.n1)/\Below w.heap.size w w':=by
 obtain ⟨w2,hw2,hB2,hz2,hg2,hs2⟩:=zbv w W H g h
 have hmk:=make_mapI h.n1 w2
 have hm0:=mapIn_new w2 (f:=goF W H (zaa g) s 0) (fun z=>goF_zero W H (zaa g) s z)
 have hb3:Below w2.heap.size w2 (w2.alloc (.map #[] 0)):=(zX _ _).alloc (zL _) _
 have HGO:=qz fun (x:Int) V (hV:Below w.heap.size w V)=>goal_any W H g h s x B V hok (hin.below (hV.mono hB)) (Nat.le_trans hB hV.size) hbw hn3
 have HGW:=qz hgw
 have HB2:=qz hB2
 have HG2:=qz hg2
 have HS2:=qz hs2
 have HW2:=qz hw2
 rw [hz2] at hm0 hmk
 have HM0:=qz hm0
 have HB3:=qz hb3
 have hin1:h.n1<=h.c1:=hin.rs.2.1
 obtain ⟨g0,g1,g2⟩:=hg2
 obtain ⟨s0,s1,s2,s3⟩:=hs2
 obtain ⟨t,a1,n1,c1,a2,n2,c2,a3,n3,c3⟩:=h
 simp only [] at s0 s1 s2 s3 hmk hn1 HM0
 rw [hw2] at s0 s1 s2 s3 g0 g1 g2 hmk
 clear hw2 hB2 hm0 hb3 hgw hin hok hbw
 go_enter Tryz.func62,Tryz.ntmps62
 go_wp2_with fail
 rw [<- HW2.out]
 clear hmk g0 g1 g2 s0 s1 s2 s3
 go_loopw [16] (fun i wr=>∃ k:Nat,k<=n1/\i=.int .i64 k/\Hid (MapIn wr (w.heap.size+2) k (goF W H (zaa g) s k))/\Hid (But (w.heap.size+2) (w2.alloc (.map #[] 0)) wr)) (fun i _=>n1-(intOf i).toNat)
 case atStart=>exact ⟨0,Nat.zero_le _,rfl,HM0.out,But.refl _ _⟩
 case round =>
  obtain ⟨k,hk,rfl,HM,HBU⟩:=hrel
  have hz3:(w2.alloc (.map #[] 0)).heap.size=w.heap.size+3:=by simp [hz2]
  have hbr:Below (w.heap.size+2) w2 wr:=(HB3.out.mono (by omega)).trans (HBU.out.below (zL _) (by omega))
  have hbw:Below w.heap.size w wr:=HB2.out.trans (hbr.mono (by omega))
  obtain ⟨g0,g1,g2⟩:=HG2.out.below hbr (by omega)
  obtain ⟨s0,s1,s2,s3⟩:=HS2.out.below hbr (by omega)
  simp only [] at s0 s1 s2 s3
  by_cases hlt:k<n1
  · have HCA:=qz (HGO.out (k:Int) wr hbw)
    have HGK:=qz (HGW.out k hlt)
    have HNO:=qz (goF_no (W:=W) (H:=H) (l:=zaa g) (s:=s) (k:=k))
    have HYE:=qz (goF_yes (W:=W) (H:=H) (l:=zaa g) (s:=s) (k:=k))
    obtain ⟨⟨x,b⟩,hgl⟩:∃ G,zay W H (zaa g) s (k:Int)=G:=⟨_,rfl⟩
    rw [hgl] at HCA HGK HNO HYE
    simp only [] at HCA HGK HNO HYE
    clear hgl hbr
    cases b with
    | false =>
      have HNO2:=qz (HNO.out rfl)
      clear HNO HYE
      go_wp2_with fail
      refine HCA.out.mono ?_
      rintro e w5 ⟨rfl,hb5⟩
      have hsr:=hbw.size
      have HM5:=qz ((HM.out.keep (hb5.block _ HM.out.lt)).to HNO2.out)
      have HBU5:=qz (HBU.out.calls (hb5.mono (by have:=HBU.out.size;omega)))
      clear hb5 hbw
      go_wp2_with fail
      go_roundw
      case rel=>exact ⟨k+1,by omega,by go_num,HM5.out.less (by omega),HBU5.out⟩
      case measure=>simp [intOf];omega
    | true =>
      have HYE2:=qz (HYE.out rfl)
      have hwx:=HGK.out rfl
      have HWX:=qz hwx
      clear HNO HYE hwx
      go_wp2_with fail
      refine HCA.out.mono ?_
      rintro e w5 ⟨rfl,hb5⟩
      obtain ⟨w6,hrun,hm6,hg6⟩:=(HM.out.keep (hb5.block _ HM.out.lt)).put (z:=(k:Int)) (x:=x) (by omega) (WalkArith.wf_i64 (by omega)) HWX.out
      have HM6:=qz (hm6.to HYE2.out)
      have HBU6:=qz ((HBU.out.calls (hb5.mono (by have:=HBU.out.size;omega))).trans hg6)
      clear hb5 hbw hm6 hg6
      go_wp2_with fail
      go_roundw
      case rel=>exact ⟨k+1,by omega,by go_num,HM6.out,HBU6.out⟩
      case measure=>simp [intOf];omega
  · obtain rfl:k=n1:=by omega
    have HBW:=qz hbw
    clear hbw hbr
    go_wp2_with fail
    go_ret
    exact ⟨_,rfl,by omega,HM.out,HBW.out⟩
set_option maxHeartbeats 1000000 in
theorem countsOf_any (gb n:Nat)(f:Int->Option Int)(w:World)(h:MapIn w gb n f)(hn:n<=100000) :
 Calls Tryz.prog 66 #[.map (some gb)] w fun e w'=>∃ mb m f',e=.returned (.map (some mb))/\w.heap.size<=mb/\m<=100000/\MapIn w' mb m f'/\Below w.heap.size w w':=by
 obtain ⟨D,hown,hD,h0,h1⟩:=h
 have hlen:=World.ownsMap.len hown Tryz.underlying112 3
 obtain ⟨N,hN⟩:∃ N,Maps.size D=N:=⟨_,rfl⟩
 have hNn:N<=n:=by rw [<- hN];exact hown.size_le
 rw [hN] at hlen
 have hmk:=make_mapI N w
 have hm0:=mapIn_new w (f:=fun _=>none) (fun _=>rfl)
 have hown1:=World.ownsMap.alloc hown (.map #[] 0)
 have hz1:(w.alloc (.map #[] 0)).heap.size=w.heap.size+1:=by simp
 have hgl:=hown.lt
 have HM0:=qz hm0
 have HB1:Hid (Below w.heap.size w (w.alloc (.map #[] 0))):=(zX _ _).alloc (zL _) _
 clear hm0 h0 h1 hD
 go_enter Tryz.func66,Tryz.ntmps66
 go_wp2_with (first
  | (at_range;refine wpList_range_own _ rfl _ 112 rfl 3 3 key_law Tryz.underlying112 _ gb n _ rfl hown1 ?_;intro w0 hrg0 hg0 hs0)
  | go_in)
 go_frame
 rw [hN] at hrg0
 rw [hz1] at hrg0 hs0 ⊢
 go_loopw [] (fun wr=>∃ (left:Lit->Bool) (cnt:Nat),wr.ranges Tryz.prog 3 (plainElem Tryz.prog 3) gb (w.heap.size+1) n D left cnt/\cnt<=N/\Hid (∃ f',MapIn wr w.heap.size (N-cnt) f')/\Hid (Below w.heap.size w wr))
  (fun wr=>wr.rangeLeft gb (w.heap.size+1))
 case atStart =>
  refine ⟨_,_,hrg0,zL _,⟨_,(HM0.out.keep (hg0.block _ (by simp) (by simp))).less (Nat.zero_le _)⟩,HB1.out.grown hg0 (by simp) (fun j hj=>by cases hj)⟩
 case round =>
  obtain ⟨left,cnt,hrg,hcs,HM,HB⟩:=hrel
  go_wp2_with (first
   | (at_next;refine wpList_next_ranges_ii _ rfl _ rfl 3 3 .i64 .i64 key_law Tryz.underlying3 Tryz.underlying3 gb (w.heap.size+1) n _ _ _ rfl hrg ?_ ?_)
   | go_in)
  · intro hc0 hl0
    obtain ⟨f',hm⟩:=HM.out
    have HM2:=qz hm
    clear hm
    go_wp2_with fail
    go_ret
    exact ⟨_,_,f',rfl,zL _,by omega,HM2.out,HB.out⟩
  · intro x c w1 cnt1 hwx hwc hlx hat hrg1 hlt hg1 hs1 hen
    obtain ⟨f',hm⟩:=HM.out
    have hml:=hm.lt
    have hm1:=hm.keep (hg1.block _ hml (by intro e;injection e with e;omega))
    have hlook:=hm1.look1 (z:=c) hwc
    obtain ⟨y,hy⟩:∃ y,(f' c).getD 0=y:=⟨_,rfl⟩
    rw [hy] at hlook
    obtain ⟨y',hy'⟩:∃ y',IntKind.i64.wrap (y+1)=y':=⟨_,rfl⟩
    have hwy:(Lit.int .i64 y').wf=true:=by rw [<- hy'];exact wf_wrap _ _
    obtain ⟨w2,hrun,hm2,hg2⟩:=hm1.put (z:=c) (x:=y') (by omega) hwc hwy
    have hrg2:=hrg1.kept hg2 (fun e=>by have:=Option.some.inj e;omega) (fun e=>by have:=Option.some.inj e;omega)
    have HM2:Hid (∃ f',MapIn w2 w.heap.size (N-cnt1) f'):=⟨_,hm2.less (by omega)⟩
    have HB2:=qz ((HB.out.grown hg1 HB.out.size (fun j hj=>by cases hj;exact Nat.le_succ _)).grown hg2 (by have:=HB.out.size;omega) (fun j hj=>by cases hj;exact zL _))
    clear hm hm1 hm2 hg1 hg2 hy hwy
    go_wp2_with fail
    go_roundw
    case rel=>exact ⟨_,cnt1,hrg2,by omega,HM2.out,HB2.out⟩
    case measure=>rw [hrg2.left_eq,hrg.left_eq];exact hlt
end Go.Proofs.YtknnnbpgkfaapaaGreat.Vm
namespace Go.Proofs.YtknnnbpgkfaapaaGreat.Vm
open Go Go.RowKit Go.Maps
def PathsIn (w:World)(lb n:Nat)(f:Nat->List Int):Prop :=
 ∃ arr:Array Value,w.heap[lb]?=some (.cells arr 26 (0,0))/\arr.size=n/\∀ i,i<n->∃ a m c,arr[i]?=some (.slice a m c)/\RowZ .i64 w w.heap.size a m c (f i)
section
variable {w w':World} {lb n:Nat} {f g:Nat->List Int}
theorem PathsIn.lt (h:PathsIn w lb n f):lb<w.heap.size:=by obtain ⟨arr,h1,_⟩:=h;exact (Array.getElem?_eq_some_iff.1 h1).1
theorem PathsIn.at (h:PathsIn w lb n f){i:Nat}(hi:i<n):∃ a m c,w.cell? ⟨lb,i,none⟩=some (.slice a m c)/\RowZ .i64 w w.heap.size a m c (f i):=by
 obtain ⟨arr,h1,h2,h3⟩:=h
 obtain ⟨a,m,c,h4,h5⟩:=h3 i hi
 exact ⟨a,m,c,zae h1 h4,h5⟩
theorem PathsIn.fz (h:PathsIn w lb n f)(i:Nat):w.frozen? ⟨lb,i,none⟩=false:=by obtain ⟨arr,h1,_⟩:=h;exact frozen_heap h1
theorem PathsIn.to (h:PathsIn w lb n f)(hg:∀ i,i<n->g i=f i):PathsIn w lb n g:=by
 obtain ⟨arr,h1,h2,h3⟩:=h
 exact ⟨arr,h1,h2,fun i hi=>by rw [hg i hi];exact h3 i hi⟩
theorem PathsIn.alt {S:Nat->Prop}(h:PathsIn w lb n f)(hA:Alt S w w')(hS:∀ k,S k->MapAt w k):PathsIn w' lb n f:=by
 have hl:=h.lt
 obtain ⟨arr,h1,h2,h3⟩:=h
 have hn:¬ S lb:=fun e=>by
  obtain ⟨es,ck,e2⟩:=hS lb e
  rw [h1] at e2
  cases e2
 exact ⟨arr,(hA.block lb hl hn).trans h1,h2,fun i hi=>by
  obtain ⟨a,m,c,h4,h5⟩:=h3 i hi
  exact ⟨a,m,c,h4,(hA.rowZ hS h5).mono hA.size⟩⟩
theorem PathsIn.calls (h:PathsIn w lb n f)(hb:Below w.heap.size w w'):PathsIn w' lb n f:=h.alt (S:=fun _=>False) (.ofBelow hb) (fun _ e=>e.elim)
theorem row_setPaths {arr:Array Value}{i B m c:Nat}{a:Option Addr}{q:List Int}{v:Value}(h1:w.heap[lb]?=some (.cells arr 26 (0,0)))(hs:∀ u,u∈arr->∃ a m c,u=.slice a m c)(hr:RowZ .i64 w B a m c q):RowZ .i64 (w.setCell ⟨lb,i,none⟩ v) B a m c q:=by
 refine ⟨hr.1,hr.2.1,hr.2.2.1,fun hm=>?_⟩
 obtain ⟨b,off,e,hb,hc⟩:=hr.2.2.2 hm
 refine ⟨b,off,e,hb,fun j hj=>?_⟩
 have hne:b≠lb:=fun e2=>by
  have h2:=hc j hj
  unfold World.cell? at h2
  simp only [e2,h1] at h2
  have h3:arr[off+j]?=some (.int .i64 (q.getD j 0)):=by simpa using h2
  obtain ⟨h4,h5⟩:=Array.getElem?_eq_some_iff.1 h3
  obtain ⟨a',m',c',e3⟩:=hs _ (Array.getElem_mem h4)
  rw [h5] at e3
  cases e3
 exact (World.cell?_of_block (Below.heap_setCell w ⟨lb,i,none⟩ v b hne)).trans (hc j hj)
theorem PathsIn.set (h:PathsIn w lb n f){i:Nat}(hi:i<n){a:Option Addr}{m c:Nat}{q:List Int}(hr:RowZ .i64 w w.heap.size a m c q):PathsIn (w.setCell ⟨lb,i,none⟩ (.slice a m c)) lb n (fun j=>if j=i then q else f j):=by
 obtain ⟨arr,h1,h2,h3⟩:=h
 have hs:∀ u,u∈arr->∃ a m c,u=.slice a m c:=fun u hu=>by
  obtain ⟨j,hj,e⟩:=Array.getElem_of_mem hu
  obtain ⟨a',m',c',h4,_⟩:=h3 j (by omega)
  rw [Array.getElem?_eq_getElem hj,e] at h4
  injection h4 with h4
  exact ⟨a',m',c',h4⟩
 have hz:(w.setCell ⟨lb,i,none⟩ (.slice a m c)).heap.size=w.heap.size:=by simp [World.setCell]
 refine ⟨arr.set! i (.slice a m c),?_,by simpa using h2,fun j hj=>?_⟩
 · simp only [World.setCell,Array.getElem?_modify,if_true,h1,Option.map_some]
   rfl
 · by_cases e:j=i
   · subst e
     refine ⟨a,m,c,by simp [h2,hj],?_⟩
     rw [hz]
     simp only [if_true]
     exact row_setPaths h1 hs hr
   · obtain ⟨a',m',c',h4,h5⟩:=h3 j hj
     refine ⟨a',m',c',?_,?_⟩
     · rw [Array.set!_eq_setIfInBounds,Array.getElem?_setIfInBounds_ne (fun e'=>e e'.symm)]
       exact h4
     · rw [hz]
       simp only [e,if_false]
       exact row_setPaths h1 hs h5
theorem alt_setPaths {S:Nat->Prop}{A:World}{i:Nat}{v:Value}(h:Alt S A w)(hl:lb<A.heap.size->S lb):Alt S A (w.setCell ⟨lb,i,none⟩ v) :=
 ⟨h.os,h.tape,h.output,by simpa [World.setCell] using h.size,fun k hk hn=>(Below.heap_setCell w ⟨lb,i,none⟩ v k (fun e=>by have e:k=lb:=e;subst e;exact hn (hl hk))).trans (h.block k hk hn)⟩
theorem PathsIn.rowL (h:PathsIn w lb n f)(hn:n<=maxLen):RowL w w.heap.size (some ⟨lb,0,none⟩) n n ((List.range n).map f):=by
 have hl:=h.lt
 refine ⟨by simp,zL _,hn,fun h0=>⟨lb,0,rfl,hl,fun i hi=>?_⟩⟩
 obtain ⟨a,m,c,h4,h5⟩:=h.at hi
 refine ⟨a,m,c,by rw [Nat.zero_add];exact h4,?_⟩
 rw [show ((List.range n).map f).getD i []=f i by simp [List.getD,hi]]
 exact h5
end
theorem info_row:(Tryz.prog.info? 26).map (fun i=>(i.zero,i.size,i.bytes))=some (some (.slice none 0 0),1,24):=by kernel_rfl
theorem make_paths (w:World)(N:Nat)(hN:N<=1000000):∃ w',(Instr.makeSlice 65 (.int .i64 (N:Int)) (.int .i64 (N:Int))).run Tryz.prog w=.ok (.slice (some ⟨w.heap.size,0,none⟩) N N) w'/\PathsIn w' w.heap.size N (fun _=>[])/\Below w.heap.size w w'/\w'.heap.size=w.heap.size+1:=by
 obtain ⟨j0,hj0,hy0,hy1,hy2⟩:=info_parts info_row
 have hmk:=run_make (P:=Tryz.prog) w 65 26 j0 (.slice none 0 0) Tryz.underlying65 hj0 hy0 .i64 .i64 N N (by omega) (Int.le_refl _) (by rw [hy2];omega) (by omega)
 simp only [Int.toNat_natCast] at hmk
 rw [hy1] at hmk
 have hmc:(madeCells (Value.slice none 0 0).cells (N*1))=⟨List.replicate N (.slice none 0 0)⟩:=by
  apply Array.ext'
  simp only [Value.cells]
  rw [Nat.mul_one,toList_madeCells_one]
 rw [hmc] at hmk
 refine ⟨_,hmk,⟨⟨List.replicate N (.slice none 0 0)⟩,?_,by simp,fun i hi=>⟨none,0,0,by simp [hi],rfl,zL _,by simp [maxLen],fun h=>absurd h (by omega)⟩⟩,(zX _ _).alloc (zL _) _,by simp⟩
 show (w.heap.push _)[w.heap.size]?=_
 rw [Array.getElem?_push,if_pos rfl]
end Go.Proofs.YtknnnbpgkfaapaaGreat.Vm
namespace Go.Proofs.YtknnnbpgkfaapaaGreat.Vm
open Go Go.RowKit Go.Maps
def SaysPlans (f:Nat):Prop:=∀ (W H:Int) (g:ByteArray) (h:Sh) (s:St) (B:Nat) (w:World),Okay W H g->StIn w B h s->B<=w.heap.size->RightP (zac (zaa g)) s->h.n3<=1000 ->
 Calls Tryz.prog f #[zam W H g,shV h] w fun e w'=>∃ a c,e=.returned (.slice a h.n1 c)/\RowL w' w'.heap.size a h.n1 c (plansG W H (zaa g) s h.n1)/\Below w.heap.size w w'
noncomputable def p1F (W H:Int)(l:List Nat)(s:St)(k i:Nat):List Int:=if i<k/\(zay W H l s (i:Int)).2=false then restL (cellR s i) else []
noncomputable def p2F (W H:Int)(l:List Nat)(s:St)(n k i:Nat):List Int:=if (zay W H l s (i:Int)).2=true then (if i<k then planG W H l s n i else []) else restL (cellR s i)
theorem p1F_zero (W H:Int)(l:List Nat)(s:St)(i:Nat):p1F W H l s 0 i=[]:=by unfold p1F;rw [if_neg (fun h=>by omega)]
theorem p1F_yes {W H:Int}{l:List Nat}{s:St}{k:Nat}(h:(zay W H l s (k:Int)).2=true)(i:Nat):p1F W H l s (k+1) i=p1F W H l s k i:=by
 unfold p1F
 congr 1
 refine propext ⟨fun ⟨h1,h2⟩=>⟨?_,h2⟩,fun ⟨h1,h2⟩=>⟨by omega,h2⟩⟩
 have:i≠k:=fun e=>by rw [e,h] at h2;cases h2
 omega
theorem p1F_no {W H:Int}{l:List Nat}{s:St}{k:Nat}(h:(zay W H l s (k:Int)).2=false)(i:Nat):p1F W H l s (k+1) i=if i=k then restL (cellR s k) else p1F W H l s k i:=by
 unfold p1F
 by_cases e:i=k
 · subst e;rw [if_pos ⟨by omega,h⟩,if_pos rfl]
 · rw [if_neg e]
   congr 1
   exact propext ⟨fun ⟨h1,h2⟩=>⟨by omega,h2⟩,fun ⟨h1,h2⟩=>⟨by omega,h2⟩⟩
theorem p2F_start {W H:Int}{l:List Nat}{s:St}{n i:Nat}(hi:i<n):p2F W H l s n 0 i=p1F W H l s n i:=by
 unfold p2F p1F
 cases h:(zay W H l s (i:Int)).2 with
 | true=>simp
 | false=>simp [hi]
theorem p2F_no {W H:Int}{l:List Nat}{s:St}{n k:Nat}(h:(zay W H l s (k:Int)).2=false)(i:Nat):p2F W H l s n (k+1) i=p2F W H l s n k i:=by
 unfold p2F
 by_cases e:i=k
 · subst e;rw [h];rfl
 · cases (zay W H l s (i:Int)).2 with
   | true =>
     simp only [if_true]
     by_cases h1:i<k
     · rw [if_pos h1,if_pos (by omega)]
     · rw [if_neg h1,if_neg (by omega)]
   | false=>rfl
theorem p2F_yes {W H:Int}{l:List Nat}{s:St}{n k:Nat}(h:(zay W H l s (k:Int)).2=true)(i:Nat):p2F W H l s n (k+1) i=if i=k then pthG W H l s (othG W H l s n k) k else p2F W H l s n k i:=by
 unfold p2F
 by_cases e:i=k
 · subst e
   rw [if_pos h,if_pos (by omega),if_pos rfl]
   unfold planG
   rw [if_pos h]
 · rw [if_neg e]
   cases (zay W H l s (i:Int)).2 with
   | true =>
     simp only [if_true]
     by_cases h1:i<k
     · rw [if_pos h1,if_pos (by omega)]
     · rw [if_neg h1,if_neg (by omega)]
   | false=>rfl
theorem p2F_end {W H:Int}{l:List Nat}{s:St}{n i:Nat}(hi:i<n):p2F W H l s n n i=planG W H l s n i:=by
 unfold p2F
 cases h:(zay W H l s (i:Int)).2 with
 | true=>simp [hi]
 | false=>simp [planG,h]
theorem FldIn.setPaths {w:World}{fb mf lb n i:Nat}{W H:Int}{g:ByteArray}{bl:List Int}{f:Nat->List Int}{v:Value}(h:FldIn w fb mf W H g bl)(hp:PathsIn w lb n f):FldIn (w.setCell ⟨lb,i,none⟩ v) fb mf W H g bl:=by
 obtain ⟨arr,h1,h2,h3⟩:=hp
 have hs:∀ u,u∈arr->∃ a m c,u=.slice a m c:=fun u hu=>by
  obtain ⟨j,hj,e⟩:=Array.getElem_of_mem hu
  obtain ⟨a',m',c',h4,_⟩:=h3 j (by omega)
  rw [Array.getElem?_eq_getElem hj,e] at h4
  injection h4 with h4
  exact ⟨a',m',c',h4⟩
 have hne:fb≠lb:=fun e=>by
  obtain ⟨es,ck,e2⟩:=h.isMap
  rw [e,h1] at e2
  cases e2
 obtain ⟨q,k1,k2⟩:=h
 refine ⟨q,k1.keep (Below.heap_setCell w ⟨lb,i,none⟩ v fb hne),fun z hz r hr=>?_⟩
 obtain ⟨e1,e2,e3⟩:=k2 z hz r hr
 have hz:(w.setCell ⟨lb,i,none⟩ v).heap.size=w.heap.size:=by simp [World.setCell]
 exact ⟨e1,e2,by rw [hz];exact row_setPaths h1 hs e3⟩
theorem TrafIn.setPaths {w:World}{pb mb nt lb n i:Nat}{oth:List (List Int)}{f:Nat->List Int}{v:Value}(h:TrafIn w pb mb nt oth)(hp:PathsIn w lb n f):TrafIn (w.setCell ⟨lb,i,none⟩ v) pb mb nt oth:=by
 obtain ⟨arr,h1,h2,h3⟩:=hp
 have hne:∀ k,MapAt w k->k≠lb:=fun k ⟨es,ck,e2⟩ e=>by
  rw [e,h1] at e2
  cases e2
 exact h.keep (Below.heap_setCell w ⟨lb,i,none⟩ v pb (hne pb h.1.isMap)) (Below.heap_setCell w ⟨lb,i,none⟩ v mb (hne mb h.2.1.isMap))
set_option maxHeartbeats 4000000 in
theorem planPlans_any:SaysPlans 41:=by
 intro W H g h s B w hok hin hB hrp hn3
 have hle:=hok.le
 have hle2:(zaa g).length<=65536:=by rw [zag];exact hle
 have hlr:s.rs.length=h.n1:=hin.rs.1
 have hn1:h.n1<=1024:=by rw [<- hlr];exact hrp.rn
 have hwb:=right_bl hrp hle2
 have hwc:∀ i,i<h.n1->wfI (cellR s i):=fun i hi=>right_cell hrp hle2 (by omega)
 have hgw:∀ i:Nat,i<h.n1->(zay W H (zaa g) s (i:Int)).2=true->wfI (zay W H (zaa g) s (i:Int)).1:=fun i hi hg=>by
  have:=goal_bounds (W:=W) (H:=H) hrp (i:=i) (by omega) hg
  exact WalkArith.wf_i64 (by omega)
 obtain ⟨w2,hw2,hB2,hz2,hg2,hs2⟩:=zbv w W H g h
 obtain ⟨w3,hmk,hpi,hb3,hz3⟩:=make_paths w2 h.n1 (by omega)
 rw [hz2] at hmk hpi hz3
 have hg3:=hg2.below hb3 (by omega)
 have hs3:=hs2.below hb3 (by omega)
 have hB3:Below w.heap.size w w3:=hB2.trans (hb3.mono (by omega))
 have HGO:=qz (goalsOf_any W H g h s B w3 hok (hin.below (hB3.mono hB)) (Nat.le_trans hB hB3.size) hwb (by omega) (by omega) hgw)
 have HIN:=qz hin
 have HOK:=qz hok
 have HWB:=qz hwb
 have HWC:=qz hwc
 have HGW:=qz hgw
 have HB3:=qz hB3
 have HG3:=qz hg3
 have HS3:=qz hs3
 have HPI:=qz hpi
 have HLE:=qz hle2
 have hin1:h.n1<=h.c1:=hin.rs.2.1
 have hm1:=hin.rs.2.2.1
 unfold maxLen at hm1
 obtain ⟨s0,s1,s2,s3⟩:=hs2
 obtain ⟨t0,t1,t2,t3⟩:=hs3
 obtain ⟨g0,g1,g2⟩:=hg3
 obtain ⟨t,a1,n1,c1,a2,n2,c2,a3,n3,c3⟩:=h
 simp only [] at s1 t0 t1 t2 t3 hmk hn1 hn3 hin1 hm1 hlr hz3
 rw [hw2] at s1 hmk
 clear hw2 hB2 hpi hb3 hgw hin hok hwb hwc hB3 hg2 s0 s2 s3 hrp
 go_enter Tryz.func41,Tryz.ntmps41
 go_wp2_with fail
 refine HGO.out.mono ?_
 rintro e w4 ⟨gb,rfl,hgb,hmg,hb4⟩
 have hz4:=hb4.size
 have hgl:=hmg.lt
 obtain ⟨x0,x1,x2⟩:=HG3.out.below hb4 (by omega)
 have hst4:=HS3.out.below hb4 (by omega)
 obtain ⟨y0,y1,y2,y3⟩:=hst4
 simp only [] at y0 y1 y2 y3
 have hbw4:=HB3.out.trans (hb4.mono (by omega))
 have HNP:=qz (newPlanner_any W H g a3 n3 c3 B s.bl w4 ((HIN.out.bl).below (hbw4.mono hB)) (Nat.le_trans hB hbw4.size) HWB.out (by omega))
 have HMG:=qz hmg
 have HBW4:=qz hbw4
 have HB4:=qz hb4
 clear hmg hbw4 hb4 hmk g0 g1 g2 t0 t1 t2 t3 s1 HGO
 go_wp2_with fail
 refine HNP.out.mono ?_
 rintro e w5 ⟨cb,pb,mb,fb,rfl,⟨o1,o2,o3,o4⟩,hs5,ht5,hf5,hb5⟩
 obtain ⟨w6,hw6⟩:∃ w6,w6=w5.alloc (plO W H g a3 n3 c3 cb pb mb fb):=⟨_,rfl⟩
 have hb6:Below w5.heap.size w5 w6:=by rw [hw6];exact (zX _ _).alloc (zL _) _
 have hz6:w6.heap.size=w5.heap.size+1:=by rw [hw6];simp
 have hp6:w6.heap[w5.heap.size]?=some (plO W H g a3 n3 c3 cb pb mb fb):=by rw [hw6];show (w5.heap.push _)[w5.heap.size]?=_;rw [Array.getElem?_push,if_pos rfl]
 have hz5:=hb5.size
 have hcl:cb<w5.heap.size:=hs5.lt
 have hpl:pb<w5.heap.size:=ht5.1.lt
 have hml:mb<w5.heap.size:=ht5.2.1.lt
 have hfl:fb<w5.heap.size:=hf5.lt
 have hb46:Below w4.heap.size w4 w6:=hb5.trans (hb6.mono hz5)
 have HS6:=qz (hs5.keepB hb6)
 have HT6:=qz (ht5.calls hb6)
 have HF6:Hid (FldIn w6 fb 0 W H g s.bl):=(fldIn_new hf5).calls hb6
 have HP6:=qz hp6
 have HM6:=qz (HMG.out.keep (hb46.block gb (by omega)))
 have HPI6:Hid (PathsIn w6 (w.heap.size+2) n1 (fun _=>[])):=(HPI.out.calls HB4.out).calls hb46
 have HST6:=qz ((HS3.out.below HB4.out (by omega)).below hb46 (by omega))
 have HGR6:=qz ((HG3.out.below HB4.out (by omega)).below hb46 (by omega))
 have HBW6:=qz (HBW4.out.trans (hb46.mono (by omega)))
 have HW6:=qz hw6
 obtain ⟨z0,z1,z2,z3⟩:=HST6.out
 simp only [] at z1
 rw [hw6] at z1
 clear hs5 ht5 hf5 hb5 hb6 hp6 hw6 hb46 x0 x1 x2 y0 y1 y2 y3 z0 z2 z3
 go_wp2_with fail
 rw [<- HW6.out]
 go_loopw [31] (fun v wr=>∃ k:Nat,k<=n1/\v=.int .i64 k/\Hid (PathsIn wr (w.heap.size+2) n1 (p1F W H (zaa g) s k))/\Hid (TrafIn wr pb mb (7*k) (oth1 W H (zaa g) s k))/\Hid (FldIn wr fb 0 W H g s.bl)/\Hid (Alt (fun j=>j=pb\/j=mb\/j=w.heap.size+2) w6 wr)) (fun v _=>n1-(intOf v).toNat)
 case atStart=>exact ⟨0,Nat.zero_le _,rfl,HPI6.out.to (fun i _=>p1F_zero W H (zaa g) s i),HT6.out,HF6.out,Alt.refl _ _⟩
 case round =>
  obtain ⟨k,hk,rfl,HPI,HT,HF,HA⟩:=hrel
  have hAr:=HA.out
  have hsr:=hAr.size
  have hbw:Below w.heap.size w wr:=HBW6.out.trans (hAr.below (fun j hj=>by rcases hj with e|e|e <;> omega) (by omega))
  by_cases hlt:k<n1
  · obtain ⟨b,off,rfl,hb,hcs⟩:=(HIN.out.rs.below (hbw.mono hB)).2.2.2 (by show 0<n1;omega)
    have hrec:=hcs k hlt
    have HCE:Hid (cellR s k=(s.rs.getD k zr).a):=rfl
    have hwce:=HWC.out k hlt
    have hmk:=HM6.out.keep (hAr.block gb (by omega) (by omega))
    have HNO:=qz (p1F_no (W:=W) (H:=H) (l:=zaa g) (s:=s) (k:=k))
    have HYE:=qz (p1F_yes (W:=W) (H:=H) (l:=zaa g) (s:=s) (k:=k))
    have HON:=qz (oth1_no (W:=W) (H:=H) (l:=zaa g) (s:=s) (k:=k))
    have HOY:=qz (oth1_yes (W:=W) (H:=H) (l:=zaa g) (s:=s) (k:=k))
    have hgo:=goF_at (W:=W) (H:=H) (l:=zaa g) (s:=s) (n:=n1) hlt
    obtain ⟨⟨x,bb⟩,hgl⟩:∃ G,zay W H (zaa g) s (k:Int)=G:=⟨_,rfl⟩
    rw [hgl] at hgo HNO HYE HON HOY
    simp only [] at hgo HNO HYE HON HOY
    generalize s.rs.getD k zr=r at hrec HCE
    obtain ⟨ra,rb,rc,rd,re⟩:=r
    obtain ⟨r0,r1,r2,r3,r4⟩:=hrec
    simp only [] at r0 r1 r2 r3 r4 HCE
    have hb1:Below wr.heap.size wr (wr.alloc (.cells #[.int .i64 ra,.int .i64 rb,.int .i64 rc,.int .i64 rd,.int .i64 re] 46)):=(zX _ _).alloc (zL _) _
    have hlook:=(hmk.keep (hb1.block gb (by have:=hmk.lt;exact this))).look (z:=(k:Int)) (WalkArith.wf_i64 (by omega))
    clear hcs hgl hmk
    cases bb with
    | true =>
      rw [hgo,if_pos rfl] at hlook
      simp only [Option.getD_some,Option.isSome_some] at hlook
      have HPI2:=qz ((HPI.out.calls hb1).to (fun i _=>HYE.out (by first|rfl|trivial) i))
      have HT2:=qz (HT.out.calls hb1)
      have HF2:=qz (HF.out.calls hb1)
      have HA2:=qz (hAr.calls (hb1.mono hsr))
      rw [<- HOY.out (by first|rfl|trivial)] at HT2
      clear HNO HYE HON HOY hgo hb1 hbw hwce
      go_wp2_with fail
      go_roundw
      case rel=>exact ⟨k+1,by omega,by go_num,HPI2.out,⟨HT2.out.1.less (by omega),HT2.out.2.1.less (by omega),HT2.out.2.2⟩,HF2.out,HA2.out⟩
      case measure=>simp [intOf];omega
    | false =>
      rw [hgo,if_neg (by simp)] at hlook
      simp only [Option.getD_none,Option.isSome_none] at hlook
      obtain ⟨V1,hV1⟩:∃ V1,V1=wr.alloc (.cells #[.int .i64 ra,.int .i64 rb,.int .i64 rc,.int .i64 rd,.int .i64 re] 46):=⟨_,rfl⟩
      rw [<- hV1] at hb1
      have HST:=qz (staying_any ra V1)
      have k0:V1.cell? ⟨wr.heap.size,0,none⟩=some (.int .i64 ra):=by rw [hV1];exact zbl _ _ _ rfl rfl
      have hz1:V1.heap.size=wr.heap.size+1:=by rw [hV1];simp
      have HV1:=qz hV1
      have HB1:=qz hb1
      have HZ1:=qz hz1
      rw [hV1] at k0
      clear hV1 hgo hz1 hb1
      go_wp2_with fail
      rw [<- HV1.out]
      refine HST.out.mono ?_
      rintro e V2 ⟨rfl,hrow,hb2⟩
      have hz1:=HZ1.out
      have hb12:Below wr.heap.size wr V2:=HB1.out.trans (hb2.mono (by omega))
      have hp2:=HPI.out.calls hb12
      obtain ⟨ao,mo,co,hco,_⟩:=hp2.at hlt
      have hfo:=hp2.fz k
      have hp3:=(hp2.set hlt hrow).to (g:=p1F W H (zaa g) s (k+1)) (fun i _=>by rw [HNO.out (by first|rfl|trivial) i,HCE.out];rfl)
      have ht3:=(HT.out.calls hb12).setPaths (i:=k) (v:=.slice (some ⟨V1.heap.size,0,none⟩) 7 7) hp2
      have hf3:=(HF.out.calls hb12).setPaths (i:=k) (v:=.slice (some ⟨V1.heap.size,0,none⟩) 7 7) hp2
      have ha3:=alt_setPaths (i:=k) (v:=.slice (some ⟨V1.heap.size,0,none⟩) 7 7) (hAr.calls (hb12.mono hsr)) (lb:=w.heap.size+2) (fun _=>.inr (.inr rfl))
      have hz2:=hb2.size
      obtain ⟨V3,hV3⟩:∃ V3,V3=V2.setCell ⟨w.heap.size+2,k,none⟩ (.slice (some ⟨V1.heap.size,0,none⟩) 7 7):=⟨_,rfl⟩
      rw [<- hV3] at hp3 ht3 hf3 ha3
      have hpl3:=(ha3.block w5.heap.size (by omega) (by omega)).trans HP6.out
      have p5:V3.cell? ⟨w5.heap.size,5,none⟩=some (.map (some pb)):=zae hpl3 rfl
      have p6:V3.cell? ⟨w5.heap.size,6,none⟩=some (.map (some mb)):=zae hpl3 rfl
      have hn3c:V3.cell? ⟨w.heap.size+2,k,none⟩=some (.slice (some ⟨V1.heap.size,0,none⟩) 7 7):=by
       obtain ⟨arr,e1,e2,_⟩:=hp2
       rw [hV3]
       exact World.cell?_setCell_same _ _ _ hco
      have hrow3:RowZ .i64 V3 V3.heap.size (some ⟨V1.heap.size,0,none⟩) 7 7 (restL ra):=by
       obtain ⟨a',m',c',e1,e2⟩:=hp3.at hlt
       rw [hn3c] at e1
       injection e1 with e1
       injection e1 with e1 e3 e4
       subst e1 e3 e4
       rw [HNO.out (by first|rfl|trivial) k,if_pos rfl,HCE.out] at e2
       exact e2
      have HADD:=qz (add_any V3.drew pb mb (7*k) V3.heap.size 7 7 (some ⟨V1.heap.size,0,none⟩) _ (restL ra) (ht3.calls (Below.drew (zX _ _))) (hrow3.below (Below.drew (zX _ _))) (restL_wf (by rw [HCE.out] at hwce;exact hwce)) (zL _) (by omega) (by omega))
      have HP3:=qz hp3
      have HT3:=qz ht3
      have HF3:=qz hf3
      have HA3:=qz ha3
      have HV3:=qz hV3
      rw [hV3] at p5 p6 hn3c
      have hkn:(k:Int)<(n1:Int):=by omega
      clear hz1 hV3 hp2 hp3 ht3 hf3 ha3 hb12 hb2 hrow hrow3 hpl3 hwce HNO HYE
      go_wp2_with fail
      rw [<- HV3.out]
      rw [<- HV3.out] at p5 p6 hn3c
      go_still_tail 6,(by kernel_rfl)
      change wpList _ _ _ _ _ V3.drew
      go_wp2_with fail
      refine HADD.out.mono ?_
      rintro e V4 ⟨rfl,ht4,ha4⟩
      have HS4:Hid (∀ j,(j=pb\/j=mb)->MapAt V3 j):=fun j hj=>by
       rcases hj with rfl|rfl
       · exact HT3.out.1.isMap
       · exact HT3.out.2.1.isMap
      have ha34:Alt (fun j=>j=pb\/j=mb) V3 V4:=(Alt.refl _ V3).drew.trans ha4 (fun j hj _=>hj)
      have HP4:=qz (HP3.out.alt ha34 HS4.out)
      have HF4:=qz (HF3.out.alt ha34 HS4.out (by omega))
      have HA4:=qz (HA3.out.trans ha34 (fun j hj _=>by rcases hj with e|e;exact .inl e;exact .inr (.inl e)))
      have HT4:Hid (TrafIn V4 pb mb (7*(k+1)) (oth1 W H (zaa g) s (k+1))):=by
       unfold Hid
       rw [HON.out (by first|rfl|trivial),HCE.out]
       exact ht4
      clear ht4 ha4 ha34
      go_wp2_with fail
      go_roundw
      case rel=>exact ⟨k+1,by omega,by go_num,HP4.out,HT4.out,HF4.out,HA4.out⟩
      case measure=>simp [intOf];omega
  · obtain rfl:k=n1:=by omega
    have hm6:=HM6.out.keep (hAr.block gb (by omega) (by omega))
    have HCO:=qz (countsOf_any gb k _ wr hm6 (by omega))
    obtain ⟨k1,hk1⟩:∃ k1,k1=k:=⟨_,rfl⟩
    have HBWr:=qz hbw
    obtain ⟨z0,z1,z2,z3⟩:=HST6.out
    clear hm6 hbw z0 z1 z2 z3
    subst hk1
    go_wp2_with fail
    refine HCO.out.mono ?_
    rintro e w7 ⟨cm,mc0,fc0,rfl,hcm,hmc0,hc0,hb7⟩
    have hz7:=hb7.size
    have hcml:=hc0.lt
    have hA7:=hAr.calls (hb7.mono hsr)
    have HB7:=qz hb7
    have HP7:=qz ((hA7.block w5.heap.size (by omega) (by omega)).trans HP6.out)
    have HM7:=qz (HM6.out.keep (hA7.block gb (by omega) (by omega)))
    have HS7:=qz (HS6.out.keep (hA7.block cb (by omega) (by omega)))
    have HPI7:=qz ((HPI.out.calls hb7).to (g:=p2F W H (zaa g) s k1 0) (fun i hi=>p2F_start hi))
    have HT7:Hid (TrafIn w7 pb mb (7*(k1+0)) (othG W H (zaa g) s k1 0)):=HT.out.calls hb7
    have HF7:=qz (HF.out.calls hb7)
    have HC7:Hid (∃ m f',m<=100000+0/\MapIn w7 cm m f'):=⟨mc0,fc0,by omega,hc0⟩
    have HBW7:=qz (HBWr.out.trans (hb7.mono HBWr.out.size))
    have hz1':w7.cell? ⟨w.heap.size+1,1,none⟩=some (.slice a1 k1 c1):=(hA7.cell (p:=⟨w.heap.size+1,1,none⟩) (show w.heap.size+1<w6.heap.size by omega) (by show ¬ (w.heap.size+1=pb\/w.heap.size+1=mb\/w.heap.size+1=w.heap.size+2);omega)).trans HST6.out.2.1
    clear hb7 hA7 hc0 hAr HPI HT HF HA HM6 HT6 HF6 HS6 HPI6 HGR6 HP6 HMG HCO
    go_wp2_with fail
    clear hz1'
    go_loopw [63] (fun v wr=>∃ k:Nat,k<=k1/\v=.int .i64 k/\Hid (PathsIn wr (w.heap.size+2) k1 (p2F W H (zaa g) s k1 k))/\Hid (TrafIn wr pb mb (7*(k1+k)) (othG W H (zaa g) s k1 k))/\Hid (FldIn wr fb k W H g s.bl)/\Hid (∃ m f',m<=100000+k/\MapIn wr cm m f')/\Hid (Alt (fun j=>j=pb\/j=mb\/j=w.heap.size+2\/j=fb\/j=cm) w7 wr)) (fun v _=>k1-(intOf v).toNat)
    case atStart=>exact ⟨0,Nat.zero_le _,rfl,HPI7.out,HT7.out,HF7.out,HC7.out,Alt.refl _ _⟩
    case round =>
     obtain ⟨k,hk,rfl,HPI,HT,HF,HC,HA⟩:=hrel
     have hAr:=HA.out
     have hsr7:=hAr.size
     have hbw:Below w.heap.size w wr:=HBW7.out.trans (hAr.below (fun j hj=>by rcases hj with e|e|e|e|e <;> omega) (by omega))
     by_cases hlt:k<k1
     · obtain ⟨b,off,rfl,hb,hcs⟩:=(HIN.out.rs.below (hbw.mono hB)).2.2.2 (by show 0<k1;omega)
       have hrec:=hcs k hlt
       have HCE:Hid (cellR s k=(s.rs.getD k zr).a):=rfl
       have hwce:=HWC.out k hlt
       have hwgo:=HGW.out k hlt
       have hmk:=HM7.out.keep (hAr.block gb (by omega) (by omega))
       have HNO:=qz (p2F_no (W:=W) (H:=H) (l:=zaa g) (s:=s) (n:=k1) (k:=k))
       have HYE:=qz (p2F_yes (W:=W) (H:=H) (l:=zaa g) (s:=s) (n:=k1) (k:=k))
       have hoth:othG W H (zaa g) s k1 (k+1)=if (zay W H (zaa g) s (k:Int)).2=true then othG W H (zaa g) s k1 k++[pthG W H (zaa g) s (othG W H (zaa g) s k1 k) k] else othG W H (zaa g) s k1 k:=rfl
       have hpth:pthG W H (zaa g) s (othG W H (zaa g) s k1 k) k=(pathG W H (zaa g) s.bl (othG W H (zaa g) s k1 k) (cellR s k) (zay W H (zaa g) s (k:Int)).1).getD (restL (cellR s k)):=rfl
       have HPW:=qz (pthG_wf (W:=W) (H:=H) (l:=zaa g) (s:=s) (oth:=othG W H (zaa g) s k1 k) (i:=k) HLE.out hwce)
       have HPL:=qz (pthG_len (W:=W) (H:=H) (l:=zaa g) (s:=s) (oth:=othG W H (zaa g) s k1 k) (i:=k))
       have hgo:=goF_at (W:=W) (H:=H) (l:=zaa g) (s:=s) (n:=k1) hlt
       obtain ⟨⟨x,bb⟩,hgl⟩:∃ G,zay W H (zaa g) s (k:Int)=G:=⟨_,rfl⟩
       rw [hgl] at hgo HNO HYE hoth hpth hwgo
       simp only [] at hgo hwgo hoth hpth
       generalize s.rs.getD k zr=r at hrec HCE
       obtain ⟨ra,rb,rc,rd,re⟩:=r
       obtain ⟨r0,r1,r2,r3,r4⟩:=hrec
       simp only [] at r0 r1 r2 r3 r4 HCE
       have hb1:Below wr.heap.size wr (wr.alloc (.cells #[.int .i64 ra,.int .i64 rb,.int .i64 rc,.int .i64 rd,.int .i64 re] 46)):=(zX _ _).alloc (zL _) _
       have hlook:=(hmk.keep (hb1.block gb (by have:=hmk.lt;exact this))).look (z:=(k:Int)) (WalkArith.wf_i64 (by omega))
       clear hcs hgl hmk
       cases bb with
       | false =>
         rw [hgo,if_neg (by simp)] at hlook
         rw [if_neg (by simp)] at hoth
         simp only [Option.getD_none,Option.isSome_none] at hlook
         have HPI2:=qz ((HPI.out.calls hb1).to (fun i _=>HNO.out rfl i))
         have HT2:=HT.out.calls hb1
         rw [<- hoth] at HT2
         have HT2:=qz HT2
         have HF2:=qz ((HF.out.calls hb1).less (Nat.le_succ k))
         have HA2:=qz (hAr.calls (hb1.mono hsr7))
         have HC2:Hid (∃ m f',m<=100000+(k+1)/\MapIn (wr.alloc (.cells #[.int .i64 ra,.int .i64 rb,.int .i64 rc,.int .i64 rd,.int .i64 re] 46)) cm m f'):=by
          obtain ⟨m,f',hm,hc⟩:=HC.out
          exact ⟨m,f',by omega,hc.keep (hb1.block cm hc.lt)⟩
         clear HNO HYE hoth hpth hgo hb1 hbw hwce hwgo
         go_wp2_with fail
         go_roundw
         case rel=>exact ⟨k+1,by omega,by go_num,HPI2.out,⟨HT2.out.1.less (by omega),HT2.out.2.1.less (by omega),HT2.out.2.2⟩,HF2.out,HC2.out,HA2.out⟩
         case measure=>simp [intOf];omega
       | true =>
         rw [hgo,if_pos rfl] at hlook
         rw [if_pos rfl] at hoth
         have hwx:=hwgo rfl
         simp only [Option.getD_some,Option.isSome_some] at hlook
         have HP2Y:=qz (HYE.out rfl)
         obtain ⟨pth,hpe⟩:∃ pth,pthG W H (zaa g) s (othG W H (zaa g) s k1 k) k=pth:=⟨_,rfl⟩
         rw [hpe] at hoth hpth HPW HPL HP2Y
         rw [HCE.out] at hpth
         have HOTH:=qz hoth
         have HWX:=qz hwx
         obtain ⟨mc,fc,hmc,hcn⟩:=HC.out
         have HCN:=qz hcn
         have hcnl:=hcn.lt
         obtain ⟨V1,hV1⟩:∃ V1,V1=wr.alloc (.cells #[.int .i64 ra,.int .i64 rb,.int .i64 rc,.int .i64 rd,.int .i64 re] 46):=⟨_,rfl⟩
         rw [<- hV1] at hb1
         have k0:V1.cell? ⟨wr.heap.size,0,none⟩=some (.int .i64 ra):=by rw [hV1];exact zbl _ _ _ rfl rfl
         have hz1:V1.heap.size=wr.heap.size+1:=by rw [hV1];simp
         have hA1:=hAr.calls (hb1.mono hsr7)
         have hpl1:=(hA1.block w5.heap.size (by omega) (by omega)).trans HP7.out
         have t0:V1.cell? ⟨w5.heap.size,0,none⟩=some (.int .i64 W):=zae hpl1 rfl
         have t1:V1.cell? ⟨w5.heap.size,1,none⟩=some (.int .i64 H):=zae hpl1 rfl
         have t2:V1.cell? ⟨w5.heap.size,2,none⟩=some (.string g):=zae hpl1 rfl
         have t3:V1.cell? ⟨w5.heap.size,3,none⟩=some (.slice a3 n3 c3):=zae hpl1 rfl
         have t4:V1.cell? ⟨w5.heap.size,4,none⟩=some (.map (some cb)):=zae hpl1 rfl
         have t5:V1.cell? ⟨w5.heap.size,5,none⟩=some (.map (some pb)):=zae hpl1 rfl
         have t6:V1.cell? ⟨w5.heap.size,6,none⟩=some (.map (some mb)):=zae hpl1 rfl
         have t7:V1.cell? ⟨w5.heap.size,7,none⟩=some (.map (some fb)):=zae hpl1 rfl
         have hS1:=HS7.out.keep (hA1.block cb (by omega) (by omega))
         have HPP:=qz (plPath_any W H ra x g a3 n3 c3 cb pb mb fb n3 (7*(k1+k)) k B s.bl (othG W H (zaa g) s k1 k) V1 HOK.out ((HIN.out.bl).below ((hbw.trans (hb1.mono hbw.size)).mono hB)) (by have:=hbw.size;omega) HWB.out (by omega) hS1 (HT.out.calls hb1) (HF.out.calls hb1) (by omega) ⟨by omega,by omega,by omega⟩ (by rw [HCE.out] at hwce;exact hwce) hwx)
         have HV1:=qz hV1
         have HB1:=qz hb1
         have HZ1:=qz hz1
         have HA1:=qz hA1
         have HPI1:=qz (HPI.out.calls hb1)
         have HT1:=qz (HT.out.calls hb1)
         have HHP:=qz hpth
         have HFM:=qz ((HF.out.calls hb1).isMap)
         have HK0:=qz k0
         have HCNW:Hid (∀ V,V.heap[cm]?=wr.heap[cm]?->MapIn V cm mc fc):=fun V hV=>hcn.keep hV
         rw [hV1] at k0 t0 t1 t2 t3 t4 t5 t6 t7
         clear hV1 hgo hz1 hb1 hA1 hpl1 hS1 hoth hpth hwx hwgo hcn hpe hwce HYE HNO hbw hAr
         go_wp2_with fail
         rw [<- HV1.out]
         refine HPP.out.mono ?_
         rintro e V2 ⟨ap,np,cp,lp,bp,rfl,hout,hrow,hf2,ha2⟩
         have hz1:=HZ1.out
         have hz2:=ha2.size
         have hsfb:∀ j,(fun j=>j=fb) j->MapAt V1 j:=fun j hj=>by
          have hj:j=fb:=hj
          subst hj
          exact HFM.out
         have hp2:=HPI1.out.alt ha2 hsfb
         obtain ⟨ao,mo,co,hco,_⟩:=hp2.at hlt
         have hfo:=hp2.fz k
         have hA2:=HA1.out.trans ha2 (fun j hj _=>.inr (.inr (.inr (.inl hj))))
         have ht2:=HT1.out.alt ha2 (by omega) (by omega)
         have hc2:=HCNW.out V2 ((ha2.block cm (by omega) (by omega)).trans (HB1.out.block cm hcnl))
         obtain ⟨V3,hV3⟩:∃ V3,V3=V2.setCell ⟨w.heap.size+2,k,none⟩ (.slice ap np cp):=⟨_,rfl⟩
         have hpV3:=hp2.set hlt hrow
         have htV3:=ht2.setPaths (i:=k) (v:=.slice ap np cp) hp2
         have hfV3:=hf2.setPaths (i:=k) (v:=.slice ap np cp) hp2
         have haV3:=alt_setPaths (i:=k) (v:=.slice ap np cp) hA2 (lb:=w.heap.size+2) (fun _=>.inr (.inr (.inl rfl)))
         have hcV3:=hc2.keep (Below.heap_setCell V2 ⟨w.heap.size+2,k,none⟩ (.slice ap np cp) cm (show cm≠w.heap.size+2 by omega))
         have hnc:V3.cell? ⟨w.heap.size+2,k,none⟩=some (.slice ap np cp):=by rw [hV3];exact World.cell?_setCell_same _ _ _ hco
         have hz3:V3.heap.size=V2.heap.size:=by rw [hV3];simp [World.setCell]
         rw [<- hV3] at hpV3 htV3 hfV3 haV3 hcV3
         cases bp with
         | true =>
           have hle:pth=lp:=by
            rw [HHP.out]
            rcases hout with ⟨_,_,e⟩|⟨e,_⟩
            · cases e
            · rw [e];rfl
           subst hle
           have hrowV3:RowZ .i64 V3 V3.heap.size ap np cp pth:=by
            obtain ⟨a',m',c',e1,e2⟩:=hpV3.at hlt
            rw [hnc] at e1
            injection e1 with e1
            injection e1 with e1 e3 e4
            subst e1 e3 e4
            simp only [if_true] at e2
            exact e2
           have HADD:=qz (add_any V3.drew pb mb (7*(k1+k)) V3.heap.size np cp ap (othG W H (zaa g) s k1 k) pth (htV3.calls (Below.drew (zX _ _))) (hrowV3.below (Below.drew (zX _ _))) HPW.out (zL _) (by omega) (by have h1:=hrowV3.1;have h2:=HPL.out;omega))
           have HPV3:=qz hpV3
           have HTV3:=qz htV3
           have HFV3:=qz hfV3
           have HAV3:=qz haV3
           have HCV3:=qz hcV3
           have hplV3:=(haV3.block w5.heap.size (by omega) (by omega)).trans HP7.out
           have p5:V3.cell? ⟨w5.heap.size,5,none⟩=some (.map (some pb)):=zae hplV3 rfl
           have p6:V3.cell? ⟨w5.heap.size,6,none⟩=some (.map (some mb)):=zae hplV3 rfl
           have hkn:(k:Int)<(k1:Int):=by omega
           have HVV3:=qz hV3
           clear hz1 hz2 hz3 hsfb hp2 hA2 ht2 hc2 hpV3 htV3 hfV3 haV3 hcV3 hV3 hrow hrowV3 hf2 ha2 hout hplV3
           go_wp2_with fail
           rw [<- HVV3.out]
           go_still_tail 6,(by kernel_rfl)
           change wpList _ _ _ _ _ V3.drew
           go_wp2_with fail
           refine HADD.out.mono ?_
           rintro e V6 ⟨rfl,ht6,ha6⟩
           have HS6':Hid (∀ j,(j=pb\/j=mb)->MapAt V3 j):=fun j hj=>by
            rcases hj with rfl|rfl
            · exact HTV3.out.1.isMap
            · exact HTV3.out.2.1.isMap
           have ha36:Alt (fun j=>j=pb\/j=mb) V3 V6:=(Alt.refl _ V3).drew.trans ha6 (fun j hj _=>hj)
           have hp6:=HPV3.out.alt ha36 HS6'.out
           have hf6:=HFV3.out.alt ha36 HS6'.out (by omega)
           have hA6:=HAV3.out.trans ha36 (fun j hj _=>by rcases hj with e|e;exact .inl e;exact .inr (.inl e))
           have hc6:=HCV3.out.keep (ha36.block cm HCV3.out.lt (by omega))
           have hlook1:=hc6.look1 (z:=x) HWX.out
           obtain ⟨y,hy⟩:∃ y,(fc x).getD 0=y:=⟨_,rfl⟩
           rw [hy] at hlook1
           obtain ⟨y',hy'⟩:∃ y',IntKind.i64.wrap (y-1)=y':=⟨_,rfl⟩
           have hwy:(Lit.int .i64 y').wf=true:=by rw [<- hy'];exact wf_wrap _ _
           obtain ⟨V7,hrun7,hc7,hg7⟩:=hc6.put (z:=x) (x:=y') (by omega) HWX.out hwy
           have hlook7:=hc7.look1 (z:=x) HWX.out
           rw [if_pos rfl,Option.getD_some] at hlook7
           have ha67:Alt (fun j=>j=cm) V6 V7:=(Alt.refl _ V6).grown hg7 (fun _=>rfl)
           have hsm:∀ j,(fun j=>j=cm) j->MapAt V6 j:=fun j hj=>by
            have hj:j=cm:=hj
            subst hj
            exact hc6.isMap
           have HP8:=qz ((hp6.alt ha67 hsm).to (g:=p2F W H (zaa g) s k1 (k+1)) (fun i _=>by rw [HP2Y.out]))
           have HT8:Hid (TrafIn V7 pb mb (7*(k1+(k+1))) (othG W H (zaa g) s k1 (k+1))):=by
            unfold Hid
            rw [HOTH.out]
            exact ht6.alt ha67 (by omega) (by omega)
           have hf7:=hf6.alt ha67 hsm (by omega)
           have HF8:=qz hf7
           have HA8:=qz (hA6.trans ha67 (fun j hj _=>.inr (.inr (.inr (.inr hj)))))
           have HC8:Hid (∃ m f',m<=100000+(k+1)/\MapIn V7 cm m f'):=⟨_,_,by omega,hc7⟩
           have HMC:=qz hf7.isMap
           have hpl7:=(HA8.out.block w5.heap.size (by omega) (by omega)).trans HP7.out
           have v0:V7.cell? ⟨w5.heap.size,0,none⟩=some (.int .i64 W):=zae hpl7 rfl
           have v1:V7.cell? ⟨w5.heap.size,1,none⟩=some (.int .i64 H):=zae hpl7 rfl
           have v2:V7.cell? ⟨w5.heap.size,2,none⟩=some (.string g):=zae hpl7 rfl
           have v3:V7.cell? ⟨w5.heap.size,3,none⟩=some (.slice a3 n3 c3):=zae hpl7 rfl
           have v4:V7.cell? ⟨w5.heap.size,4,none⟩=some (.map (some cb)):=zae hpl7 rfl
           have v5:V7.cell? ⟨w5.heap.size,5,none⟩=some (.map (some pb)):=zae hpl7 rfl
           have v6:V7.cell? ⟨w5.heap.size,6,none⟩=some (.map (some mb)):=zae hpl7 rfl
           have v7:V7.cell? ⟨w5.heap.size,7,none⟩=some (.map (some fb)):=zae hpl7 rfl
           have HFG:=qz (forget_any W H x g a3 n3 c3 cb pb mb fb (k+1) s.bl V7 hf7 HWX.out)
           clear ht6 ha6 ha36 hp6 hf6 hA6 hc6 hy hwy hc7 hg7 ha67 hsm hf7 hpl7 p5 p6 hnc
           by_cases hy0:y'=0
           · have e0:(y'==0)=true:=by simpa using hy0
             clear hy0
             go_wp2_with fail
             refine HFG.out.mono ?_
             rintro e V9 ⟨rfl,hf9,ha9⟩
             have hsf:∀ j,(fun j=>j=fb) j->MapAt V7 j:=fun j hj=>by
              have hj:j=fb:=hj
              subst hj
              exact HMC.out
             have HP9:=qz (HP8.out.alt ha9 hsf)
             have HT9:=qz (HT8.out.alt ha9 (by omega) (by omega))
             have HF9:=qz hf9
             have HA9:=qz (HA8.out.trans ha9 (fun j hj _=>.inr (.inr (.inr (.inl hj)))))
             have HC9:Hid (∃ m f',m<=100000+(k+1)/\MapIn V9 cm m f'):=by
              obtain ⟨m,f',hm,hc⟩:=HC8.out
              exact ⟨m,f',hm,hc.keep (ha9.block cm hc.lt (by omega))⟩
             clear hf9 ha9 hsf
             go_wp2_with fail
             go_roundw
             case rel=>exact ⟨k+1,by omega,by go_num,HP9.out,HT9.out,HF9.out,HC9.out,HA9.out⟩
             case measure=>simp [intOf];omega
           · have e0:(y'==0)=false:=by simpa using hy0
             clear hy0
             go_wp2_with fail
             go_roundw
             case rel=>exact ⟨k+1,by omega,by go_num,HP8.out,HT8.out,HF8.out,HC8.out,HA8.out⟩
             case measure=>simp [intOf];omega
         | false =>
           have hle:lp=[]/\pth=restL ra:=by
            rw [HHP.out]
            rcases hout with ⟨e,e2,_⟩|⟨_,e⟩
            · rw [e];exact ⟨e2,rfl⟩
            · cases e
           obtain ⟨rfl,rfl⟩:=hle
           have hb1c:V3.cell? ⟨wr.heap.size,0,none⟩=some (.int .i64 ra):=by
            rw [hV3,World.cell?_of_block (Below.heap_setCell V2 ⟨w.heap.size+2,k,none⟩ (.slice ap np cp) wr.heap.size (show wr.heap.size≠w.heap.size+2 by omega)),ha2.cell (p:=⟨wr.heap.size,0,none⟩) (show wr.heap.size<V1.heap.size by omega) (by show ¬ wr.heap.size=fb;omega)]
            exact HK0.out
           have HST:=qz (staying_any ra V3)
           have HPV3:=qz hpV3
           have HTV3:=qz htV3
           have HFV3:=qz hfV3
           have HAV3:=qz haV3
           have HCV3:=qz hcV3
           have HVV3:=qz hV3
           have HZ3:=qz hz3
           have HZ2:=qz hz2
           have hkn:(k:Int)<(k1:Int):=by omega
           rw [hV3] at hb1c
           clear hz1 hz2 hz3 hsfb hp2 hA2 ht2 hc2 hpV3 htV3 hfV3 haV3 hcV3 hnc hV3 hrow hf2 ha2 hout
           go_wp2_with fail
           rw [<- HVV3.out]
           refine HST.out.mono ?_
           rintro e V4 ⟨rfl,hrow4,hb4⟩
           have hz1:=HZ1.out
           have hz2:=HZ2.out
           have hz3:=HZ3.out
           have hz4:=hb4.size
           have hp4:=HPV3.out.calls hb4
           obtain ⟨ao2,mo2,co2,hco2,_⟩:=hp4.at hlt
           have hfo2:=hp4.fz k
           obtain ⟨V5,hV5⟩:∃ V5,V5=V4.setCell ⟨w.heap.size+2,k,none⟩ (.slice (some ⟨V3.heap.size,0,none⟩) 7 7):=⟨_,rfl⟩
           have hpV5:=(hp4.set hlt hrow4).to (g:=fun j=>if j=k then restL ra else p2F W H (zaa g) s k1 k j) (fun i _=>by
            by_cases e:i=k
            · simp only [e,if_true];rfl
            · simp only [e,if_false])
           have htV5:=(HTV3.out.calls hb4).setPaths (i:=k) (v:=.slice (some ⟨V3.heap.size,0,none⟩) 7 7) hp4
           have hfV5:=(HFV3.out.calls hb4).setPaths (i:=k) (v:=.slice (some ⟨V3.heap.size,0,none⟩) 7 7) hp4
           have haV5:=alt_setPaths (i:=k) (v:=.slice (some ⟨V3.heap.size,0,none⟩) 7 7) (HAV3.out.calls (hb4.mono HAV3.out.size)) (lb:=w.heap.size+2) (fun _=>.inr (.inr (.inl rfl)))
           have hcV5:=(HCV3.out.keep (hb4.block cm HCV3.out.lt)).keep (Below.heap_setCell V4 ⟨w.heap.size+2,k,none⟩ (.slice (some ⟨V3.heap.size,0,none⟩) 7 7) cm (show cm≠w.heap.size+2 by omega))
           have hnc:V5.cell? ⟨w.heap.size+2,k,none⟩=some (.slice (some ⟨V3.heap.size,0,none⟩) 7 7):=by rw [hV5];exact World.cell?_setCell_same _ _ _ hco2
           rw [<- hV5] at hpV5 htV5 hfV5 haV5 hcV5
           have hrowV5:RowZ .i64 V5 V5.heap.size (some ⟨V3.heap.size,0,none⟩) 7 7 (restL ra):=by
            obtain ⟨a',m',c',e1,e2⟩:=hpV5.at hlt
            rw [hnc] at e1
            injection e1 with e1
            injection e1 with e1 e3 e4
            subst e1 e3 e4
            simp only [if_true] at e2
            exact e2
           obtain ⟨pth,hpt⟩:∃ pth,restL ra=pth:=⟨_,rfl⟩
           rw [hpt] at hpV5 hrowV5 HPW HPL HP2Y HOTH
           have HADD:=qz (add_any V5.drew pb mb (7*(k1+k)) V5.heap.size 7 7 (some ⟨V3.heap.size,0,none⟩) (othG W H (zaa g) s k1 k) pth (htV5.calls (Below.drew (zX _ _))) (hrowV5.below (Below.drew (zX _ _))) HPW.out (zL _) (by omega) (by have h1:=hrowV5.1;have h2:=HPL.out;omega))
           have HPV5:=qz hpV5
           have HTV5:=qz htV5
           have HFV5:=qz hfV5
           have HAV5:=qz haV5
           have HCV5:=qz hcV5
           have hplV5:=(haV5.block w5.heap.size (by omega) (by omega)).trans HP7.out
           have p5:V5.cell? ⟨w5.heap.size,5,none⟩=some (.map (some pb)):=zae hplV5 rfl
           have p6:V5.cell? ⟨w5.heap.size,6,none⟩=some (.map (some mb)):=zae hplV5 rfl
           have hkn:(k:Int)<(k1:Int):=by omega
           have HVV5:=qz hV5
           clear hz1 hz2 hz3 hz4 hp4 hpV5 htV5 hfV5 haV5 hcV5 hV5 hrow4 hrowV5 hb4 hplV5 hpt
           go_wp2_with fail
           rw [<- HVV5.out]
           go_still_tail 6,(by kernel_rfl)
           change wpList _ _ _ _ _ V5.drew
           go_wp2_with fail
           refine HADD.out.mono ?_
           rintro e V6 ⟨rfl,ht6,ha6⟩
           have HS6':Hid (∀ j,(j=pb\/j=mb)->MapAt V5 j):=fun j hj=>by
            rcases hj with rfl|rfl
            · exact HTV5.out.1.isMap
            · exact HTV5.out.2.1.isMap
           have ha36:Alt (fun j=>j=pb\/j=mb) V5 V6:=(Alt.refl _ V5).drew.trans ha6 (fun j hj _=>hj)
           have hp6:=HPV5.out.alt ha36 HS6'.out
           have hf6:=HFV5.out.alt ha36 HS6'.out (by omega)
           have hA6:=HAV5.out.trans ha36 (fun j hj _=>by rcases hj with e|e;exact .inl e;exact .inr (.inl e))
           have hc6:=HCV5.out.keep (ha36.block cm HCV5.out.lt (by omega))
           have hlook1:=hc6.look1 (z:=x) HWX.out
           obtain ⟨y,hy⟩:∃ y,(fc x).getD 0=y:=⟨_,rfl⟩
           rw [hy] at hlook1
           obtain ⟨y',hy'⟩:∃ y',IntKind.i64.wrap (y-1)=y':=⟨_,rfl⟩
           have hwy:(Lit.int .i64 y').wf=true:=by rw [<- hy'];exact wf_wrap _ _
           obtain ⟨V7,hrun7,hc7,hg7⟩:=hc6.put (z:=x) (x:=y') (by omega) HWX.out hwy
           have hlook7:=hc7.look1 (z:=x) HWX.out
           rw [if_pos rfl,Option.getD_some] at hlook7
           have ha67:Alt (fun j=>j=cm) V6 V7:=(Alt.refl _ V6).grown hg7 (fun _=>rfl)
           have hsm:∀ j,(fun j=>j=cm) j->MapAt V6 j:=fun j hj=>by
            have hj:j=cm:=hj
            subst hj
            exact hc6.isMap
           have HP8:=qz ((hp6.alt ha67 hsm).to (g:=p2F W H (zaa g) s k1 (k+1)) (fun i _=>by rw [HP2Y.out]))
           have HT8:Hid (TrafIn V7 pb mb (7*(k1+(k+1))) (othG W H (zaa g) s k1 (k+1))):=by
            unfold Hid
            rw [HOTH.out]
            exact ht6.alt ha67 (by omega) (by omega)
           have hf7:=hf6.alt ha67 hsm (by omega)
           have HF8:=qz hf7
           have HA8:=qz (hA6.trans ha67 (fun j hj _=>.inr (.inr (.inr (.inr hj)))))
           have HC8:Hid (∃ m f',m<=100000+(k+1)/\MapIn V7 cm m f'):=⟨_,_,by omega,hc7⟩
           have HMC:=qz hf7.isMap
           have hpl7:=(HA8.out.block w5.heap.size (by omega) (by omega)).trans HP7.out
           have v0:V7.cell? ⟨w5.heap.size,0,none⟩=some (.int .i64 W):=zae hpl7 rfl
           have v1:V7.cell? ⟨w5.heap.size,1,none⟩=some (.int .i64 H):=zae hpl7 rfl
           have v2:V7.cell? ⟨w5.heap.size,2,none⟩=some (.string g):=zae hpl7 rfl
           have v3:V7.cell? ⟨w5.heap.size,3,none⟩=some (.slice a3 n3 c3):=zae hpl7 rfl
           have v4:V7.cell? ⟨w5.heap.size,4,none⟩=some (.map (some cb)):=zae hpl7 rfl
           have v5:V7.cell? ⟨w5.heap.size,5,none⟩=some (.map (some pb)):=zae hpl7 rfl
           have v6:V7.cell? ⟨w5.heap.size,6,none⟩=some (.map (some mb)):=zae hpl7 rfl
           have v7:V7.cell? ⟨w5.heap.size,7,none⟩=some (.map (some fb)):=zae hpl7 rfl
           have HFG:=qz (forget_any W H x g a3 n3 c3 cb pb mb fb (k+1) s.bl V7 hf7 HWX.out)
           clear ht6 ha6 ha36 hp6 hf6 hA6 hc6 hy hwy hc7 hg7 ha67 hsm hf7 hpl7 p5 p6 hnc
           by_cases hy0:y'=0
           · have e0:(y'==0)=true:=by simpa using hy0
             clear hy0
             go_wp2_with fail
             refine HFG.out.mono ?_
             rintro e V9 ⟨rfl,hf9,ha9⟩
             have hsf:∀ j,(fun j=>j=fb) j->MapAt V7 j:=fun j hj=>by
              have hj:j=fb:=hj
              subst hj
              exact HMC.out
             have HP9:=qz (HP8.out.alt ha9 hsf)
             have HT9:=qz (HT8.out.alt ha9 (by omega) (by omega))
             have HF9:=qz hf9
             have HA9:=qz (HA8.out.trans ha9 (fun j hj _=>.inr (.inr (.inr (.inl hj)))))
             have HC9:Hid (∃ m f',m<=100000+(k+1)/\MapIn V9 cm m f'):=by
              obtain ⟨m,f',hm,hc⟩:=HC8.out
              exact ⟨m,f',hm,hc.keep (ha9.block cm hc.lt (by omega))⟩
             clear hf9 ha9 hsf
             go_wp2_with fail
             go_roundw
             case rel=>exact ⟨k+1,by omega,by go_num,HP9.out,HT9.out,HF9.out,HC9.out,HA9.out⟩
             case measure=>simp [intOf];omega
           · have e0:(y'==0)=false:=by simpa using hy0
             clear hy0
             go_wp2_with fail
             go_roundw
             case rel=>exact ⟨k+1,by omega,by go_num,HP8.out,HT8.out,HF8.out,HC8.out,HA8.out⟩
             case measure=>simp [intOf];omega
     · obtain rfl:k=k1:=by omega
       have hres:=(HPI.out.to (g:=planG W H (zaa g) s k) (fun i hi=>(p2F_end hi).symm)).rowL (by unfold maxLen;omega)
       have HRES:Hid (RowL wr wr.heap.size (some ⟨w.heap.size+2,0,none⟩) k k (plansG W H (zaa g) s k)):=hres
       have HBE:=qz hbw
       clear hres hbw hAr
       go_wp2_with fail
       go_ret
       exact ⟨_,_,rfl,HRES.out,HBE.out⟩
end Go.Proofs.YtknnnbpgkfaapaaGreat.Vm
namespace Go.Proofs.YtknnnbpgkfaapaaGreat.Vm
open Go Go.RowKit
def IntsKept (w w':World):Prop:=∀ (g:Nat) (arr:Array Value),w.heap[g]?=some (.cells arr 3 (0,0))->w'.heap[g]?=w.heap[g]?
theorem IntsKept.calls {w w':World}(hb:Below w.heap.size w w'):IntsKept w w':=fun g _ h=>hb.block g (Array.getElem?_eq_some_iff.1 h).1
theorem IntsKept.set {w:World}{lb i:Nat}{v:Value}{arr:Array Value}(h:w.heap[lb]?=some (.cells arr 26 (0,0))):IntsKept w (w.setCell ⟨lb,i,none⟩ v):=fun g a hg =>
 Below.heap_setCell w ⟨lb,i,none⟩ v g (fun e=>by
  have e:g=lb:=e
  subst e
  rw [h] at hg
  simp at hg)
theorem IntsKept.push {w w':World}{B n:Nat}{v:Value}{xs:List Value}{o:Obj}(h1:w.ownsRow B 26 1 v n xs)(hg:(w.alloc o).grownBy w' v.ownBlock):IntsKept w w':=fun g a ha=>by
 have hl:=(Array.getElem?_eq_some_iff.1 ha).1
 refine (hg.block g (by simp;omega) (fun e=>?_)).trans (heap_alloc_old w o hl)
 rcases h1.2 with ⟨rfl,_⟩|⟨g',cap,cur,rfl,_,hg',_⟩
 · simp [Value.ownBlock] at e
 · simp only [Value.ownBlock,Option.some.injEq] at e
   subst e
   rw [ha] at hg'
   simp at hg'
theorem OwnZ.kept {w w':World}{B:Nat}{v:Value}{l:List Int}(h:OwnZ w B v l)(hk:IntsKept w w'):OwnZ w' B v l:=by
 refine ⟨h.1,?_⟩
 rcases h.2 with h2|⟨g,cap,cur,rfl,hb,hh,r⟩
 · exact .inl h2
 · exact .inr ⟨g,cap,cur,rfl,hb,by rw [hk g cur hh];exact hh,r⟩
def OwnQ (w:World)(B:Nat)(v:Value)(ls:List (List Int)):Prop :=
 ∃ xs:List Value,w.ownsRow B 26 1 v ls.length xs/\∀ (i:Nat) (l:List Int),ls[i]?=some l->∃ u,xs[i]?=some u/\OwnZ w B u l
theorem OwnQ.nil (w:World)(B:Nat):OwnQ w B (.slice none 0 0) []:=⟨[],World.ownsRow_nil _ _ _ _,fun i l h=>by simp at h⟩
theorem OwnQ.kept {w w':World}{B:Nat}{v:Value}{ls:List (List Int)}(h:OwnQ w B v ls)(hk:IntsKept w w')(hq:∀ k,B<=k->k<w.heap.size->w'.heap[k]?=w.heap[k]?):OwnQ w' B v ls:=by
 obtain ⟨xs,h1,h2⟩:=h
 refine ⟨xs,⟨h1.1,?_⟩,fun i l hl=>?_⟩
 · rcases h1.2 with h3|⟨g,cap,cur,rfl,hg,hh,r⟩
   · exact .inl h3
   · exact .inr ⟨g,cap,cur,rfl,hg,by rw [hq g hg (Array.getElem?_eq_some_iff.1 hh).1];exact hh,r⟩
 · obtain ⟨u,hu,ho⟩:=h2 i l hl
   exact ⟨u,hu,ho.kept hk⟩
theorem OwnQ.calls {w w':World}{B:Nat}{v:Value}{ls:List (List Int)}(h:OwnQ w B v ls)(hb:Below w.heap.size w w'):OwnQ w' B v ls:=h.kept (.calls hb) (fun k _ hk=>hb.block k hk)
theorem OwnQ.push {w w':World}{B:Nat}{v v' u:Value}{ls:List (List Int)}{xs:List Value}{l:List Int}{o:Obj}(h1:w.ownsRow B 26 1 v ls.length xs)(h2:∀ (i:Nat) (l:List Int),ls[i]?=some l->∃ u,xs[i]?=some u/\OwnZ w B u l)
 (hu:OwnZ w B u l) (h:w'.ownsRow B 26 1 v' (ls.length+1) (xs++[u])) (hg:(w.alloc o).grownBy w' v.ownBlock):OwnQ w' B v' (ls++[l]):=by
 have hlx:xs.length=ls.length:=by simpa using h1.1
 have hk:IntsKept w w':=.push h1 hg
 refine ⟨xs++[u],by simpa using h,fun i l' hl=>?_⟩
 by_cases hi:i<ls.length
 · rw [List.getElem?_append_left hi] at hl
   obtain ⟨u',hu',ho⟩:=h2 i l' hl
   exact ⟨u',by rw [List.getElem?_append_left (by omega)];exact hu',ho.kept hk⟩
 · rw [List.getElem?_append_right (by omega)] at hl
   obtain ⟨h3,h4⟩:=List.getElem?_eq_some_iff.1 hl
   simp at h3 h4
   subst h4
   exact ⟨u,by rw [List.getElem?_append_right (by omega)];simp [show i-xs.length=0 by omega],hu.kept hk⟩
theorem OwnQ.rowL {w:World}{B:Nat}{v:Value}{ls:List (List Int)}(h:OwnQ w B v ls):∃ a c,v=.slice a ls.length c/\RowL w w.heap.size a ls.length c ls:=by
 obtain ⟨xs,h1,h2⟩:=h
 rcases h1.2 with ⟨rfl,hn⟩|⟨g,cap,cur,rfl,hb,hg,hnc,hcm,hcs,htake⟩
 · obtain rfl:=List.eq_nil_of_length_eq_zero hn
   exact ⟨none,0,rfl,rowL_nil w _⟩
 · refine ⟨some ⟨g,0,none⟩,cap,rfl,rfl,hnc,hcm,fun hn=>⟨g,0,rfl,(Array.getElem?_eq_some_iff.1 hg).1,fun i hi=>?_⟩⟩
   obtain ⟨u,hu,ho⟩:=h2 i ls[i] (by simp [hi])
   obtain ⟨a',c',rfl,hr⟩:=ho.row
   have hc:=World.ownsRow.cells h1 (g:=g) rfl i _ hu
   rw [Row.add] at hc
   exact ⟨a',_,c',hc,by rw [show ls.getD i []=ls[i] by simp [List.getD,hi]];exact hr⟩
def PathsO (w:World)(B lb n:Nat)(f:Nat->List Int):Prop :=
 ∃ arr:Array Value,w.heap[lb]?=some (.cells arr 26 (0,0))/\arr.size=n/\∀ i,i<n->∃ u,arr[i]?=some u/\OwnZ w B u (f i)
section
variable {w w':World} {B lb n:Nat} {f g:Nat->List Int}
theorem PathsO.lt (h:PathsO w B lb n f):lb<w.heap.size:=by obtain ⟨arr,h1,_⟩:=h;exact (Array.getElem?_eq_some_iff.1 h1).1
theorem PathsO.at (h:PathsO w B lb n f){i:Nat}(hi:i<n):∃ u,w.cell? ⟨lb,i,none⟩=some u/\OwnZ w B u (f i):=by
 obtain ⟨arr,h1,h2,h3⟩:=h
 obtain ⟨u,h4,h5⟩:=h3 i hi
 exact ⟨u,zae h1 h4,h5⟩
theorem PathsO.fz (h:PathsO w B lb n f)(i:Nat):w.frozen? ⟨lb,i,none⟩=false:=by obtain ⟨arr,h1,_⟩:=h;exact frozen_heap h1
theorem PathsO.to (h:PathsO w B lb n f)(hg:∀ i,i<n->g i=f i):PathsO w B lb n g:=by
 obtain ⟨arr,h1,h2,h3⟩:=h
 exact ⟨arr,h1,h2,fun i hi=>by rw [hg i hi];exact h3 i hi⟩
theorem PathsO.kept (h:PathsO w B lb n f)(hk:IntsKept w w')(hl:w'.heap[lb]?=w.heap[lb]?):PathsO w' B lb n f:=by
 obtain ⟨arr,h1,h2,h3⟩:=h
 exact ⟨arr,hl.trans h1,h2,fun i hi=>by
  obtain ⟨u,h4,h5⟩:=h3 i hi
  exact ⟨u,h4,h5.kept hk⟩⟩
theorem PathsO.calls (h:PathsO w B lb n f)(hb:Below w.heap.size w w'):PathsO w' B lb n f:=h.kept (.calls hb) (hb.block lb h.lt)
theorem PathsO.push {m:Nat}{v:Value}{xs:List Value}{o:Obj}(h:PathsO w B lb n f)(hlb:lb<B)(h1:w.ownsRow B 26 1 v m xs)(hg:(w.alloc o).grownBy w' v.ownBlock):PathsO w' B lb n f :=
 h.kept (.push h1 hg) ((hg.block lb (by have:=h.lt;simp;omega) (fun e=>by have:=(World.ownsRow.lt h1 lb e.symm).1;omega)).trans (heap_alloc_old w o h.lt))
theorem PathsO.ints (h:PathsO w B lb n f)(i:Nat)(v:Value):IntsKept w (w.setCell ⟨lb,i,none⟩ v):=by obtain ⟨arr,h1,_⟩:=h;exact .set h1
theorem PathsO.set (h:PathsO w B lb n f){i:Nat}(hi:i<n){u:Value}{q:List Int}(hr:OwnZ w B u q):PathsO (w.setCell ⟨lb,i,none⟩ u) B lb n (fun j=>if j=i then q else f j):=by
 have hk:=h.ints i u
 obtain ⟨arr,h1,h2,h3⟩:=h
 refine ⟨arr.set! i u,?_,by simpa using h2,fun j hj=>?_⟩
 · simp only [World.setCell,Array.getElem?_modify,if_true,h1,Option.map_some]
   rfl
 · by_cases e:j=i
   · subst e
     refine ⟨u,by simp [h2,hj],?_⟩
     simp only [if_true]
     exact hr.kept hk
   · obtain ⟨u',h4,h5⟩:=h3 j hj
     refine ⟨u',?_,?_⟩
     · rw [Array.set!_eq_setIfInBounds,Array.getElem?_setIfInBounds_ne (fun e'=>e e'.symm)]
       exact h4
     · simp only [e,if_false]
       exact h5.kept hk
theorem OwnQ.setPaths {v u:Value}{ls:List (List Int)}{i:Nat}(h:OwnQ w B v ls)(hp:PathsO w B lb n f)(hlb:lb<B):OwnQ (w.setCell ⟨lb,i,none⟩ u) B v ls :=
 h.kept (hp.ints i u) (fun k hk _=>Below.heap_setCell w ⟨lb,i,none⟩ u k (fun e=>by have e:k=lb:=e;omega))
theorem PathsO.rowL (h:PathsO w B lb n f)(hn:n<=maxLen):RowL w w.heap.size (some ⟨lb,0,none⟩) n n ((List.range n).map f):=by
 have hl:=h.lt
 refine ⟨by simp,zL _,hn,fun h0=>⟨lb,0,rfl,hl,fun i hi=>?_⟩⟩
 obtain ⟨u,h4,h5⟩:=h.at hi
 obtain ⟨a,c,rfl,hr⟩:=h5.row
 refine ⟨a,_,c,by rw [Nat.zero_add];exact h4,?_⟩
 rw [show ((List.range n).map f).getD i []=f i by simp [List.getD,hi]]
 exact hr
end
theorem make_pathsO (w:World)(B N:Nat)(hN:N<=1000000):∃ w',(Instr.makeSlice 65 (.int .i64 (N:Int)) (.int .i64 (N:Int))).run Tryz.prog w=.ok (.slice (some ⟨w.heap.size,0,none⟩) N N) w'/\PathsO w' B w.heap.size N (fun _=>[])/\Below w.heap.size w w'/\w'.heap.size=w.heap.size+1:=by
 obtain ⟨j0,hj0,hy0,hy1,hy2⟩:=info_parts info_row
 have hmk:=run_make (P:=Tryz.prog) w 65 26 j0 (.slice none 0 0) Tryz.underlying65 hj0 hy0 .i64 .i64 N N (by omega) (Int.le_refl _) (by rw [hy2];omega) (by omega)
 simp only [Int.toNat_natCast] at hmk
 rw [hy1] at hmk
 have hmc:(madeCells (Value.slice none 0 0).cells (N*1))=⟨List.replicate N (.slice none 0 0)⟩:=by
  apply Array.ext'
  simp only [Value.cells]
  rw [Nat.mul_one,toList_madeCells_one]
 rw [hmc] at hmk
 refine ⟨_,hmk,⟨⟨List.replicate N (.slice none 0 0)⟩,?_,by simp,fun i hi=>⟨.slice none 0 0,by simp [hi],World.ownsRow_nil _ _ _ _⟩⟩,(zX _ _).alloc (zL _) _,by simp⟩
 show (w.heap.push _)[w.heap.size]?=_
 rw [Array.getElem?_push,if_pos rfl]
set_option maxHeartbeats 1000000 in
theorem rpath_own (W H fr to:Int)(s:ByteArray)(bl:List Int)(oth:List (List Int))(a1 a2:Option Addr)(n1 c1 n2 c2 B:Nat)(w:World)(hok:Okay W H s)(hr1:RowZ .i64 w B a1 n1 c1 bl)(hr2:RowL w B a2 n2 c2 oth)(hB:B<=w.heap.size)(hn1:n1<=1000)(hn2:n2<=1000) :
 Calls Tryz.prog 51 #[zam W H s,.int .i64 fr,.int .i64 to,.slice a1 n1 c1,.slice a2 n2 c2] w fun e w' =>
  ∃ a n c l b,e=.returned (.tuple #[.slice a n c,.bool b])/\PathOut (pathG W H (zaa s) bl oth fr to) l b/\OwnZ w' w.heap.size (.slice a n c) l/\Below w.heap.size w w':=by
 have hsz:=hok.le
 have hlen:(zaa s).length=s.size:=zag s
 have hb0:Below w.heap.size w (w.alloc (zar W H s)):=(zX _ _).alloc (zL _) _
 have hg0:=zbq w W H s
 have hz0:(w.alloc (zar W H s)).heap.size=w.heap.size+1:=by simp
 generalize hw1:w.alloc (zar W H s)=w1 at hg0 hb0 hz0
 have HW1:=qz hw1
 have HB0:=qz hb0
 have HG0:=qz hg0
 have HR1:=qz hr1
 have HR2:=qz hr2
 clear hw1 hr1 hr2
 cases hft:zac (zaa s) to with
 | false =>
   have HFI:=qz (rfield_no W H to s a1 n1 c1 w1 (by unfold maxLen;omega) hft)
   have HE:Hid (pathG W H (zaa s) bl oth fr to=none):=by unfold Hid pathG;rw [if_neg (fun h=>by rw [hft] at h;cases h.1)]
   obtain ⟨g1,g2,g3⟩:=hg0
   clear hft hb0
   go_enter Tryz.func51,Tryz.ntmps51
   go_wp2_with fail
   rw [HW1.out]
   refine HFI.out.mono ?_
   rintro e w2 ⟨rfl,hb2⟩
   have HB2:=qz (HB0.out.trans (hb2.mono (by omega)))
   clear hb2
   go_wp2_with fail
   go_ret2
   exact ⟨none,0,0,[],false,rfl,.inl ⟨HE.out,rfl,rfl⟩,World.ownsRow_nil _ _ _ _,HB2.out⟩
 | true =>
   have hto:=zaq hft
   obtain ⟨to',rfl⟩:=Int.eq_ofNat_of_zero_le hto.1
   have HFI:=qz (rfield_yes W H to' s bl a1 n1 c1 B w1 hok hft (HR1.out.below (hb0.mono hB)) (by omega) (by omega))
   obtain ⟨g1,g2,g3⟩:=hg0
   have HOK:=qz hok
   have HFT:=qz hft
   clear hft hb0
   go_enter Tryz.func51,Tryz.ntmps51
   go_wp2_with fail
   rw [HW1.out]
   refine HFI.out.mono ?_
   rintro e w2 ⟨lb,l,rfl,hfi,hnum,hb2⟩
   have hz2:=hb2.size
   have HB2:=qz (HB0.out.trans (hb2.mono (by omega)))
   have HFL:Hid (l=fieldG W H (zaa s) bl (to':Nat)):=IsField.only hfi (by rw [<- hlen];exact fieldG_is W H (zaa s) bl (to':Nat))
   obtain ⟨g1,g2,g3⟩:=HG0.out.below hb2 (by omega)
   have HFLO:=qz (zaw W H fr s w2 (by unfold maxLen;omega))
   have hll:l.length=s.size:=hfi.1
   have hnr:=hnum.row
   rw [hll] at hnr
   have HNR:=qz hnr
   have hgb:=qz fun i=>fieldG_bounds (W:=W) (H:=H) (bl:=bl) (to:=(to':Nat)) (cells:=zaa s) (by rw [Int.toNat_natCast];omega) (by omega) i
   cases hff:zac (zaa s) fr with
   | false =>
     have HE:Hid (pathG W H (zaa s) bl oth fr (to':Nat)=none):=by unfold Hid pathG;rw [if_neg (fun h=>by rw [hff] at h;cases h.2)]
     rw [hff] at HFLO
     clear hff hnum hb2 hfi HFI hnr
     go_wp2_with fail
     refine HFLO.out.mono ?_
     rintro e w3 ⟨rfl,hb3⟩
     have HB3:=qz (HB2.out.trans (hb3.mono (by omega)))
     clear hb3
     go_wp2_with fail
     go_ret2
     exact ⟨none,0,0,[],false,rfl,.inl ⟨HE.out,rfl,rfl⟩,World.ownsRow_nil _ _ _ _,HB3.out⟩
   | true =>
     have HE:Hid (pathG W H (zaa s) bl oth fr (to':Nat)=(pathS W H (zaa s) l bl oth 6 fr).map fun x=>fr :: x.1):=by unfold Hid pathG;rw [if_pos ⟨HFT.out,hff⟩,HFL.out]
     rw [hff] at HFLO
     have HS:=qz fun w' hr1 hr2 hr3 hB'=>rsearch_any W H s HOK.out l bl oth (some ⟨lb,0,none⟩) a1 a2 s.size s.size n1 c1 n2 c2 w2.heap.size hll (fun i=>by have:=(hgb.out i).1;rw [<- HFL.out] at this;omega) (fun i=>by have:=(hgb.out i).2;rw [<- HFL.out] at this;exact this) (by omega) (by omega) 6 0 fr w' rfl hr1 hr2 hr3 hB'
     clear hff hnum hb2 hfi HFI hnr
     go_wp2_with fail
     refine HFLO.out.mono ?_
     rintro e w3 ⟨rfl,hb3⟩
     have hz3:=hb3.size
     have HB3:=qz (HB2.out.trans (hb3.mono (by omega)))
     obtain ⟨g1,g2,g3⟩:=GridAt.below (⟨g1,g2,g3⟩:GridAt w2 w.heap.size W H s) hb3 (by omega)
     have HS3:=qz (HS.out w3 (HNR.out.below hb3) (((HR1.out.below (HB2.out.mono hB)).mono (by omega)).below hb3) (((HR2.out.below (HB2.out.mono hB)).mono (by omega)).below hb3) hz3)
     clear hb3 HS
     cases hps:pathS W H (zaa s) l bl oth 6 fr with
     | none =>
       rw [hps] at HS3 HE
       clear hps
       go_wp2_with fail
       refine HS3.out.mono ?_
       rintro e w4 ⟨v1,v2,v3,rfl,⟨rfl,rfl,rfl⟩,hb4⟩
       have HB4:=qz (HB3.out.trans (hb4.mono (by omega)))
       clear hb4
       go_wp2_with fail
       go_ret2
       exact ⟨none,0,0,[],false,rfl,.inl ⟨HE.out,rfl,rfl⟩,World.ownsRow_nil _ _ _ _,HB4.out⟩
     | some x =>
       have hxl:=(pathS_steps hps).len
       rw [hps] at HS3 HE
       clear hps
       obtain ⟨x1,x2⟩:=x
       simp only [] at hxl
       go_wp2_with fail
       refine HS3.out.mono ?_
       rintro e w4 ⟨v1,v2,v3,rfl,⟨a,n,cc,rfl,rfl,rfl,hrow⟩,hb4⟩
       have hs4:=hb4.size
       have HB4:=qz (HB3.out.trans (hb4.mono (by omega)))
       have hrl:x1.length=n:=hrow.1
       have HROW:=qz fun o=>(hrow.below ((zX w4.heap.size w4).alloc (zL _) o))
       have HOW:=qz (ownZ_lit w4 fr (zL _))
       have HBA:=qz fun o=>(zX w4.heap.size w4).alloc (zL _) o
       clear hb4 hrow HS3
       go_wp2_with (at_builtin;refine zbm rfl (.tmp 45) (.tmp 46) rfl rfl HOW.out rfl (HROW.out _) (by simp only [List.length_cons,List.length_nil];omega) (HBA.out _).size ?_;intro v' w5 ho5 hb5)
       obtain ⟨a5,c5,rfl,hr5⟩:=ho5.row
       have HO5:=qz (ho5.lower (Nat.le_trans HB3.out.size hs4))
       have HB5:=qz (HB4.out.trans (((HBA.out _).trans hb5).mono (by omega)))
       clear ho5 hb5 hr5
       go_wp2_with fail
       go_ret2
       exact ⟨a5,_,c5,_,true,rfl,.inr ⟨HE.out,rfl⟩,HO5.out,HB5.out⟩
set_option maxHeartbeats 1000000 in
theorem rest_own (x:Int)(w:World) :
 Calls Tryz.prog 50 #[.int .i64 x] w fun e w'=>∃ a c,e=.returned (.slice a 7 c)/\OwnZ w' w.heap.size (.slice a 7 c) (List.replicate 7 x)/\Below w.heap.size w w':=by
 go_enter Tryz.func50,Tryz.ntmps50
 go_wp2_with fail
 go_loopw [3,4] (fun v i wr=>∃ k:Nat,k<=7/\i=.int .i64 k/\Hid (OwnZ wr w.heap.size v (List.replicate k x))/\Hid (Below w.heap.size w wr)) (fun _ i _=>7-(intOf i).toNat)
 case atStart=>exact ⟨0,Nat.zero_le _,rfl,World.ownsRow_nil _ _ _ _,zX _ _⟩
 case round =>
  obtain ⟨k,hk,rfl,HO,HB⟩:=hrel
  by_cases hlt:k<7
  · have hle:(k:Int)<=6:=by omega
    have hsz:=HB.out.size
    have HROW:=qz ((ownZ_lit wr x (zL _)).rowAt (n:=1) rfl)
    have HOA:=qz fun o=>HO.out.calls ((zX wr.heap.size wr).alloc (zL _) o)
    have HBA:=qz fun o=>HB.out.alloc HB.out.size o
    go_wp2_with (at_builtin;refine zbm rfl (.tmp 9) (.tmp 11) rfl rfl (HOA.out _) rfl HROW.out (by simp only [List.length_replicate];omega) (HBA.out _).size ?_;intro v' w5 ho5 hb5)
    have HB5:=qz ((HBA.out _).trans hb5)
    have HO5:Hid (OwnZ w5 w.heap.size v' (List.replicate (k+1) x)):=by unfold Hid;rw [List.replicate_succ'];exact ho5
    clear ho5 hb5
    go_wp2_with fail
    go_roundw
    case rel=>exact ⟨k+1,by omega,by go_num,HO5.out,HB5.out⟩
    case measure=>simp [intOf];omega
  · obtain rfl:k=7:=by omega
    obtain ⟨a,c,e,hr⟩:=HO.out.sliced (n:=7) (by simp)
    subst e
    have HR:=qz HO.out
    clear hr
    go_wp2_with fail
    go_ret
    exact ⟨a,c,rfl,HR.out,HB.out⟩
set_option maxHeartbeats 4000000 in
theorem rplans_any (W H:Int)(g:ByteArray)(h:Sh)(s:St)(B:Nat)(w:World)(hok:Okay W H g)(hin:StIn w B h s)(hB:B<=w.heap.size)(hrp:RightP (zac (zaa g)) s)(hn3:h.n3<=1000)(hn1:h.n1<=400) :
 Calls Tryz.prog 25 #[zam W H g,shV h] w fun e w'=>∃ a c,e=.returned (.slice a h.n1 c)/\RowL w' w'.heap.size a h.n1 c (plansG W H (zaa g) s h.n1)/\Below w.heap.size w w':=by
 obtain ⟨i1,hi1,hy0,hy1,hy2⟩:=info_parts info_row
 obtain ⟨w2,hw2,hB2,hz2,hg2,hs2⟩:=zbv w W H g h
 obtain ⟨w3,hmk,hpi,hb3,hz3⟩:=make_pathsO w2 (w.heap.size+3) h.n1 (by omega)
 rw [hz2] at hmk hpi hz3 hb3
 have HGO:=qz fun (k:Nat) V (hV:Below (w.heap.size+2) w2 V)=>rgoal_any W H g h s (k:Int) B V hok (hin.below ((hB2.trans (hV.mono (by omega))).mono hB)) (Nat.le_trans hB (hB2.trans (hV.mono (by omega))).size) (fun i hi=>hrp.mode i hi) (by omega)
 have HB2:=qz hB2
 have HG2:=qz hg2
 have HS2:=qz hs2
 have HIN:=qz hin
 have HOK:=qz hok
 have HPI:=qz hpi
 have HB3:=qz hb3
 have hlr:s.rs.length=h.n1:=hin.rs.1
 have hin1:h.n1<=h.c1:=hin.rs.2.1
 have hm1:=hin.rs.2.2.1
 unfold maxLen at hm1
 have hsB:B<=w.heap.size:=hB
 obtain ⟨s0,s1,s2,s3⟩:=hs2
 obtain ⟨t,a1,n1,c1,a2,n2,c2,a3,n3,c3⟩:=h
 simp only [] at s1 hmk hn1 hn3 hin1 hm1 hlr hz3 HPI HGO
 rw [hw2] at s1 hmk
 clear hw2 hB2 hpi hb3 hin hok hg2 s0 s2 s3 hrp hB
 go_enter Tryz.func25,Tryz.ntmps25
 go_wp2_with fail
 go_loopw [6,7] (fun v i wr=>∃ k:Nat,k<=n1/\i=.int .i64 k/\Hid (OwnQ wr (w.heap.size+3) v (oth1 W H (zaa g) s k))/\Hid (PathsO wr (w.heap.size+3) (w.heap.size+2) n1 (p1F W H (zaa g) s k))/\Hid (Below (w.heap.size+2) w2 wr)) (fun _ i _=>n1-(intOf i).toNat)
 case atStart=>exact ⟨0,Nat.zero_le _,rfl,OwnQ.nil _ _,HPI.out.to (fun i _=>p1F_zero W H (zaa g) s i),HB3.out⟩
 case round =>
  obtain ⟨k,hk,rfl,HQ,HP,HB⟩:=hrel
  have hlb:=HP.out.lt
  obtain ⟨g0,g1,g2⟩:=HG2.out.below HB.out (by omega)
  obtain ⟨s0,s1,s2,s3⟩:=HS2.out.below HB.out (by omega)
  simp only [] at s0 s1 s2 s3
  by_cases hlt:k<n1
  · obtain ⟨b,off,rfl,hb,hcs⟩:=HIN.out.rs.cells (by show 0<n1;omega)
    have HRC:=qz (hcs k hlt)
    have hkn:(k:Int)<(n1:Int):=by omega
    have HC:=qz (HGO.out k wr HB.out)
    have HNO:=qz (p1F_no (W:=W) (H:=H) (l:=zaa g) (s:=s) (k:=k))
    have HYE:=qz (p1F_yes (W:=W) (H:=H) (l:=zaa g) (s:=s) (k:=k))
    have HON:=qz (oth1_no (W:=W) (H:=H) (l:=zaa g) (s:=s) (k:=k))
    have HOY:=qz (oth1_yes (W:=W) (H:=H) (l:=zaa g) (s:=s) (k:=k))
    have HOL:=qz (oth1_len (W:=W) (H:=H) (l:=zaa g) (s:=s) k)
    have HCE:Hid (cellR s k=(s.rs.getD k zr).a):=rfl
    obtain ⟨⟨x,bb⟩,hgl⟩:∃ G,zay W H (zaa g) s (k:Int)=G:=⟨_,rfl⟩
    rw [hgl] at HC HNO HYE HON HOY
    simp only [] at HC HNO HYE HON HOY
    generalize s.rs.getD k zr=r at HRC HCE
    obtain ⟨ra,rb,rc,rd,re⟩:=r
    simp only [] at HCE
    clear hcs hgl
    cases bb with
    | true =>
      go_wp2_with fail
      refine HC.out.mono ?_
      rintro e wa ⟨rfl,hba⟩
      have HQ2:=qz (HQ.out.calls hba)
      have HP2:=qz ((HP.out.calls hba).to (fun i _=>HYE.out (by first|rfl|trivial) i))
      have HB4:=qz (HB.out.trans (hba.mono (by omega)))
      rw [<- HOY.out (by first|rfl|trivial)] at HQ2
      clear hba
      go_wp2_with fail
      go_roundw
      case rel=>exact ⟨k+1,by omega,by go_num,HQ2,HP2,HB4⟩
      case measure=>simp [intOf];omega
    | false =>
      go_wp2_with fail
      refine HC.out.mono ?_
      rintro e wa ⟨rfl,hba⟩
      have hza:=hba.size
      have HBA:=qz (HB.out.trans (hba.mono (by omega)))
      obtain ⟨y0,y1,y2,y3⟩:=HS2.out.below HBA.out (by omega)
      simp only [] at y1
      have hrc:=(HRC.out.below (HB2.out.trans (HBA.out.mono (by omega))) (by omega)).1
      simp only [] at hrc
      have HRE:=qz (rest_own ra wa)
      have HQA:=qz (HQ.out.calls hba)
      have HPA:=qz (HP.out.calls hba)
      clear hba g0 g1 g2 s0 s1 s2 s3 y0 y2 y3
      go_wp2_with fail
      refine HRE.out.mono ?_
      rintro e wb ⟨au,cu,rfl,hou,hbb0⟩
      have hqb:=HQA.out.calls hbb0
      have hpb:=HPA.out.calls hbb0
      have hbb:=HBA.out.trans (hbb0.mono (by omega))
      have hou:=hou.lower (show w.heap.size+3<=wa.heap.size by omega)
      have hzb:=hbb0.size
      have hll:=HOL.out
      have HON2:=HON.out (by first|rfl|trivial)
      have HNO2:=qz (HNO.out (by first|rfl|trivial))
      rw [HCE.out] at HON2 HNO2
      generalize oth1 W H (zaa g) s k=ls at hqb HON2 hll
      have HON3:=qz HON2
      clear hbb0 y1 hrc HON2 HQ HP HQA HPA
      have hlbb:=hpb.lt
      obtain ⟨u0,hcu,_⟩:=hpb.at hlt
      have hfz:=hpb.fz k
      have HPV:=qz (hpb.set hlt hou)
      have hqV:=hqb.setPaths (u:=.slice au 7 cu) (i:=k) hpb (Nat.lt_succ_self _)
      have HOV:=qz (hou.kept (hpb.ints k (.slice au 7 cu)))
      have HBV:=qz (hbb.setCell (p:=⟨w.heap.size+2,k,none⟩) (zL _) (.slice au 7 cu))
      have hnc:(wb.setCell ⟨w.heap.size+2,k,none⟩ (.slice au 7 cu)).cell? ⟨w.heap.size+2,k,none⟩=some (.slice au 7 cu):=World.cell?_setCell_same _ _ _ hcu
      have hzV:(wb.setCell ⟨w.heap.size+2,k,none⟩ (.slice au 7 cu)).heap.size=wb.heap.size:=by simp [World.setCell]
      obtain ⟨xs,h1,h2⟩:=hqV
      clear hqb hpb hou
      go_wp2_with (at_builtin;(refine wpList_append_own _ rfl (.tmp 45) (.tmp 50) 65 rfl (w.heap.size+3) 26 i1 (.slice none 0 0) 1 24 Tryz.underlying65 hi1 hy0 hy1 hy2 rfl (by decide) _ _ _ rfl (World.ownsRow.alloc h1 _) ⟨wb.heap.size,0,none⟩ 1 1 [.slice au 7 cu] rfl rfl (by rw [<- hzV];exact one_cell _ _ _) (by simp [Value.oneCell']) (by simp only [maxLen];omega) (by omega) (by first|(simp;omega)|(simp [World.setCell];omega)) ?_;intro v6 w6 hown6 hgrow6 _))
      have HQ6:=qz (OwnQ.push h1 h2 HOV.out hown6 hgrow6)
      have HP6:=qz (HPV.out.push (Nat.lt_succ_self _) h1 hgrow6)
      have HB6:=qz ((HBV.out.alloc (by omega) _).grown hgrow6 (by simp;omega) (fun k hk=>by have:=(World.ownsRow.lt h1 k hk).1;omega))
      clear hown6 hgrow6 h1 h2 hnc
      go_wp2_with fail
      go_roundw
      case rel=>exact ⟨k+1,by omega,by go_num,by rw [HON3.out];exact HQ6.out,HP6.out.to (fun i _=>HNO2.out i),HB6.out⟩
      case measure=>simp [intOf];omega
  · obtain rfl:k=n1:=by omega
    have HPS:=qz (HP.out.to (g:=p2F W H (zaa g) s k 0) (fun i hi=>p2F_start hi))
    have HQS:=qz HQ.out
    clear HP HQ
    go_wp2_with fail
    go_loopw [6,10] (fun v i wr=>∃ j:Nat,j<=k/\i=.int .i64 j/\Hid (OwnQ wr (w.heap.size+3) v (othG W H (zaa g) s k j))/\Hid (PathsO wr (w.heap.size+3) (w.heap.size+2) k (p2F W H (zaa g) s k j))/\Hid (Below (w.heap.size+2) w2 wr)) (fun _ i _=>k-(intOf i).toNat)
    case atStart=>exact ⟨0,Nat.zero_le _,rfl,HQS.out,HPS,HB⟩
    case round =>
     obtain ⟨j,hj,rfl,HQ,HP,HB⟩:=hrel
     have hlb:=HP.out.lt
     obtain ⟨g0,g1,g2⟩:=HG2.out.below HB.out (by omega)
     obtain ⟨s0,s1,s2,s3⟩:=HS2.out.below HB.out (by omega)
     simp only [] at s0 s1 s2 s3
     by_cases hlt:j<k
     · obtain ⟨b,off,rfl,hb,hcs⟩:=HIN.out.rs.cells (by show 0<k;omega)
       have HRC:=qz (hcs j hlt)
       have hkn:(j:Int)<(k:Int):=by omega
       have HC:=qz (HGO.out j wr HB.out)
       have HNO:=qz (p2F_no (W:=W) (H:=H) (l:=zaa g) (s:=s) (n:=k) (k:=j))
       have HYE:=qz (p2F_yes (W:=W) (H:=H) (l:=zaa g) (s:=s) (n:=k) (k:=j))
       have HOE:Hid (othG W H (zaa g) s k (j+1)=if (zay W H (zaa g) s (j:Int)).2=true then othG W H (zaa g) s k j++[pthG W H (zaa g) s (othG W H (zaa g) s k j) j] else othG W H (zaa g) s k j):=by unfold Hid;rw [othG]
       have HQD:Hid (pthG W H (zaa g) s (othG W H (zaa g) s k j) j=(pathG W H (zaa g) s.bl (othG W H (zaa g) s k j) (cellR s j) (zay W H (zaa g) s (j:Int)).1).getD (restL (cellR s j))):=rfl
       have HOL:=qz (othG_len (W:=W) (H:=H) (l:=zaa g) (s:=s) k j)
       have HCE:Hid (cellR s j=(s.rs.getD j zr).a):=rfl
       obtain ⟨⟨x,bb⟩,hgl⟩:∃ G,zay W H (zaa g) s (j:Int)=G:=⟨_,rfl⟩
       rw [hgl] at HC HNO HYE HOE HQD
       simp only [] at HC HNO HYE HOE HQD
       generalize s.rs.getD j zr=r at HRC HCE
       obtain ⟨ra,rb,rc,rd,re⟩:=r
       simp only [] at HCE
       rw [HCE.out] at HQD
       clear hcs hgl
       cases bb with
       | false =>
         go_wp2_with fail
         refine HC.out.mono ?_
         rintro e wa ⟨rfl,hba⟩
         have HQ2:=qz (HQ.out.calls hba)
         have HP2:=qz ((HP.out.calls hba).to (fun i _=>HNO.out (by first|rfl|trivial) i))
         have HB4:=qz (HB.out.trans (hba.mono (by omega)))
         have hoe:=HOE.out
         rw [if_neg (by simp)] at hoe
         rw [<- hoe] at HQ2
         clear hba hoe
         go_wp2_with fail
         go_roundw
         case rel=>exact ⟨j+1,by omega,by go_num,HQ2,HP2,HB4⟩
         case measure=>simp [intOf];omega
       | true =>
         obtain ⟨q,hq⟩:∃ q,pthG W H (zaa g) s (othG W H (zaa g) s k j) j=q:=⟨_,rfl⟩
         have hoe:=HOE.out
         rw [if_pos rfl,hq] at hoe
         have hye:=HYE.out (by first|rfl|trivial)
         rw [hq] at hye
         rw [hq] at HQD
         have HYE2:=qz hye
         have hol:=HOL.out
         generalize othG W H (zaa g) s k j=ls at HQ hoe HQD hol
         have HOE2:=qz hoe
         clear hq hoe hye HYE HOE HOL
         go_wp2_with fail
         refine HC.out.mono ?_
         rintro e wa ⟨rfl,hba⟩
         have hza:=hba.size
         have HBA:=qz (HB.out.trans (hba.mono (by omega)))
         have HBWA:=qz (HB2.out.trans (HBA.out.mono (by omega)))
         have hga:=HG2.out.below HBA.out (by omega)
         have hsa:=HS2.out.below HBA.out (by omega)
         have hrc:=(HRC.out.below HBWA.out (by omega)).1
         obtain ⟨x0,x1,x2⟩:=hga
         obtain ⟨y0,y1,y2,y3⟩:=hsa
         simp only [] at y1 y3 hrc
         have hqa:=HQ.out.calls hba
         obtain ⟨av,cv,rfl,hrl⟩:=hqa.rowL
         have HQA:=qz hqa
         have HPA:=qz (HP.out.calls hba)
         have hb2:b<w.heap.size:=by omega
         have HPC:Hid (∀ V,Kept wa V->Calls Tryz.prog 51 #[zam W H g,.int .i64 ra,.int .i64 x,.slice a3 n3 c3,.slice av ls.length cv] V (fun e V'=>∃ a n c l b,e=.returned (.tuple #[.slice a n c,.bool b])/\PathOut (pathG W H (zaa g) s.bl ls ra x) l b/\OwnZ V' (w.heap.size+3) (.slice a n c) l/\Kept wa V')):=fun V hV =>
          (rpath_own W H ra x g s.bl ls a3 av n3 c3 ls.length cv wa.heap.size V HOK.out (((HIN.out.bl.mono hsB).below (HBWA.out.trans (Below.mono hV HBWA.out.size))).mono HBWA.out.size) (hrl.below hV) (Below.size hV) (by omega) (by omega)).mono fun e V' ⟨a,n,c,l,b,h1,h2,h3,h4⟩=>⟨a,n,c,l,b,h1,h2,h3.lower (by have:=Below.size hV;omega),Below.trans hV (h4.mono (Below.size hV))⟩
         have HKS:Hid (∀ V,Kept wa V->Kept wa V/\V.cell? ⟨w.heap.size,0,none⟩=some (.int .i64 W)/\V.cell? ⟨w.heap.size,1,none⟩=some (.int .i64 H)/\V.cell? ⟨w.heap.size,2,none⟩=some (.string g)/\V.cell? ⟨w.heap.size+1,1,none⟩=some (.slice (some ⟨b,off,none⟩) k c1)/\V.cell? ⟨w.heap.size+1,3,none⟩=some (.slice a3 n3 c3)/\V.cell? ⟨b,off+j*5,none⟩=some (.int .i64 ra)):=fun V hV =>
          ⟨hV,(Below.cell hV (p:=⟨w.heap.size,0,none⟩) (show w.heap.size<wa.heap.size by omega)).trans x0,(Below.cell hV (p:=⟨w.heap.size,1,none⟩) (show w.heap.size<wa.heap.size by omega)).trans x1,(Below.cell hV (p:=⟨w.heap.size,2,none⟩) (show w.heap.size<wa.heap.size by omega)).trans x2,(Below.cell hV (p:=⟨w.heap.size+1,1,none⟩) (show w.heap.size+1<wa.heap.size by omega)).trans y1,(Below.cell hV (p:=⟨w.heap.size+1,3,none⟩) (show w.heap.size+1<wa.heap.size by omega)).trans y3,(Below.cell hV (p:=⟨b,off+j*5,none⟩) (show b<wa.heap.size by omega)).trans hrc⟩
         have k0:Kept wa wa:=Kept.refl _
         clear hba g0 g1 g2 s0 s1 s2 s3 x0 x1 x2 y0 y1 y2 y3 hrc hqa hrl HQ HP
         go_wp2_with fail
         go_region_held3 (fun V=>Kept wa V/\V.cell? ⟨w.heap.size,0,none⟩=some (.int .i64 W)/\V.cell? ⟨w.heap.size,1,none⟩=some (.int .i64 H)/\V.cell? ⟨w.heap.size,2,none⟩=some (.string g)/\V.cell? ⟨w.heap.size+1,1,none⟩=some (.slice (some ⟨b,off,none⟩) k c1)/\V.cell? ⟨w.heap.size+1,3,none⟩=some (.slice a3 n3 c3)/\V.cell? ⟨b,off+j*5,none⟩=some (.int .i64 ra))
          (first|exact HKS.out _ (by assumption)|exact HKS.out _ (Kept.drew (by assumption)))
          (first|(go_at_call 51;refine (HPC.out _ (by first|exact k0|exact Kept.drew k0)).mono ?_;rintro e wb ⟨ap,np,cp,lp,bp,rfl,hop,hzp,kb⟩))
         have HKB:Hid (Below wa.heap.size wa wb):=kb
         have HQB:=qz (HQA.out.calls HKB.out)
         have HPB:=qz (HPA.out.calls HKB.out)
         have HBB:=qz (HBA.out.trans (HKB.out.mono (by omega)))
         have hzb:=HKB.out.size
         have hks:=HKS.out wb kb
         rcases hop with ⟨hpn,rfl,rfl⟩|⟨hps,rfl⟩
         · obtain ⟨_,x0,x1,x2,y1,y3,hrc⟩:=hks
           obtain rfl:q=restL ra:=by have:=HQD.out;rw [hpn] at this;exact this
           have HRE:=qz (rest_own ra wb)
           clear kb hzp hpn k0 x0 x1 x2 y3
           go_wp2_with fail
           refine HRE.out.mono ?_
           rintro e wc ⟨au,cu,rfl,hou,hbc⟩
           have hqb:=HQB.out.calls hbc
           have hpb:=HPB.out.calls hbc
           have hbb:=HBB.out.trans (hbc.mono (by omega))
           have hou:OwnZ wc (w.heap.size+3) (.slice au 7 cu) (restL ra):=hou.lower (by omega)
           have hzc:=hbc.size
           clear hbc y1 hrc
           have hlbb:=hpb.lt
           obtain ⟨u0,hcu,_⟩:=hpb.at hlt
           have hfz:=hpb.fz j
           have HPV:=qz (hpb.set hlt hou)
           have hqV:=hqb.setPaths (u:=.slice au 7 cu) (i:=j) hpb (Nat.lt_succ_self _)
           have HOV:=qz (hou.kept (hpb.ints j (.slice au 7 cu)))
           have HBV:=qz (hbb.setCell (p:=⟨w.heap.size+2,j,none⟩) (zL _) (.slice au 7 cu))
           have hnc:(wc.setCell ⟨w.heap.size+2,j,none⟩ (.slice au 7 cu)).cell? ⟨w.heap.size+2,j,none⟩=some (.slice au 7 cu):=World.cell?_setCell_same _ _ _ hcu
           have hzV:(wc.setCell ⟨w.heap.size+2,j,none⟩ (.slice au 7 cu)).heap.size=wc.heap.size:=by simp [World.setCell]
           obtain ⟨xs,h1,h2⟩:=hqV
           clear hqb hpb hou
           go_wp2_with (at_builtin;(refine wpList_append_own _ rfl (.tmp 96) (.tmp 98) 65 rfl (w.heap.size+3) 26 i1 (.slice none 0 0) 1 24 Tryz.underlying65 hi1 hy0 hy1 hy2 rfl (by decide) _ _ _ rfl (World.ownsRow.alloc h1 _) ⟨wc.heap.size,0,none⟩ 1 1 [.slice au 7 cu] rfl rfl (by rw [<- hzV];exact one_cell _ _ _) (by simp [Value.oneCell']) (by simp only [maxLen];omega) (by omega) (by first|(simp;omega)|(simp [World.setCell];omega)) ?_;intro v6 w6 hown6 hgrow6 _))
           have HQ6:=qz (OwnQ.push h1 h2 HOV.out hown6 hgrow6)
           have HP6:=qz (HPV.out.push (Nat.lt_succ_self _) h1 hgrow6)
           have HB6:=qz ((HBV.out.alloc (by omega) _).grown hgrow6 (by simp;omega) (fun k hk=>by have:=(World.ownsRow.lt h1 k hk).1;omega))
           clear hown6 hgrow6 h1 h2 hnc
           go_wp2_with fail
           go_roundw
           case rel=>exact ⟨j+1,by omega,by go_num,by rw [HOE2.out];exact HQ6.out,HP6.out.to (fun i _=>HYE2.out i),HB6.out⟩
           case measure=>simp [intOf];omega
         · obtain rfl:q=lp:=by have:=HQD.out;rw [hps] at this;exact this
           have hqb:=HQB.out
           have hpb:=HPB.out
           have hbb:=HBB.out
           have hou:=hzp
           clear kb hzp hps k0 hks
           have hlbb:=hpb.lt
           obtain ⟨u0,hcu,_⟩:=hpb.at hlt
           have hfz:=hpb.fz j
           have HPV:=qz (hpb.set hlt hou)
           have hqV:=hqb.setPaths (u:=.slice ap np cp) (i:=j) hpb (Nat.lt_succ_self _)
           have HOV:=qz (hou.kept (hpb.ints j (.slice ap np cp)))
           have HBV:=qz (hbb.setCell (p:=⟨w.heap.size+2,j,none⟩) (zL _) (.slice ap np cp))
           have hnc:(wb.setCell ⟨w.heap.size+2,j,none⟩ (.slice ap np cp)).cell? ⟨w.heap.size+2,j,none⟩=some (.slice ap np cp):=World.cell?_setCell_same _ _ _ hcu
           have hzV:(wb.setCell ⟨w.heap.size+2,j,none⟩ (.slice ap np cp)).heap.size=wb.heap.size:=by simp [World.setCell]
           obtain ⟨xs,h1,h2⟩:=hqV
           clear hqb hpb hou
           go_wp2_with (at_builtin;(refine wpList_append_own _ rfl (.tmp 96) (.tmp 98) 65 rfl (w.heap.size+3) 26 i1 (.slice none 0 0) 1 24 Tryz.underlying65 hi1 hy0 hy1 hy2 rfl (by decide) _ _ _ rfl (World.ownsRow.alloc h1 _) ⟨wb.heap.size,0,none⟩ 1 1 [.slice ap np cp] rfl rfl (by rw [<- hzV];exact one_cell _ _ _) (by simp [Value.oneCell']) (by simp only [maxLen];omega) (by omega) (by first|(simp;omega)|(simp [World.setCell];omega)) ?_;intro v6 w6 hown6 hgrow6 _))
           have HQ6:=qz (OwnQ.push h1 h2 HOV.out hown6 hgrow6)
           have HP6:=qz (HPV.out.push (Nat.lt_succ_self _) h1 hgrow6)
           have HB6:=qz ((HBV.out.alloc (by omega) _).grown hgrow6 (by simp;omega) (fun k hk=>by have:=(World.ownsRow.lt h1 k hk).1;omega))
           clear hown6 hgrow6 h1 h2 hnc
           go_wp2_with fail
           go_roundw
           case rel=>exact ⟨j+1,by omega,by go_num,by rw [HOE2.out];exact HQ6.out,HP6.out.to (fun i _=>HYE2.out i),HB6.out⟩
           case measure=>simp [intOf];omega
     · obtain rfl:j=k:=by omega
       have hres:=(HP.out.to (g:=planG W H (zaa g) s j) (fun i hi=>(p2F_end hi).symm)).rowL (by unfold maxLen;omega)
       have HRES:Hid (RowL wr wr.heap.size (some ⟨w.heap.size+2,0,none⟩) j j (plansG W H (zaa g) s j)):=hres
       have HBE:=qz (HB2.out.trans (HB.out.mono (by omega)))
       clear hres
       go_wp2_with fail
       go_ret
       exact ⟨_,_,rfl,HRES.out,HBE.out⟩
end Go.Proofs.YtknnnbpgkfaapaaGreat.Vm
