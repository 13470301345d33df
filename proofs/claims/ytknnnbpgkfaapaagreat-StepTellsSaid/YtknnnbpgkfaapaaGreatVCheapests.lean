import Derived.Test.YtknnnbpgkfaapaaGreatQ
import Derived.Test.YtknnnbpgkfaapaaGreatVTraffic
import Derived.Test.YtknnnbpgkfaapaaGreatVRefPaths
import Derived.Test.YtknnnbpgkfaapaaGreatVFars
import Derived.Test.YtknnnbpgkfaapaaGreatVRefGoes
import Derived.Deep.RegionHeld3
set_option maxRecDepth 100000
set_option linter.unusedSimpArgs false
set_option linter.unusedVariables false
namespace Go.Proofs.YtknnnbpgkfaapaaGreat.Vm
open Go Go.RowKit Go.Maps
abbrev plV (W H:Int)(s:ByteArray)(a:Option Addr)(n c cb pb mb fb:Nat):Value:=.agg #[.int .i64 W,.int .i64 H,.string s,.slice a n c,.map (some cb),.map (some pb),.map (some mb),.map (some fb)]
abbrev plO (W H:Int)(s:ByteArray)(a:Option Addr)(n c cb pb mb fb:Nat):Obj:=.cells #[.int .i64 W,.int .i64 H,.string s,.slice a n c,.map (some cb),.map (some pb),.map (some mb),.map (some fb)] 119
theorem make_setN (t:TypeId)(w:World):(Instr.makeMap t none).run Tryz.prog w=.ok (.map (some w.heap.size)) (w.alloc (.map #[] 0)):=by
 simp [Instr.makeMap,go_sem,Result.andThen]
theorem GridAt.but {lb b:Nat}{A V:World}{W H:Int}{s:ByteArray}(h:GridAt A b W H s)(hb:But lb A V)(hlt:b<A.heap.size)(hne:b≠lb):GridAt V b W H s :=
 h.same (hb.block b hlt (by intro e;injection e with e;exact hne e))
theorem zbl (w:World)(cs:Array Value)(t:TypeId){k i:Nat}(hk:k=w.heap.size){v:Value}(hv:cs[i]?=some v):(w.alloc (.cells cs t)).cell? ⟨k,i,none⟩=some v:=by
 subst hk
 have e:(w.alloc (.cells cs t)).heap[w.heap.size]?=some (.cells cs t (0,0)):=by
  show (w.heap.push _)[w.heap.size]?=_
  rw [Array.getElem?_push,if_pos rfl]
 unfold World.cell?
 rw [e]
 exact hv
theorem below_set8 {B b:Nat}{a V:World}(h:Below B a V)(hb:B<=b)(v0 v1 v2 v3 v4 v5 v6 v7:Value):Below B a ((((((((V.setCell ⟨b,0,none⟩ v0).setCell ⟨b,1,none⟩ v1).setCell ⟨b,2,none⟩ v2).setCell ⟨b,3,none⟩ v3).setCell ⟨b,4,none⟩ v4).setCell ⟨b,5,none⟩ v5).setCell ⟨b,6,none⟩ v6).setCell ⟨b,7,none⟩ v7) :=
 (((((((h.setCell (p:=⟨b,0,none⟩) hb v0).setCell (p:=⟨b,1,none⟩) hb v1).setCell (p:=⟨b,2,none⟩) hb v2).setCell (p:=⟨b,3,none⟩) hb v3).setCell (p:=⟨b,4,none⟩) hb v4).setCell (p:=⟨b,5,none⟩) hb v5).setCell (p:=⟨b,6,none⟩) hb v6).setCell (p:=⟨b,7,none⟩) hb v7
theorem heap_set8 {b k:Nat}(V:World)(hk:k≠b)(v0 v1 v2 v3 v4 v5 v6 v7:Value):((((((((V.setCell ⟨b,0,none⟩ v0).setCell ⟨b,1,none⟩ v1).setCell ⟨b,2,none⟩ v2).setCell ⟨b,3,none⟩ v3).setCell ⟨b,4,none⟩ v4).setCell ⟨b,5,none⟩ v5).setCell ⟨b,6,none⟩ v6).setCell ⟨b,7,none⟩ v7).heap[k]?=V.heap[k]?:=by
 exact (Below.heap_setCell _ ⟨b,7,none⟩ _ k hk).trans ((Below.heap_setCell _ ⟨b,6,none⟩ _ k hk).trans ((Below.heap_setCell _ ⟨b,5,none⟩ _ k hk).trans ((Below.heap_setCell _ ⟨b,4,none⟩ _ k hk).trans ((Below.heap_setCell _ ⟨b,3,none⟩ _ k hk).trans ((Below.heap_setCell _ ⟨b,2,none⟩ _ k hk).trans ((Below.heap_setCell _ ⟨b,1,none⟩ _ k hk).trans (Below.heap_setCell _ ⟨b,0,none⟩ _ k hk)))))))
set_option maxHeartbeats 1000000 in
theorem newPlanner_any (W H:Int)(s:ByteArray)(a:Option Addr)(n c B:Nat)(bl:List Int)(w:World)(h:RowZ .i64 w B a n c bl)(hB:B<=w.heap.size)(hw:WfZ bl)(hn:n<=100000) :
 Calls Tryz.prog 63 #[zam W H s,.slice a n c] w fun e w'=>∃ cb pb mb fb,e=.returned (plV W H s a n c cb pb mb fb)/\(w.heap.size<=cb/\cb<pb/\pb<mb/\mb<fb)/\ShutIn w' cb n bl/\TrafIn w' pb mb 0 []/\KIn fieldM w' fb 0 (fun _=>none)/\Below w.heap.size w w':=by
 obtain ⟨w0,hw0⟩:∃ w0,w0=(w.alloc (.cells #[.int .i64 W,.int .i64 H,.string s] 23)).alloc (.cells #[.int .i64 0,.int .i64 0,.string ⟨#[]⟩,.slice none 0 0,.map none,.map none,.map none,.map none] 119):=⟨_,rfl⟩
 have hb0:Below w.heap.size w w0:=by rw [hw0];exact ((zX _ _).alloc (zL _) _).alloc (by simp) _
 have hz0:w0.heap.size=w.heap.size+2:=by rw [hw0];simp
 have g0:GridAt w0 w.heap.size W H s:=by
  rw [hw0]
  exact (zbq w W H s).below ((zX _ _).alloc (zL _) _) (by simp)
 have f0:∀ i,w0.frozen? ⟨w.heap.size+1,i,none⟩=false:=fun i=>by rw [hw0];simp
 have z0:∀ i,i<8->w0.cell? ⟨w.heap.size+1,i,none⟩=some (#[Value.int .i64 0,.int .i64 0,.string ⟨#[]⟩,.slice none 0 0,.map none,.map none,.map none,.map none].getD i (.int .i64 0)):=fun i hi=>by
  rw [hw0]
  have hX:(w.alloc (.cells #[.int .i64 W,.int .i64 H,.string s] 23)).heap.size=w.heap.size+1:=by simp
  rw [<- hX]
  match i,hi with
  | 0,_=>simp
  | 1,_=>simp
  | 2,_=>simp
  | 3,_=>simp
  | 4,_=>simp
  | 5,_=>simp
  | 6,_=>simp
  | 7,_=>simp
 have hmm:=make_setI n w0
 have hb1:Below w.heap.size w (w0.alloc (.map #[] 0)):=hb0.alloc hb0.size _
 have hs1:ShutIn (w0.alloc (.map #[] 0)) (w.heap.size+2) 0 (bl.take 0):=by
  have:=World.ownsMap_made w0 Tryz.prog 3 (unitElem (H:=Unit))
  rw [hz0] at this
  exact this
 have hz1:(w0.alloc (.map #[] 0)).heap.size=w.heap.size+3:=by simp [hz0]
 have hbb1:Below (w.heap.size+2) w0 (w0.alloc (.map #[] 0)):=(zX _ _).alloc (by omega) _
 rw [hz0,hw0] at hmm
 rw [hw0] at hs1 hb1 hz1 hbb1
 generalize hW1:((w.alloc (.cells #[.int .i64 W,.int .i64 H,.string s] 23)).alloc (.cells #[.int .i64 0,.int .i64 0,.string ⟨#[]⟩,.slice none 0 0,.map none,.map none,.map none,.map none] 119)).alloc (.map #[] 0)=w1 at hmm hs1 hb1 hz1 hbb1
 rw [<- hw0] at hbb1
 have hl:=h.1
 have HCS:=qz (fun h'=>h.cells h')
 have hc1:=h.2.1
 have HW:=qz hw
 have HB1:=qz hb1
 have HS1:=qz hs1
 have HBB:=qz hbb1
 have HG0:=qz (g0.below hbb1 (by omega))
 have HF0:=qz fun i=>(hbb1.frozen (p:=⟨w.heap.size+1,i,none⟩) (by simp)).trans (f0 i)
 have HC0:=qz fun i (hi:i<8)=>(hbb1.cell (p:=⟨w.heap.size+1,i,none⟩) (by simp)).trans (z0 i hi)
 clear hw h hb0 hw0 hb1 hs1 hbb1 g0 f0 hW1 hz0 z0
 go_enter Tryz.func63,Tryz.ntmps63
 go_wp2_with fail
 clear hmm
 go_loopw [14] (fun i wr=>∃ k:Nat,k<=n/\i=.int .i64 k/\Hid (ShutIn wr (w.heap.size+2) k (bl.take k))/\Hid (But (w.heap.size+2) w1 wr)) (fun i _=>n-(intOf i).toNat)
 case atStart=>exact ⟨0,Nat.zero_le _,rfl,HS1.out,But.refl _ _⟩
 case round =>
  obtain ⟨k,hk,rfl,HM,HBU⟩:=hrel
  have hbel:=HB1.out.trans (HBU.out.below (B:=w.heap.size) (by omega) (by omega))
  by_cases hlt:k<n
  · obtain ⟨b,off,rfl,hb,hcs⟩:=HCS.out (by omega)
    have hcell:=(hbel.cell (p:=⟨b,off+k,none⟩) (show b<w.heap.size by omega)).trans (hcs k hlt)
    obtain ⟨w2,hrun,hm1,hg1⟩:=HM.out.put (by omega) (by omega) (HW.out.at k (by omega))
    have HM1:=qz hm1
    have HBU1:=qz (HBU.out.trans hg1)
    generalize bl.getD k 0=z at hcell hrun
    clear hcs hm1 hg1 hbel
    go_wp2_with fail
    go_roundw
    case rel=>exact ⟨k+1,by omega,by go_num,HM1.out,HBU1.out⟩
    case measure=>simp [intOf];omega
  · obtain rfl:k=n:=by omega
    have HM2:=HM.out
    rw [List.take_of_length_le (by omega)] at HM2
    have HMM:=qz HM2
    have hsz:=HBU.out.size
    have hbg:=HG0.out
    have m1:(Instr.makeMap 114 none).run Tryz.prog wr=.ok (.map (some wr.heap.size)) (wr.alloc (.map #[] 0)):=make_setN _ wr
    have m2:(Instr.makeMap 115 none).run Tryz.prog (wr.alloc (.map #[] 0))=.ok (.map (some (wr.heap.size+1))) ((wr.alloc (.map #[] 0)).alloc (.map #[] 0)):=by
     have:=make_setN 115 (wr.alloc (.map #[] 0))
     rw [show (wr.alloc (.map #[] 0)).heap.size=wr.heap.size+1 by simp] at this
     exact this
    obtain ⟨g0,g1,g2⟩:=HG0.out.but (lb:=w.heap.size+2) HBU.out (by omega) (by omega)
    have hf0:∀ i,wr.frozen? ⟨w.heap.size+1,i,none⟩=false:=fun i=>(World.frozen?_of_block (HBU.out.block (w.heap.size+1) (by omega) (by intro e;injection e with e;omega))).trans (HF0.out i)
    have hc0:Hid (∀ i,i<8->wr.cell? ⟨w.heap.size+1,i,none⟩=some (#[Value.int .i64 0,.int .i64 0,.string ⟨#[]⟩,.slice none 0 0,.map none,.map none,.map none,.map none].getD i (.int .i64 0))):=fun i hi =>
     (World.cell?_of_block (HBU.out.block (w.heap.size+1) (by omega) (by intro e;injection e with e;omega))).trans (HC0.out i hi)
    obtain ⟨V,hV⟩:∃ V,V=((wr.alloc (.map #[] 0)).alloc (.map #[] 0)).alloc (.cells #[.map (some wr.heap.size),.map (some (wr.heap.size+1))] 117):=⟨_,rfl⟩
    have hbV:Below wr.heap.size wr V:=by rw [hV];exact (((zX _ _).alloc (zL _) _).alloc (by simp) _).alloc (by simp;omega) _
    have hzV:V.heap.size=wr.heap.size+3:=by rw [hV];simp
    have HP0:Hid (KIn placeM V wr.heap.size 0 (plF [])):=by
     have:=kIn_new placeM wr (f:=plF []) plF_nil
     refine KIn.keep this ?_
     rw [hV]
     have h1:wr.heap.size<(wr.alloc (.map #[] 0)).heap.size:=by simp
     rw [Below.heap_alloc _ _ _ (by simp;omega),Below.heap_alloc _ _ _ h1]
    have HM0:Hid (KIn stepM V (wr.heap.size+1) 0 (mvF [])):=by
     have:=kIn_new stepM (wr.alloc (.map #[] 0)) (f:=mvF []) mvF_nil
     rw [show (wr.alloc (.map #[] 0)).heap.size=wr.heap.size+1 by simp] at this
     refine KIn.keep this ?_
     rw [hV]
     rw [Below.heap_alloc _ _ _ (by simp)]
    have hF0:=kIn_new fieldM V (f:=fun _=>none) (fun _=>rfl)
    have m3:=make_setN 109 V
    have k0:=(hbV.cell (p:=⟨w.heap.size,0,none⟩) (show w.heap.size<wr.heap.size by omega)).trans g0
    have k1:=(hbV.cell (p:=⟨w.heap.size,1,none⟩) (show w.heap.size<wr.heap.size by omega)).trans g1
    have k2:=(hbV.cell (p:=⟨w.heap.size,2,none⟩) (show w.heap.size<wr.heap.size by omega)).trans g2
    have t0:V.cell? ⟨wr.heap.size+1+1,0,none⟩=some (.map (some wr.heap.size)):=by rw [hV];exact zbl _ _ _ (by simp) rfl
    have t1:V.cell? ⟨wr.heap.size+1+1,1,none⟩=some (.map (some (wr.heap.size+1))):=by rw [hV];exact zbl _ _ _ (by simp) rfl
    have hfV:∀ i,(V.alloc (.map #[] 0)).frozen? ⟨w.heap.size+1,i,none⟩=false:=fun i=>by
     rw [((zX V.heap.size V).alloc (zL _) (.map #[] 0)).frozen (p:=⟨w.heap.size+1,i,none⟩) (show w.heap.size+1<V.heap.size by omega)]
     rw [hbV.frozen (p:=⟨w.heap.size+1,i,none⟩) (show w.heap.size+1<wr.heap.size by omega)]
     exact hf0 i
    have hcV:∀ i,(V.alloc (.map #[] 0)).cell? ⟨w.heap.size+1,i,none⟩=wr.cell? ⟨w.heap.size+1,i,none⟩:=fun i=>by
     rw [((zX V.heap.size V).alloc (zL _) (.map #[] 0)).cell (p:=⟨w.heap.size+1,i,none⟩) (show w.heap.size+1<V.heap.size by omega)]
     exact hbV.cell (p:=⟨w.heap.size+1,i,none⟩) (show w.heap.size+1<wr.heap.size by omega)
    have z0:=(hcV 0).trans (hc0.out 0 (by omega))
    have z1:=(hcV 1).trans (hc0.out 1 (by omega))
    have z2:=(hcV 2).trans (hc0.out 2 (by omega))
    have z3:=(hcV 3).trans (hc0.out 3 (by omega))
    have z4:=(hcV 4).trans (hc0.out 4 (by omega))
    have z5:=(hcV 5).trans (hc0.out 5 (by omega))
    have z6:=(hcV 6).trans (hc0.out 6 (by omega))
    have z7:=(hcV 7).trans (hc0.out 7 (by omega))
    have HFIN:Hid (KIn fieldM (V.alloc (.map #[] 0)) (wr.heap.size+3) 0 (fun _=>none)):=by unfold Hid;rw [<- hzV];exact hF0
    have HBV:=qz hbV
    have HZV:=qz hzV
    rw [hzV] at m3
    rw [hV] at m3 k0 k1 k2 t0 t1 hfV z0 z1 z2 z3 z4 z5 z6 z7
    have HV:=qz hV
    clear hF0 hbV hzV hcV
    clear hV hf0 hbg
    go_wp2_with fail
    refine bodyPost_ret (v:=plV W H s a k c (w.heap.size+2) wr.heap.size (wr.heap.size+1) (wr.heap.size+3)) (by simp [results,Tryz.results63,go_sem,z0,z1,z2,z3,z4,z5,z6,z7]) rfl ⟨_,_,_,_,rfl,⟨by omega,by omega,by omega,by omega⟩,?_,⟨?_,?_,by omega⟩,?_,?_⟩
    all_goals rw [<- HV.out]
    · exact HMM.out.keep ((heap_set8 _ (by omega) _ _ _ _ _ _ _ _).trans ((Below.heap_alloc _ _ _ (by have:=HZV.out;omega)).trans (HBV.out.block _ (by omega))))
    · exact HP0.out.keep ((heap_set8 _ (by omega) _ _ _ _ _ _ _ _).trans (Below.heap_alloc _ _ _ (by have:=HZV.out;omega)))
    · exact HM0.out.keep ((heap_set8 _ (by omega) _ _ _ _ _ _ _ _).trans (Below.heap_alloc _ _ _ (by have:=HZV.out;omega)))
    · exact HFIN.out.keep (heap_set8 _ (by omega) _ _ _ _ _ _ _ _)
    · exact below_set8 ((hbel.trans (HBV.out.mono (by omega))).alloc (by have:=HZV.out;omega) _) (by omega) _ _ _ _ _ _ _ _
end Go.Proofs.YtknnnbpgkfaapaaGreat.Vm
namespace Go.Proofs.YtknnnbpgkfaapaaGreat.Vm
open Go Go.RowKit Go.Maps
def FldIn (w:World)(fb n:Nat)(W H:Int)(s:ByteArray)(bl:List Int):Prop :=
 ∃ f:Int->Option (Nat × Nat),KIn fieldM w fb n f/\∀ z,wfI z->∀ r,f z=some r->zac (zaa s) z=true/\r.2=s.size/\RowZ .i64 w w.heap.size (some ⟨r.1,0,none⟩) s.size s.size (fieldG W H (zaa s) bl z)
section
variable {w w':World} {fb n:Nat} {W H:Int} {s:ByteArray} {bl:List Int}
theorem FldIn.isMap (h:FldIn w fb n W H s bl):MapAt w fb:=by obtain ⟨f,h,_⟩:=h;exact h.isMap
theorem FldIn.lt (h:FldIn w fb n W H s bl):fb<w.heap.size:=by obtain ⟨f,h,_⟩:=h;exact h.lt
theorem FldIn.less {m:Nat}(h:FldIn w fb n W H s bl)(hm:n<=m):FldIn w fb m W H s bl:=by obtain ⟨f,h,h'⟩:=h;exact ⟨f,h.less hm,h'⟩
theorem FldIn.alt {S:Nat->Prop}(h:FldIn w fb n W H s bl)(hA:Alt S w w')(hS:∀ k,S k->MapAt w k)(hne:¬ S fb):FldIn w' fb n W H s bl:=by
 obtain ⟨f,h1,h2⟩:=h
 refine ⟨f,h1.keep (hA.block _ h1.lt hne),fun z hz r hr=>?_⟩
 obtain ⟨h3,h4,h5⟩:=h2 z hz r hr
 exact ⟨h3,h4,(hA.rowZ hS h5).mono hA.size⟩
theorem FldIn.calls (h:FldIn w fb n W H s bl)(hb:Below w.heap.size w w'):FldIn w' fb n W H s bl:=h.alt (S:=fun _=>False) (.ofBelow hb) (fun _ h=>h.elim) (fun h=>h)
theorem fldIn_new (h:KIn fieldM w fb n (fun _=>none)):FldIn w fb n W H s bl:=⟨_,h,fun z _ r hr=>by cases hr⟩
end
set_option maxHeartbeats 1000000 in
theorem plField_any (W H to:Int)(s:ByteArray)(a:Option Addr)(n c cb pb mb fb m B:Nat)(bl:List Int)(w:World)(hok:Okay W H s)(hr:RowZ .i64 w B a n c bl)(hB:B<=w.heap.size)(hw:WfZ bl)(hn:n<=100000)(hF:FldIn w fb m W H s bl)(hm:m<=1000000)(hto:wfI to) :
 Calls Tryz.prog 90 #[plV W H s a n c cb pb mb fb,.int .i64 to] w fun e w' =>
  ((zac (zaa s) to=false/\e=.returned (.tuple #[.slice none 0 0,.bool false]))\/(zac (zaa s) to=true/\∃ lb,e=.returned (.tuple #[.slice (some ⟨lb,0,none⟩) s.size s.size,.bool true])/\RowZ .i64 w' w'.heap.size (some ⟨lb,0,none⟩) s.size s.size (fieldG W H (zaa s) bl to))) /\
    FldIn w' fb (m+1) W H s bl/\Alt (fun k=>k=fb) w w':=by
 obtain ⟨w0,hw0⟩:∃ w0,w0=w.alloc (plO W H s a n c cb pb mb fb):=⟨_,rfl⟩
 have hb0:Below w.heap.size w w0:=by rw [hw0];exact (zX _ _).alloc (zL _) _
 have hz0:w0.heap.size=w.heap.size+1:=by rw [hw0];simp
 have q0:w0.cell? ⟨w.heap.size,0,none⟩=some (.int .i64 W):=by rw [hw0];exact zbl _ _ _ rfl rfl
 have q1:w0.cell? ⟨w.heap.size,1,none⟩=some (.int .i64 H):=by rw [hw0];exact zbl _ _ _ rfl rfl
 have q2:w0.cell? ⟨w.heap.size,2,none⟩=some (.string s):=by rw [hw0];exact zbl _ _ _ rfl rfl
 have q3:w0.cell? ⟨w.heap.size,3,none⟩=some (.slice a n c):=by rw [hw0];exact zbl _ _ _ rfl rfl
 have q7:w0.cell? ⟨w.heap.size,7,none⟩=some (.map (some fb)):=by rw [hw0];exact zbl _ _ _ rfl rfl
 have hF0:=hF.calls hb0
 have hF0c:=hF0
 obtain ⟨f,hK,hAll⟩:=hF0c
 have hlook:(Instr.lookup 109 (.map (some fb)) (.int .i64 to) true).run Tryz.prog w0=.ok (.tuple #[fieldM.at (f to),.bool (f to).isSome]) w0:=hK.look fieldL hto
 have hfb:fb<w.heap.size:=hF.lt
 have HB0:=qz hb0
 have HF0:=qz hF0
 cases hft:f to with
 | some r =>
   obtain ⟨e1,e2,e3⟩:=hAll to hto r hft
   obtain ⟨rb,rn⟩:=r
   simp only [] at e2
   subst e2
   have HY:Hid (zac (zaa s) to=true):=e1
   have HR:=qz e3
   rw [hft] at hlook
   have hlook:(Instr.lookup 109 (.map (some fb)) (.int .i64 to) true).run Tryz.prog w0=.ok (.tuple #[.slice (some ⟨rb,0,none⟩) s.size s.size,.bool true]) w0:=hlook
   rw [hw0] at hlook q7
   have HW0:=qz hw0
   clear e1 e3 hft hAll hK hF hF0 hb0 hw0
   go_enter Tryz.func90,Tryz.ntmps90
   go_wp2_with fail
   go_ret2
   rw [<- HW0.out]
   exact ⟨.inr ⟨HY.out,_,rfl,HR.out⟩,HF0.out.less (by omega),.ofBelow HB0.out⟩
 | none =>
   rw [hft] at hlook
   have hlook:(Instr.lookup 109 (.map (some fb)) (.int .i64 to) true).run Tryz.prog w0=.ok (.tuple #[.slice none 0 0,.bool false]) w0:=hlook
   have hle:=hok.le
   have HW0:=qz hw0
   cases hfl:zac (zaa s) to with
   | false =>
     have HC:=qz (field_no W H to s a n c w0 (by unfold maxLen;omega) hfl)
     have HY:Hid (zac (zaa s) to=false):=hfl
     rw [hw0] at hlook q0 q1 q2 q3 q7
     clear hft hAll hK hF hF0 hb0 hfl hw0
     go_enter Tryz.func90,Tryz.ntmps90
     go_wp2_with fail
     rw [<- HW0.out]
     refine HC.out.mono ?_
     rintro e w1 ⟨rfl,hb1⟩
     have HB1:=qz hb1
     clear hb1
     go_wp2_with fail
     go_ret2
     exact ⟨.inl ⟨by first|rfl|trivial,rfl⟩,(HF0.out.calls HB1.out).less (by omega),.ofBelow (HB0.out.trans (HB1.out.mono HB0.out.size))⟩
   | true =>
     have hin:=zaq hfl
     obtain ⟨t,rfl⟩:=Int.eq_ofNat_of_zero_le hin.1
     have HC:=qz (field_yes W H t s bl a n c B w0 hok hfl (hr.below (hb0.mono hB)) (Nat.le_trans hB hb0.size) hw (by omega))
     have HY:Hid (zac (zaa s) (t:Int)=true):=hfl
     have HQ7:=qz q7
     have HTO:=qz hto
     have HK:=qz hK
     have HAll:=qz hAll
     rw [hw0] at hlook q0 q1 q2 q3 q7
     clear hft hAll hK hF hF0 hb0 hfl hin hw0
     go_enter Tryz.func90,Tryz.ntmps90
     go_wp2_with fail
     rw [<- HW0.out]
     refine HC.out.mono ?_
     rintro e w1 ⟨lb,l,rfl,hfd,hnum,hb1⟩
     have hll:l.length=s.size:=hfd.1
     have HL:Hid (l=fieldG W H (zaa s) bl (t:Int)):=IsField.only (N:=s.size) hfd (by have:=fieldG_is W H (zaa s) bl (t:Int);rw [zag,Int.toNat_natCast] at this;exact this)
     have hrow:=hnum.row
     rw [hll] at hrow
     obtain ⟨w2,hrun,hK2,hg2,hz2⟩:=(HK.out.keep (hb1.block fb (by omega))).put fieldL (a:=(t:Int)) (b:=(lb,s.size)) (by omega) HTO.out trivial
     have hrun:(Instr.mapUpdate 109 (.map (some fb)) (.int .i64 (t:Nat)) (.slice (some ⟨lb,0,none⟩) s.size s.size)).run Tryz.prog w1=.ok () w2:=hrun
     have hc7:=(hb1.cell (p:=⟨w.heap.size,7,none⟩) (show w.heap.size<w0.heap.size by omega)).trans HQ7.out
     have hA1:Alt (fun k=>k=fb) w0 w1:=.ofBelow hb1
     have hA2:Alt (fun k=>k=fb) w1 w2:=(Alt.refl _ w1).grown hg2 (fun _=>rfl)
     have hS1:∀ k,(fun k=>k=fb) k->MapAt w1 k:=fun k hk=>by
      have hk:k=fb:=hk
      subst hk
      exact (HK.out.keep (hb1.block k (by omega))).isMap
     have HROW:=qz ((hA2.rowZ hS1 hrow).mono hA2.size)
     have HFF:Hid (FldIn w2 fb (m+1) W H s bl):=by
      refine ⟨_,hK2,fun z hz r hr=>?_⟩
      by_cases e:z=(t:Int)
      · subst e
        rw [if_pos rfl] at hr
        injection hr with hr
        subst hr
        exact ⟨HY.out,rfl,by rw [<- HL.out];exact HROW.out⟩
      · rw [if_neg e] at hr
        obtain ⟨h3,h4,h5⟩:=HAll.out z hz r hr
        exact ⟨h3,h4,(hA2.rowZ hS1 ((h5.below hb1).mono hb1.size)).mono hA2.size⟩
     have HAF:=qz (((Alt.ofBelow HB0.out).trans hA1 (fun k hk _=>hk)).trans hA2 (fun k hk _=>hk))
     clear hfd hnum hb1 hK2 hg2 hA1 hA2 hrow hS1
     go_wp2_with fail
     go_ret2
     exact ⟨.inr ⟨by first|rfl|trivial,_,rfl,by rw [<- HL.out];exact HROW.out⟩,HFF.out,HAF.out⟩
set_option maxHeartbeats 1000000 in
theorem forget_any (W H to:Int)(s:ByteArray)(a:Option Addr)(n c cb pb mb fb m:Nat)(bl:List Int)(w:World)(hF:FldIn w fb m W H s bl)(hto:wfI to) :
 Calls Tryz.prog 68 #[plV W H s a n c cb pb mb fb,.int .i64 to] w fun e w'=>e=.returned (.tuple #[])/\FldIn w' fb m W H s bl/\Alt (fun k=>k=fb) w w':=by
 obtain ⟨w0,hw0⟩:∃ w0,w0=w.alloc (plO W H s a n c cb pb mb fb):=⟨_,rfl⟩
 have hb0:Below w.heap.size w w0:=by rw [hw0];exact (zX _ _).alloc (zL _) _
 have q7:w0.cell? ⟨w.heap.size,7,none⟩=some (.map (some fb)):=by rw [hw0];exact zbl _ _ _ rfl rfl
 obtain ⟨f,hK,hAll⟩:=hF.calls hb0
 obtain ⟨w2,hrun,hK2,hg2,hz2⟩:=hK.drop fieldL 0 hto
 have hrun:(Builtin.delete_ #[109,3] 0 #[.map (some fb),.int .i64 to]).run Tryz.prog w0=.ok (.tuple #[]) w2:=hrun
 have hA2:Alt (fun k=>k=fb) w0 w2:=(Alt.refl _ w0).grown hg2 (fun _=>rfl)
 have hS1:∀ k,(fun k=>k=fb) k->MapAt w0 k:=fun k hk=>by
  have hk:k=fb:=hk
  subst hk
  exact hK.isMap
 have HFF:Hid (FldIn w2 fb m W H s bl):=by
  refine ⟨_,hK2,fun z hz r hr=>?_⟩
  by_cases e:z=to
  · rw [if_pos e] at hr;cases hr
  · rw [if_neg e] at hr
    obtain ⟨h3,h4,h5⟩:=hAll z hz r hr
    exact ⟨h3,h4,(hA2.rowZ hS1 h5).mono hA2.size⟩
 have HAF:=qz ((Alt.ofBelow hb0).trans hA2 (fun k hk _=>hk))
 rw [hw0] at hrun q7
 clear hK hAll hK2 hg2 hA2 hS1 hw0 hb0 hF
 go_enter Tryz.func68,Tryz.ntmps68
 go_wp2_with fail
 go_end0
 exact ⟨rfl,HFF.out,HAF.out⟩
end Go.Proofs.YtknnnbpgkfaapaaGreat.Vm
namespace Go.Proofs.YtknnnbpgkfaapaaGreat.Vm
open Go Go.RowKit Go.Maps
abbrev srV (W H:Int)(s:ByteArray)(a:Option Addr)(n c cb pb mb fb lb kb:Nat):Value:=.agg #[.int .i64 W,.int .i64 H,.string s,.slice a n c,.map (some cb),.map (some pb),.map (some mb),.map (some fb),.slice (some ⟨lb,0,none⟩) s.size s.size,.map (some kb)]
abbrev srO (W H:Int)(s:ByteArray)(a:Option Addr)(n c cb pb mb fb lb kb:Nat):Obj:=.cells #[.int .i64 W,.int .i64 H,.string s,.slice a n c,.map (some cb),.map (some pb),.map (some mb),.map (some fb),.slice (some ⟨lb,0,none⟩) s.size s.size,.map (some kb)] 150
abbrev atV (p:Nat)(x:Int):Value:=.agg #[.int .i64 (p:Int),.int .i64 x]
abbrev atO (p:Nat)(x:Int):Obj:=.cells #[.int .i64 (p:Int),.int .i64 x] 144
theorem ShutIn.keepB {w w':World}{mb m:Nat}{bl:List Int}(h:ShutIn w mb m bl)(hb:Below w.heap.size w w'):ShutIn w' mb m bl:=h.keep (hb.block _ h.lt)
set_option maxHeartbeats 1000000 in
theorem permits_any (W H:Int)(s:ByteArray)(a:Option Addr)(n c cb pb mb fb lb kb m nt p:Nat)(bl:List Int)(oth:List (List Int))(f t:Int)(w:World)(hS:ShutIn w cb m bl)(hT:TrafIn w pb mb nt oth)(hp:p<=5)(hf:wfI f)(ht:wfI t) :
 Calls Tryz.prog 140 #[srV W H s a n c cb pb mb fb lb kb,atV p f,.int .i64 t] w fun e w'=>e=.returned (.bool (decide (MayP bl oth p f t)))/\Below w.heap.size w w':=by
 obtain ⟨w0,hw0⟩:∃ w0,w0=(w.alloc (srO W H s a n c cb pb mb fb lb kb)).alloc (atO p f):=⟨_,rfl⟩
 have hb0:Below w.heap.size w w0:=by rw [hw0];exact ((zX _ _).alloc (zL _) _).alloc (by simp) _
 have hz0:w0.heap.size=w.heap.size+2:=by rw [hw0];simp
 obtain ⟨w1,hw1⟩:∃ w1,w1=w0.alloc (.cells #[] 99):=⟨_,rfl⟩
 have hb1:Below w0.heap.size w0 w1:=by rw [hw1];exact (zX _ _).alloc (zL _) _
 have hcell:∀ i v,(#[.int .i64 W,.int .i64 H,.string s,.slice a n c,.map (some cb),.map (some pb),.map (some mb),.map (some fb),.slice (some ⟨lb,0,none⟩) s.size s.size,.map (some kb)]:Array Value)[i]?=some v->w0.cell? ⟨w.heap.size,i,none⟩=some v:=fun i v hv=>by
  rw [hw0]
  exact (Below.cell ((zX (w.heap.size+1) (w.alloc (srO W H s a n c cb pb mb fb lb kb))).alloc (by simp) _) (p:=⟨w.heap.size,i,none⟩) (by simp)).trans (zbl _ _ _ rfl hv)
 have hat:∀ i v,(#[.int .i64 (p:Int),.int .i64 f]:Array Value)[i]?=some v->w0.cell? ⟨w.heap.size+1,i,none⟩=some v:=fun i v hv=>by
  rw [hw0];exact zbl _ _ _ (by simp) hv
 have q4:=hcell 4 _ rfl
 have a0:=hat 0 _ rfl
 have a1:=hat 1 _ rfl
 have q5:=(hb1.cell (p:=⟨w.heap.size,5,none⟩) (show w.heap.size<w0.heap.size by omega)).trans (hcell 5 _ rfl)
 have q6:=(hb1.cell (p:=⟨w.heap.size,6,none⟩) (show w.heap.size<w0.heap.size by omega)).trans (hcell 6 _ rfl)
 have b0:=(hb1.cell (p:=⟨w.heap.size+1,0,none⟩) (show w.heap.size+1<w0.heap.size by omega)).trans a0
 have b1:=(hb1.cell (p:=⟨w.heap.size+1,1,none⟩) (show w.heap.size+1<w0.heap.size by omega)).trans a1
 have hlook:=(hS.keepB hb0).look (z:=t) ht
 have HL:=qz (lets_tr w1 pb mb nt p oth f t (hT.calls (hb0.trans (hb1.mono hb0.size))) hp hf ht)
 have HW1:=qz (show w1=((w.alloc (srO W H s a n c cb pb mb fb lb kb)).alloc (atO p f)).alloc (.cells #[] 99) by rw [hw1,hw0])
 have HB1:=qz (hb0.trans (hb1.mono hb0.size))
 have HLM:=qz (lets_may (oth:=oth) hp f t)
 rw [hw0] at q4 a0 a1 hlook
 rw [hw1,hw0] at b0 b1 q5 q6
 clear hcell hat hb0 hb1 hz0 hw0 hw1 hS hT hf ht
 by_cases hin:t∈bl
 · rw [decide_eq_true hin] at hlook
   by_cases hft:t=f
   · have e1:(t != f)=false:=by simpa using hft
     have HE:Hid (decide (MayP bl oth p f t)=letsP oth p f t):=by
      unfold Hid
      cases hl:letsP oth p f t with
      | true=>exact decide_eq_true ⟨fun _=>hft.symm,HLM.out.1 hl⟩
      | false=>exact decide_eq_false fun h=>by rw [HLM.out.2 h.2] at hl;cases hl
     clear hin hft
     go_enter Tryz.func140,Tryz.ntmps140
     go_wp2_with fail
     rw [<- HW1.out]
     refine HL.out.mono ?_
     rintro e w2 ⟨rfl,hb2⟩
     have HB2:=qz (HB1.out.trans (hb2.mono HB1.out.size))
     clear hb2
     go_wp2_with fail
     go_ret
     exact ⟨zad HE.out.symm,HB2.out⟩
   · have e1:(t != f)=true:=by rw [bne_iff_ne];exact hft
     have HE:Hid (decide (MayP bl oth p f t)=false):=decide_eq_false fun h=>hft (h.1 hin).symm
     clear hin hft HL
     go_enter Tryz.func140,Tryz.ntmps140
     go_wp2_with fail
     go_ret
     rw [<- HW1.out]
     exact ⟨zad HE.out.symm,HB1.out⟩
 · rw [decide_eq_false hin] at hlook
   have HE:Hid (decide (MayP bl oth p f t)=letsP oth p f t):=by
    unfold Hid
    cases hl:letsP oth p f t with
    | true=>exact decide_eq_true ⟨fun h=>absurd h hin,HLM.out.1 hl⟩
    | false=>exact decide_eq_false fun h=>by rw [HLM.out.2 h.2] at hl;cases hl
   clear hin
   go_enter Tryz.func140,Tryz.ntmps140
   go_wp2_with fail
   rw [<- HW1.out]
   refine HL.out.mono ?_
   rintro e w2 ⟨rfl,hb2⟩
   have HB2:=qz (HB1.out.trans (hb2.mono HB1.out.size))
   clear hb2
   go_wp2_with fail
   go_ret
   exact ⟨zad HE.out.symm,HB2.out⟩
set_option maxHeartbeats 1000000 in
theorem cost_any (W H:Int)(s:ByteArray)(a:Option Addr)(n c cb pb mb fb lb kb B:Nat)(far:List Int)(t:Int)(w:World)(hr:RowZ .i64 w B (some ⟨lb,0,none⟩) s.size s.size far)(hB:B<=w.heap.size)(ht:0<=t/\t<s.size) :
 Calls Tryz.prog 141 #[srV W H s a n c cb pb mb fb lb kb,.int .i64 t] w fun e w'=>e=.returned (.int .i64 (costP far t))/\Below w.heap.size w w':=by
 obtain ⟨t,rfl⟩:=Int.eq_ofNat_of_zero_le ht.1
 obtain ⟨w0,hw0⟩:∃ w0,w0=w.alloc (srO W H s a n c cb pb mb fb lb kb):=⟨_,rfl⟩
 have hb0:Below w.heap.size w w0:=by rw [hw0];exact (zX _ _).alloc (zL _) _
 have q8:w0.cell? ⟨w.heap.size,8,none⟩=some (.slice (some ⟨lb,0,none⟩) s.size s.size):=by rw [hw0];exact zbl _ _ _ rfl rfl
 obtain ⟨b,off,e,hlt,hcs⟩:=(hr.below (hb0.mono hB)).cells (by omega)
 injection e with e
 injection e with e1 e2 _
 subst e1 e2
 have hc:=hcs t (by omega)
 have ht2:t<s.size:=by omega
 have hm:=hr.2.2.1
 rw [Nat.zero_add] at hc
 have HB0:=qz hb0
 have HW0:=qz hw0
 generalize hz:far.getD t 0=z at hc
 have HE:Hid (costP far (t:Int)=if 0<=z then z else 1000000):=by
  unfold Hid costP
  rw [Int.toNat_natCast,hz]
  by_cases h:z<0
  · rw [if_pos h,if_neg (by omega)]
  · rw [if_neg h,if_pos (by omega)]
 rw [hw0] at hc q8
 clear hcs hr hb0 hz hw0 ht
 by_cases hz0:0<=z
 · have e0:decide (z>=0)=true:=decide_eq_true hz0
   rw [if_pos hz0] at HE
   go_enter Tryz.func141,Tryz.ntmps141
   go_wp2_with fail
   go_ret
   rw [<- HW0.out]
   exact ⟨ret_int HE.out.symm,HB0.out⟩
 · have e0:decide (z>=0)=false:=decide_eq_false hz0
   rw [if_neg hz0] at HE
   go_enter Tryz.func141,Tryz.ntmps141
   go_wp2_with fail
   go_ret
   rw [<- HW0.out]
   exact ⟨ret_int HE.out.symm,HB0.out⟩
end Go.Proofs.YtknnnbpgkfaapaaGreat.Vm
namespace Go.Proofs.YtknnnbpgkfaapaaGreat.Vm
open Go Go.RowKit Go.Maps
def rstOf:Option (List Int × Int)->Bool × Int × Int
 | none=>(false,0,0)
 | some x=>(true,x.1.headD 0,x.2)
def betterR (b c:Bool × Int × Int):Bool × Int × Int:=if (c.1 && (!b.1 || decide (c.2.2<b.2.2)))=true then c else b
theorem rstOf_better (x y:Option (List Int × Int)):rstOf (betterP x y)=betterR (rstOf x) (rstOf y):=by
 cases y with
 | none=>rfl
 | some y=>cases x with
   | none=>rfl
   | some x =>
     unfold betterP betterR rstOf
     by_cases h:y.2<x.2
     · simp [h]
     · simp [h]
def thruP (W H:Int)(cells:List Nat)(far bl:List Int)(oth:List (List Int))(k:Nat)(c t:Int):Option (List Int × Int) :=
 if MayP bl oth (5-k) c t then (pathS W H cells far bl oth k t).map fun x=>(t :: x.1,x.2+costP far t) else none
theorem candP_thru {W H:Int}{cells:List Nat}{far bl:List Int}{oth:List (List Int)}{k way:Nat}{c:Int}(h:(zak W H cells c (way:Nat)).2=true):zce W H cells far bl oth k c way=thruP W H cells far bl oth k c (zak W H cells c (way:Nat)).1:=by
 unfold zce thruP
 by_cases hm:MayP bl oth (5-k) c (zak W H cells c (way:Nat)).1
 · rw [if_pos ⟨h,hm⟩,if_pos hm]
 · rw [if_neg (fun h'=>hm h'.2),if_neg hm]
theorem candP_not {W H:Int}{cells:List Nat}{far bl:List Int}{oth:List (List Int)}{k way:Nat}{c:Int}(h:(zak W H cells c (way:Nat)).2=false):zce W H cells far bl oth k c way=none:=by
 unfold zce
 rw [if_neg (fun h'=>by rw [h] at h';cases h'.1)]
def bestL (f:Nat->Option (List Int × Int))(l:List Nat):Option (List Int × Int):=l.foldl (fun cur w=>betterP cur (f w)) none
theorem bestL_snoc (f:Nat->Option (List Int × Int))(l:List Nat)(w:Nat):bestL f (l++[w])=betterP (bestL f l) (f w):=by simp [bestL,List.foldl_append]
theorem bestL_range (f:Nat->Option (List Int × Int)):∀ m,bestP f m=bestL f (List.range m)
 | 0=>rfl
 | m+1=>by rw [List.range_succ,bestL_snoc,bestP,bestL_range f m]
theorem bestL_filter (f:Nat->Option (List Int × Int))(p:Nat->Bool)(hp:∀ w,p w=false->f w=none)(m:Nat):bestL f ((List.range m).filter p)=bestL f (List.range m):=by
 induction m with
 | zero=>rfl
 | succ m ih =>
   rw [filter_snoc,List.range_succ,bestL_snoc]
   cases h:p m with
   | true=>simp only [if_true];rw [bestL_snoc,ih]
   | false =>
     rw [hp m h]
     simp only [Bool.false_eq_true,if_false,List.append_nil]
     rw [ih]
     rfl
theorem pathS_ways (W H:Int)(cells:List Nat)(far bl:List Int)(oth:List (List Int))(k:Nat)(c:Int):pathS W H cells far bl oth (k+1) c=bestL (zce W H cells far bl oth k c) (waysS W H cells c):=by
 rw [pathS_succ,bestL_range]
 exact (bestL_filter _ _ (fun w h=>candP_not h) 5).symm
theorem bestL_take {f:Nat->Option (List Int × Int)}{l:List Nat}{i:Nat}(hi:i<l.length):bestL f (l.take (i+1))=betterP (bestL f (l.take i)) (f (l.getD i 0)):=by
 rw [List.take_add_one,show l[i]?.toList=[l.getD i 0] by simp [List.getD,hi],bestL_snoc]
theorem waysS_at {W H:Int}{cells:List Nat}{c:Int}{i:Nat}(hi:i<(waysS W H cells c).length):(zak W H cells c ((waysS W H cells c).getD i 0:Nat)).2=true:=by
 have hm:(waysS W H cells c).getD i 0∈waysS W H cells c:=by
  simp only [List.getD,List.getElem?_eq_getElem hi,Option.getD_some]
  exact List.getElem_mem hi
 generalize (waysS W H cells c).getD i 0=w at hm ⊢
 unfold waysS at hm
 exact (List.mem_filter.1 hm).2
theorem waysS_len (W H:Int)(cells:List Nat)(c:Int):(waysS W H cells c).length<=5:=filter_len _ 5
theorem pathS_next {W H:Int}{cells:List Nat}{far bl:List Int}{oth:List (List Int)}{k:Nat}{c:Int}{x:List Int × Int}(h:pathS W H cells far bl oth (k+1) c=some x) :
 ∃ t r n,x.1=t :: r/\pathS W H cells far bl oth k t=some (r,n)/\∃ way:Nat,zak W H cells c (way:Nat)=(t,true):=by
 rw [pathS_succ] at h
 obtain ⟨⟨way,_,hc⟩,_⟩:=bestP_some h
 obtain ⟨t,y,h1,h2,h3,rfl⟩:=candP_some hc
 exact ⟨t,y.1,y.2,rfl,h3,way,h1⟩
def KnIn (w:World)(kb n:Nat)(W H:Int)(cells:List Nat)(far bl:List Int)(oth:List (List Int)):Prop :=
 ∃ f:Int × Int->Option (Bool × Int × Int),KIn knownM w kb n f/\∀ p x:Int,wfI p->wfI x->∀ r,f (p,x)=some r->∃ k:Nat,k<=6/\p=((6-k:Nat):Int)/\r=rstOf (pathS W H cells far bl oth k x)
section
variable {w w':World} {kb n:Nat} {W H:Int} {cells:List Nat} {far bl:List Int} {oth:List (List Int)}
theorem KnIn.keep (h:KnIn w kb n W H cells far bl oth)(hk:w'.heap[kb]?=w.heap[kb]?):KnIn w' kb n W H cells far bl oth:=by obtain ⟨f,h1,h2⟩:=h;exact ⟨f,h1.keep hk,h2⟩
theorem KnIn.less {m:Nat}(h:KnIn w kb n W H cells far bl oth)(hm:n<=m):KnIn w kb m W H cells far bl oth:=by obtain ⟨f,h1,h2⟩:=h;exact ⟨f,h1.less hm,h2⟩
theorem knIn_new (h:KIn knownM w kb n (fun _=>none)):KnIn w kb n W H cells far bl oth:=⟨_,h,fun p x _ _ r hr=>by cases hr⟩
end
def cntK:Nat->Nat
 | 0=>0
 | k+1=>5*cntK k+1
theorem cntK_le {k:Nat}(h:k<=6):cntK k<=3906:=by
 match k,h with
 | 0,_=>decide
 | 1,_=>decide
 | 2,_=>decide
 | 3,_=>decide
 | 4,_=>decide
 | 5,_=>decide
 | 6,_=>decide
structure SrIn (w:World)(B:Nat)(W H:Int)(s:ByteArray)(cb pb mb lb kb m nt nk:Nat)(far bl:List Int)(oth:List (List Int)):Prop where
 sh:ShutIn w cb m bl
 tr:TrafIn w pb mb nt oth
 fr:RowZ .i64 w B (some ⟨lb,0,none⟩) s.size s.size far
 kn:KnIn w kb nk W H (zaa s) far bl oth
 ne:kb≠cb/\kb≠pb/\kb≠mb
 lt:cb<B/\pb<B/\mb<B/\kb<B
 hB:B<=w.heap.size
 km:MapAt w kb
section
variable {w w':World} {B:Nat} {W H:Int} {s:ByteArray} {cb pb mb lb kb m nt nk nk':Nat} {far bl:List Int} {oth:List (List Int)}
theorem SrIn.below (h:SrIn w B W H s cb pb mb lb kb m nt nk far bl oth)(hb:Below B w w'):SrIn w' B W H s cb pb mb lb kb m nt nk far bl oth:=by
 obtain ⟨l1,l2,l3,l4⟩:=h.lt
 obtain ⟨es,ck,hm⟩:=h.km
 exact ⟨h.sh.keep (hb.block _ l1),h.tr.keep (hb.block _ l2) (hb.block _ l3),h.fr.below hb,h.kn.keep (hb.block _ l4),h.ne,h.lt,Nat.le_trans h.hB hb.size,es,ck,(hb.block _ l4).trans hm⟩
theorem SrIn.alt {S:Nat->Prop}(h:SrIn w B W H s cb pb mb lb kb m nt nk far bl oth)(hA:Alt S w w')(hS:∀ k,S k->k=kb\/B<=k)(hK:KnIn w' kb nk' W H (zaa s) far bl oth):SrIn w' B W H s cb pb mb lb kb m nt nk' far bl oth:=by
 obtain ⟨l1,l2,l3,l4⟩:=h.lt
 obtain ⟨n1,n2,n3⟩:=h.ne
 have hB:=h.hB
 have hn:∀ k,k<B->k≠kb->¬ S k:=fun k hk hne hs=>by rcases hS k hs with e|e;exact hne e;omega
 refine ⟨h.sh.keep (hA.block _ (by omega) (hn _ l1 n1.symm)),h.tr.keep (hA.block _ (by omega) (hn _ l2 n2.symm)) (hA.block _ (by omega) (hn _ l3 n3.symm)),?_,hK,h.ne,h.lt,Nat.le_trans h.hB hA.size,?_⟩
 · obtain ⟨r1,r2,r3,r4⟩:=h.fr
   refine ⟨r1,r2,r3,fun hn0=>?_⟩
   obtain ⟨b,off,e,hb,hc⟩:=r4 hn0
   refine ⟨b,off,e,hb,fun i hi=>?_⟩
   have hne:b≠kb:=fun e=>by
    have h1:=hc i hi
    rw [e,h.km.cell] at h1
    cases h1
   exact (hA.cell (p:=⟨b,off+i,none⟩) (by show b<_;omega) (hn b hb hne)).trans (hc i hi)
 · obtain ⟨f,h1,_⟩:=hK
   exact h1.isMap
end
theorem OwnI.cells {w:World}{B n:Nat}{v:Value}{l:List Nat}(h:OwnI w B v l)(hl:l.length=n):∃ a c,v=.slice a n c/\n<=c/\c<=maxLen/\(0<n->∃ g,a=some ⟨g,0,none⟩/\B<=g/\g<w.heap.size/\∀ i,i<n->w.cell? ⟨g,i,none⟩=some (.int .i64 ((l.getD i 0:Nat):Int))):=by
 rcases h.2 with ⟨rfl,h2⟩|⟨g,cap,cur,rfl,hg,hh,hc,hm,hsz,htk⟩
 · exact ⟨none,0,by rw [<- hl,h2],by omega,by simp [maxLen],fun h'=>by omega⟩
 · refine ⟨_,_,by rw [<- hl],by omega,hm,fun _=>⟨g,rfl,hg,(Array.getElem?_eq_some_iff.1 hh).1,fun i hi=>?_⟩⟩
   have e:(i64s l)[i]?=some (.int .i64 ((l.getD i 0:Nat):Int)):=by simp [i64s,List.getD,List.getElem?_eq_getElem (show i<l.length by omega)]
   rw [<- htk,List.getElem?_take,if_pos (by omega)] at e
   unfold World.cell?
   rw [hh]
   simpa using e
theorem frozen_new (w:World)(cs:Array Value)(t:TypeId){k i:Nat}(hk:k=w.heap.size):(w.alloc (.cells cs t)).frozen? ⟨k,i,none⟩=false:=by
 subst hk
 have e:(w.alloc (.cells cs t)).heap[w.heap.size]?=some (.cells cs t (0,0)):=by
  show (w.heap.push _)[w.heap.size]?=_
  rw [Array.getElem?_push,if_pos rfl]
 unfold World.frozen?
 rw [e]
 simp
theorem below_set3 {B b:Nat}{a V:World}(h:Below B a V)(hb:B<=b)(v0 v1 v2:Value):Below B a (((V.setCell ⟨b,0,none⟩ v0).setCell ⟨b,1,none⟩ v1).setCell ⟨b,2,none⟩ v2) :=
 ((h.setCell (p:=⟨b,0,none⟩) hb v0).setCell (p:=⟨b,1,none⟩) hb v1).setCell (p:=⟨b,2,none⟩) hb v2
theorem cell_set3 {b k o:Nat}{V:World}{v:Value}(h:V.cell? ⟨k,o,none⟩=some v)(hk:k≠b)(v0 v1 v2:Value):(((V.setCell ⟨b,0,none⟩ v0).setCell ⟨b,1,none⟩ v1).setCell ⟨b,2,none⟩ v2).cell? ⟨k,o,none⟩=some v :=
 (World.cell?_of_block ((Below.heap_setCell _ ⟨b,2,none⟩ _ k hk).trans ((Below.heap_setCell _ ⟨b,1,none⟩ _ k hk).trans (Below.heap_setCell _ ⟨b,0,none⟩ _ k hk)))).trans h
theorem alt_set3 {S:Nat->Prop}{A V:World}{b:Nat}(h:Alt S A V)(hb:A.heap.size<=b)(v0 v1 v2:Value):Alt S A (((V.setCell ⟨b,0,none⟩ v0).setCell ⟨b,1,none⟩ v1).setCell ⟨b,2,none⟩ v2) :=
 h.calls (below_set3 (zX _ V) hb v0 v1 v2)
def ChSays (W H:Int)(s:ByteArray)(a:Option Addr)(n c cb pb mb fb lb kb m nt:Nat)(far bl:List Int)(oth:List (List Int))(k:Nat):Prop :=
 ∀ (p nk B:Nat) (x:Int) (w:World),p+k=6->wfI x->SrIn w B W H s cb pb mb lb kb m nt nk far bl oth->nk+cntK k<=100000 ->
   Calls Tryz.prog 91 #[srV W H s a n c cb pb mb fb lb kb,atV p x] w fun e w'=>e=.returned (rstV (rstOf (pathS W H (zaa s) far bl oth k x)))/\SrIn w' B W H s cb pb mb lb kb m nt (nk+cntK k) far bl oth/\Alt (fun k=>k=kb) w w'
set_option maxHeartbeats 1000000 in
theorem through_any (W H:Int)(s:ByteArray)(a:Option Addr)(n c cb pb mb fb lb kb m nt:Nat)(far bl:List Int)(oth:List (List Int))(k:Nat)(hfar:∀ i,far.getD i 0<=1000000)(hs:s.size<=1000000)
 (hC:ChSays W H s a n c cb pb mb fb lb kb m nt far bl oth k) (p nk B:Nat) (x t:Int) (w:World) (hp:p+k=5) (hx:wfI x) (ht:0<=t/\t<s.size) (hI:SrIn w B W H s cb pb mb lb kb m nt nk far bl oth) (hnk:nk+cntK k<=100000) :
 Calls Tryz.prog 122 #[srV W H s a n c cb pb mb fb lb kb,atV p x,.int .i64 t] w fun e w'=>e=.returned (rstV (rstOf (thruP W H (zaa s) far bl oth k x t)))/\SrIn w' B W H s cb pb mb lb kb m nt (nk+cntK k) far bl oth/\Alt (fun k=>k=kb) w w':=by
 have hwt:wfI t:=WalkArith.wf_i64 (by omega)
 obtain ⟨w1,hw1⟩:∃ w1,w1=((w.alloc (srO W H s a n c cb pb mb fb lb kb)).alloc (atO p x)).alloc (.cells #[.bool false,.int .i64 0,.int .i64 0] 152):=⟨_,rfl⟩
 have hb1:Below w.heap.size w w1:=by rw [hw1];exact (((zX _ _).alloc (zL _) _).alloc (by simp) _).alloc (by simp;omega) _
 have hz1:w1.heap.size=w.heap.size+3:=by rw [hw1];simp
 have hcs:∀ i v,(#[.int .i64 W,.int .i64 H,.string s,.slice a n c,.map (some cb),.map (some pb),.map (some mb),.map (some fb),.slice (some ⟨lb,0,none⟩) s.size s.size,.map (some kb)]:Array Value)[i]?=some v->w1.cell? ⟨w.heap.size,i,none⟩=some v:=fun i v hv=>by
  rw [hw1]
  exact (Below.cell (((zX (w.heap.size+1) (w.alloc (srO W H s a n c cb pb mb fb lb kb))).alloc (by simp) _).alloc (by simp) _) (p:=⟨w.heap.size,i,none⟩) (by simp)).trans (zbl _ _ _ rfl hv)
 have hat:∀ i v,(#[.int .i64 (p:Int),.int .i64 x]:Array Value)[i]?=some v->w1.cell? ⟨w.heap.size+1,i,none⟩=some v:=fun i v hv=>by
  rw [hw1]
  exact (Below.cell ((zX (w.heap.size+2) ((w.alloc (srO W H s a n c cb pb mb fb lb kb)).alloc (atO p x))).alloc (by simp) _) (p:=⟨w.heap.size+1,i,none⟩) (by simp)).trans (zbl _ _ _ (by simp) hv)
 have hre:∀ i v,(#[.bool false,.int .i64 0,.int .i64 0]:Array Value)[i]?=some v->w1.cell? ⟨w.heap.size+2,i,none⟩=some v:=fun i v hv=>by
  rw [hw1];exact zbl _ _ _ (by simp) hv
 have hfz:∀ i,w1.frozen? ⟨w.heap.size+2,i,none⟩=false:=fun i=>by
  rw [hw1];exact frozen_new _ _ _ (by simp)
 have q0:=hcs 0 _ rfl
 have q1:=hcs 1 _ rfl
 have q2:=hcs 2 _ rfl
 have q3:=hcs 3 _ rfl
 have q4:=hcs 4 _ rfl
 have q5:=hcs 5 _ rfl
 have q6:=hcs 6 _ rfl
 have q7:=hcs 7 _ rfl
 have q8:=hcs 8 _ rfl
 have q9:=hcs 9 _ rfl
 have a0:=hat 0 _ rfl
 have a1:=hat 1 _ rfl
 have HW1:=qz hw1
 have HB1:=qz hb1
 have hI1:=hI.below (hb1.mono hI.hB)
 have hBs:=hI.hB
 have HI1:=qz hI1
 have HPM:=qz (permits_any W H s a n c cb pb mb fb lb kb m nt p bl oth x t w1 hI1.sh hI1.tr (by omega) hx hwt)
 have HALL:Hid (∀ V,Below w1.heap.size w1 V->∀ i v,(w1.cell? ⟨w.heap.size,i,none⟩=some v->V.cell? ⟨w.heap.size,i,none⟩=some v)/\(w1.cell? ⟨w.heap.size+1,i,none⟩=some v->V.cell? ⟨w.heap.size+1,i,none⟩=some v)/\(w1.cell? ⟨w.heap.size+2,i,none⟩=some v->V.cell? ⟨w.heap.size+2,i,none⟩=some v)):=fun V hV i v =>
  ⟨fun h=>(hV.cell (p:=⟨w.heap.size,i,none⟩) (show w.heap.size<w1.heap.size by omega)).trans h,fun h=>(hV.cell (p:=⟨w.heap.size+1,i,none⟩) (show w.heap.size+1<w1.heap.size by omega)).trans h,fun h=>(hV.cell (p:=⟨w.heap.size+2,i,none⟩) (show w.heap.size+2<w1.heap.size by omega)).trans h⟩
 have HE:Hid (5-k=p):=by unfold Hid;omega
 rw [hw1] at q0 q1 q2 q3 q4 q5 q6 q7 q8 q9 a0 a1
 by_cases hmay:MayP bl oth p x t
 · rw [decide_eq_true hmay] at HPM
   have HFZ:=qz hfz
   have HRE:=qz hre
   have HCS:=qz hcs
   have HAT:=qz hat
   have HCH:=qz hC
   obtain ⟨P1,hP1⟩:∃ P1,P1=p+1:=⟨_,rfl⟩
   have e0:IntKind.i64.wrap ((p:Int)+1)=(P1:Int):=by simp only [IntKind.wrap_i64];omega
   have HPK:Hid (P1+k=6):=by unfold Hid;omega
   have HR:Hid (thruP W H (zaa s) far bl oth k x t=(pathS W H (zaa s) far bl oth k t).map fun y=>(t :: y.1,y.2+costP far t)):=by unfold Hid thruP;rw [HE.out,if_pos hmay]
   have HCP:Hid (0<=costP far t/\costP far t<=1000000):=by
    unfold Hid costP
    have:=hfar t.toNat
    split <;> omega
   obtain ⟨R,hR⟩:∃ R,pathS W H (zaa s) far bl oth k t=R:=⟨_,rfl⟩
   have hRc:∀ y,R=some y->0<=y.2/\y.2<=k*1000000:=fun y hy=>pathS_cost hfar (hR.trans hy)
   have HTT:=qz ht
   have HWT:=qz hwt
   rw [hR] at HR
   have hk5:k<=5:=by omega
   have HRR:=qz hR
   obtain ⟨cc,hcc⟩:∃ cc,costP far t=cc:=⟨_,rfl⟩
   have HCC:=qz hcc
   clear hmay hI1 hcs hat hre hb1 hw1 hfz hI hC hR hP1 hcc ht hwt
   go_enter Tryz.func122,Tryz.ntmps122
   go_wp2_with fail
   rw [<- HW1.out]
   refine HPM.out.mono ?_
   rintro e w2 ⟨rfl,hb2⟩
   have HI2:=qz (HI1.out.below (hb2.mono HI1.out.hB))
   have HB2:=qz (HB1.out.trans (hb2.mono HB1.out.size))
   have HK2:=qz hb2
   have u0:=(HALL.out w2 hb2 0 _).1 (HCS.out 0 _ rfl)
   have u1:=(HALL.out w2 hb2 1 _).1 (HCS.out 1 _ rfl)
   have u2:=(HALL.out w2 hb2 2 _).1 (HCS.out 2 _ rfl)
   have u3:=(HALL.out w2 hb2 3 _).1 (HCS.out 3 _ rfl)
   have u4:=(HALL.out w2 hb2 4 _).1 (HCS.out 4 _ rfl)
   have u5:=(HALL.out w2 hb2 5 _).1 (HCS.out 5 _ rfl)
   have u6:=(HALL.out w2 hb2 6 _).1 (HCS.out 6 _ rfl)
   have u7:=(HALL.out w2 hb2 7 _).1 (HCS.out 7 _ rfl)
   have u8:=(HALL.out w2 hb2 8 _).1 (HCS.out 8 _ rfl)
   have u9:=(HALL.out w2 hb2 9 _).1 (HCS.out 9 _ rfl)
   have b0:=(HALL.out w2 hb2 0 _).2.1 (HAT.out 0 _ rfl)
   have hz2:=hb2.size
   clear hb2 HPM
   go_wp2_with fail
   refine (HCH.out P1 nk B t w2 HPK.out HWT.out HI2.out hnk).mono ?_
   rw [HRR.out]
   rintro e w3 ⟨rfl,hi3,ha3⟩
   have hz3:=ha3.size
   have HI3:=qz hi3
   have HA3:=qz ((Alt.ofBelow HB2.out).trans ha3 (fun k hk _=>hk))
   have hkb:kb<B:=HI1.out.lt.2.2.2
   have HS3:Hid (∀ j i v,j<w1.heap.size->w.heap.size<=j->w1.cell? ⟨j,i,none⟩=some v->w3.cell? ⟨j,i,none⟩=some v):=fun j i v hj hj2 h =>
    (ha3.cell (p:=⟨j,i,none⟩) (show j<w2.heap.size by omega) (by show ¬ j=kb;omega)).trans ((HK2.out.cell (p:=⟨j,i,none⟩) hj).trans h)
   have HF3:Hid (∀ i,w3.frozen? ⟨w.heap.size+1+1,i,none⟩=false):=fun i =>
    (ha3.frozen (p:=⟨w.heap.size+1+1,i,none⟩) (show w.heap.size+1+1<w2.heap.size by omega) (by show ¬ w.heap.size+1+1=kb;omega)).trans ((HK2.out.frozen (p:=⟨w.heap.size+1+1,i,none⟩) (show w.heap.size+1+1<w1.heap.size by omega)).trans (HFZ.out i))
   clear ha3 hi3 u0 u1 u2 u3 u4 u5 u6 u7 u8 u9 b0
   cases R with
   | none =>
     have k0:(w3.alloc (.cells #[.bool false,.int .i64 0,.int .i64 0] 152)).cell? ⟨w.heap.size+1+1,0,none⟩=some (.bool false):=by
      rw [((zX w3.heap.size w3).alloc (zL _) _).cell (p:=⟨w.heap.size+1+1,0,none⟩) (by show w.heap.size+1+1<w3.heap.size;omega)];exact HS3.out (w.heap.size+2) 0 _ (by omega) (by omega) (HRE.out 0 _ rfl)
     have k1:(w3.alloc (.cells #[.bool false,.int .i64 0,.int .i64 0] 152)).cell? ⟨w.heap.size+1+1,1,none⟩=some (.int .i64 0):=by
      rw [((zX w3.heap.size w3).alloc (zL _) _).cell (p:=⟨w.heap.size+1+1,1,none⟩) (by show w.heap.size+1+1<w3.heap.size;omega)];exact HS3.out (w.heap.size+2) 1 _ (by omega) (by omega) (HRE.out 1 _ rfl)
     have k2:(w3.alloc (.cells #[.bool false,.int .i64 0,.int .i64 0] 152)).cell? ⟨w.heap.size+1+1,2,none⟩=some (.int .i64 0):=by
      rw [((zX w3.heap.size w3).alloc (zL _) _).cell (p:=⟨w.heap.size+1+1,2,none⟩) (by show w.heap.size+1+1<w3.heap.size;omega)];exact HS3.out (w.heap.size+2) 2 _ (by omega) (by omega) (HRE.out 2 _ rfl)
     have f0:∀ i,(w3.alloc (.cells #[.bool false,.int .i64 0,.int .i64 0] 152)).frozen? ⟨w.heap.size+1+1,i,none⟩=false:=fun i=>by
      rw [((zX w3.heap.size w3).alloc (zL _) _).frozen (p:=⟨w.heap.size+1+1,i,none⟩) (by show w.heap.size+1+1<w3.heap.size;omega)];exact HF3.out i
     simp only [rstOf]
     go_wp2_with fail
     refine bodyPost_ret (v:=rstV (false,0,0)) (by simp [results,Tryz.results122,go_sem,k0,k1,k2]) rfl ⟨by rw [HR.out];rfl,?_,?_⟩
     · exact HI3.out.below (below_set3 ((zX B w3).alloc (by omega) _) (b:=w.heap.size+1+1) (by omega) (.bool false) (.int .i64 0) (.int .i64 0))
     · exact alt_set3 (HA3.out.alloc _) (by omega) _ _ _
   | some y =>
     obtain ⟨l,n2⟩:=y
     simp only [rstOf]
     obtain ⟨h0,hh0⟩:∃ h0,l.headD 0=h0:=⟨_,rfl⟩
     rw [hh0]
     clear hh0
     obtain ⟨w4,hw4⟩:∃ w4,w4=w3.alloc (.cells #[.bool true,.int .i64 h0,.int .i64 n2] 152):=⟨_,rfl⟩
     have hb4:Below w3.heap.size w3 w4:=by rw [hw4];exact (zX _ _).alloc (zL _) _
     have hz4:w4.heap.size=w3.heap.size+1:=by rw [hw4];simp
     have hn2:=hRc _ rfl
     simp only [] at hn2
     have hn6:(k:Int)*1000000<=5000000:=by omega
     obtain ⟨y,hy⟩:∃ y,y=n2+cc:=⟨_,rfl⟩
     have ew:IntKind.i64.wrap (cc+n2)=y:=by
      have:=HCP.out
      rw [HCC.out] at this
      simp only [IntKind.wrap_i64];omega
     have h4:∀ i v,w1.cell? ⟨w.heap.size,i,none⟩=some v->w4.cell? ⟨w.heap.size,i,none⟩=some v:=fun i v h =>
      (hb4.cell (p:=⟨w.heap.size,i,none⟩) (show w.heap.size<w3.heap.size by omega)).trans (HS3.out w.heap.size i v (by omega) (by omega) h)
     have h4r:∀ i v,w1.cell? ⟨w.heap.size+2,i,none⟩=some v->w4.cell? ⟨w.heap.size+1+1,i,none⟩=some v:=fun i v h =>
      (hb4.cell (p:=⟨w.heap.size+1+1,i,none⟩) (show w.heap.size+1+1<w3.heap.size by omega)).trans (HS3.out (w.heap.size+2) i v (by omega) (by omega) h)
     have h4f:∀ i,w4.frozen? ⟨w.heap.size+1+1,i,none⟩=false:=fun i=>(hb4.frozen (p:=⟨w.heap.size+1+1,i,none⟩) (show w.heap.size+1+1<w3.heap.size by omega)).trans (HF3.out i)
     have c0:w4.cell? ⟨w3.heap.size,0,none⟩=some (.bool true):=by rw [hw4];exact zbl _ _ _ rfl rfl
     have c2:w4.cell? ⟨w3.heap.size,2,none⟩=some (.int .i64 n2):=by rw [hw4];exact zbl _ _ _ rfl rfl
     have hI4:=HI3.out.below (hb4.mono (by omega))
     have HKS:Hid (∀ V,Below (w.heap.size+1) w4 V->V.cell? ⟨w3.heap.size,2,none⟩=some (.int .i64 n2)->(Below (w.heap.size+1) w4 V/\V.cell? ⟨w.heap.size,0,none⟩=some (.int .i64 W)/\V.cell? ⟨w.heap.size,1,none⟩=some (.int .i64 H)/\V.cell? ⟨w.heap.size,2,none⟩=some (.string s)/\V.cell? ⟨w.heap.size,3,none⟩=some (.slice a n c)/\V.cell? ⟨w.heap.size,4,none⟩=some (.map (some cb))/\V.cell? ⟨w.heap.size,5,none⟩=some (.map (some pb))/\V.cell? ⟨w.heap.size,6,none⟩=some (.map (some mb))/\V.cell? ⟨w.heap.size,7,none⟩=some (.map (some fb))/\V.cell? ⟨w.heap.size,8,none⟩=some (.slice (some ⟨lb,0,none⟩) s.size s.size)/\V.cell? ⟨w.heap.size,9,none⟩=some (.map (some kb))/\V.cell? ⟨w3.heap.size,2,none⟩=some (.int .i64 n2))):=fun V hV hc =>
      ⟨hV,(hV.cell (p:=⟨w.heap.size,0,none⟩) (show w.heap.size<w.heap.size+1 by omega)).trans (h4 0 _ (HCS.out 0 _ rfl)),(hV.cell (p:=⟨w.heap.size,1,none⟩) (show w.heap.size<w.heap.size+1 by omega)).trans (h4 1 _ (HCS.out 1 _ rfl)),(hV.cell (p:=⟨w.heap.size,2,none⟩) (show w.heap.size<w.heap.size+1 by omega)).trans (h4 2 _ (HCS.out 2 _ rfl)),(hV.cell (p:=⟨w.heap.size,3,none⟩) (show w.heap.size<w.heap.size+1 by omega)).trans (h4 3 _ (HCS.out 3 _ rfl)),(hV.cell (p:=⟨w.heap.size,4,none⟩) (show w.heap.size<w.heap.size+1 by omega)).trans (h4 4 _ (HCS.out 4 _ rfl)),(hV.cell (p:=⟨w.heap.size,5,none⟩) (show w.heap.size<w.heap.size+1 by omega)).trans (h4 5 _ (HCS.out 5 _ rfl)),(hV.cell (p:=⟨w.heap.size,6,none⟩) (show w.heap.size<w.heap.size+1 by omega)).trans (h4 6 _ (HCS.out 6 _ rfl)),(hV.cell (p:=⟨w.heap.size,7,none⟩) (show w.heap.size<w.heap.size+1 by omega)).trans (h4 7 _ (HCS.out 7 _ rfl)),(hV.cell (p:=⟨w.heap.size,8,none⟩) (show w.heap.size<w.heap.size+1 by omega)).trans (h4 8 _ (HCS.out 8 _ rfl)),(hV.cell (p:=⟨w.heap.size,9,none⟩) (show w.heap.size<w.heap.size+1 by omega)).trans (h4 9 _ (HCS.out 9 _ rfl)),hc⟩
     have HC4:Hid (∀ V,Kept w4 V->Calls Tryz.prog 141 #[srV W H s a n c cb pb mb fb lb kb,.int .i64 t] V fun e V'=>e=.returned (.int .i64 cc)/\Kept w4 V'/\Below (w.heap.size+1) w4 V'/\V'.cell? ⟨w3.heap.size,2,none⟩=some (.int .i64 n2) /\
      (V'.cell? ⟨w.heap.size+1+1,0,none⟩=some (.bool false)/\V'.cell? ⟨w.heap.size+1+1,1,none⟩=some (.int .i64 0)/\V'.cell? ⟨w.heap.size+1+1,2,none⟩=some (.int .i64 0)) /\
      (V'.frozen? ⟨w.heap.size+1+1,0,none⟩=false/\V'.frozen? ⟨w.heap.size+1+1,1,none⟩=false/\V'.frozen? ⟨w.heap.size+1+1,2,none⟩=false)):=fun V hV =>
      (cost_any W H s a n c cb pb mb fb lb kb B far t V ((hI4.fr).below (Below.mono hV (by omega))) (by have:=Below.size hV;omega) HTT.out).mono fun e V' ⟨he,hb⟩=>by
       have hk:Kept w4 V':=Below.trans hV (hb.mono hV.size)
       have hcc:∀ b i v,b<w4.heap.size->w4.cell? ⟨b,i,none⟩=some v->V'.cell? ⟨b,i,none⟩=some v:=fun b i v hb h=>(Below.cell hk (p:=⟨b,i,none⟩) hb).trans h
       have hff:∀ i,V'.frozen? ⟨w.heap.size+1+1,i,none⟩=false:=fun i=>(Below.frozen hk (p:=⟨w.heap.size+1+1,i,none⟩) (show w.heap.size+1+1<w4.heap.size by omega)).trans (h4f i)
       exact ⟨by rw [he,HCC.out],hk,Below.mono hk (by omega),hcc _ 2 _ (by omega) c2,⟨hcc _ 0 _ (by omega) (h4r 0 _ (HRE.out 0 _ rfl)),hcc _ 1 _ (by omega) (h4r 1 _ (HRE.out 1 _ rfl)),hcc _ 2 _ (by omega) (h4r 2 _ (HRE.out 2 _ rfl))⟩,hff 0,hff 1,hff 2⟩
     have k0:Kept w4 w4:=Kept.refl _
     have kb0:Below (w.heap.size+1) w4 w4:=zX _ _
     have HI4:=qz hI4
     have HA4:=qz (HA3.out.calls (hb4.mono (by omega)))
     have HY:=qz hy
     have HZ4:=qz hz4
     have HW4:=qz hw4
     rw [hw4] at c0
     clear h4 h4r h4f hI4 hb4 hy hw4 hz4 hn2 hn6
     go_wp2_with fail
     rw [<- HW4.out]
     go_region_held3 (fun V=>Below (w.heap.size+1) w4 V/\V.cell? ⟨w.heap.size,0,none⟩=some (.int .i64 W)/\V.cell? ⟨w.heap.size,1,none⟩=some (.int .i64 H)/\V.cell? ⟨w.heap.size,2,none⟩=some (.string s)/\V.cell? ⟨w.heap.size,3,none⟩=some (.slice a n c)/\V.cell? ⟨w.heap.size,4,none⟩=some (.map (some cb))/\V.cell? ⟨w.heap.size,5,none⟩=some (.map (some pb))/\V.cell? ⟨w.heap.size,6,none⟩=some (.map (some mb))/\V.cell? ⟨w.heap.size,7,none⟩=some (.map (some fb))/\V.cell? ⟨w.heap.size,8,none⟩=some (.slice (some ⟨lb,0,none⟩) s.size s.size)/\V.cell? ⟨w.heap.size,9,none⟩=some (.map (some kb))/\V.cell? ⟨w3.heap.size,2,none⟩=some (.int .i64 n2))
      (first|exact HKS.out _ (by assumption) (by assumption)|exact HKS.out _ (Below.drew (by assumption)) (by assumption)|exact HKS.out _ (below_set3 (by assumption) (by omega) _ _ _) (cell_set3 (by assumption) (by omega) _ _ _)|exact HKS.out _ (below_set3 (Below.drew (by assumption)) (by omega) _ _ _) (cell_set3 (by assumption) (by omega) _ _ _))
      (first|(go_at_call 141;refine (HC4.out _ (by first|exact k0|exact Kept.drew k0)).mono ?_;rintro e wa ⟨rfl,ka,kba,c2a,⟨r0,r1,r2⟩,⟨f0,f1,f2⟩⟩))
     go_wp2_with fail
     refine bodyPost_ret (v:=rstV (true,t,y)) (by simp [results,Tryz.results122,go_sem,r0,r1,r2]) rfl ⟨by rw [HR.out];simp only [Option.map_some,rstOf,List.headD_cons];rw [HY.out,HCC.out],?_,?_⟩
     · exact HI4.out.below (below_set3 (Below.mono ka (by have:=HZ4.out;omega)) (b:=w.heap.size+1+1) (by omega) (.bool true) (.int .i64 t) (.int .i64 y))
     · exact alt_set3 (HA4.out.calls (Below.mono ka (by have:=HZ4.out;omega))) (by omega) _ _ _
 · rw [decide_eq_false hmay] at HPM
   have HR:Hid (thruP W H (zaa s) far bl oth k x t=none):=by unfold Hid thruP;rw [HE.out,if_neg hmay]
   have HFZ:=qz hfz
   have HRE:=qz hre
   clear hmay hI1 hcs hat hre hb1 hw1 hfz hI
   go_enter Tryz.func122,Tryz.ntmps122
   go_wp2_with fail
   rw [<- HW1.out]
   refine HPM.out.mono ?_
   rintro e w2 ⟨rfl,hb2⟩
   have r0:=((HALL.out w2 hb2 0 (.bool false)).2.2 (HRE.out 0 _ rfl))
   have r1:=((HALL.out w2 hb2 1 (.int .i64 0)).2.2 (HRE.out 1 _ rfl))
   have r2:=((HALL.out w2 hb2 2 (.int .i64 0)).2.2 (HRE.out 2 _ rfl))
   have f0:=(hb2.frozen (p:=⟨w.heap.size+2,0,none⟩) (show w.heap.size+2<w1.heap.size by omega)).trans (HFZ.out 0)
   have f1:=(hb2.frozen (p:=⟨w.heap.size+2,1,none⟩) (show w.heap.size+2<w1.heap.size by omega)).trans (HFZ.out 1)
   have f2:=(hb2.frozen (p:=⟨w.heap.size+2,2,none⟩) (show w.heap.size+2<w1.heap.size by omega)).trans (HFZ.out 2)
   have HI2:=qz (HI1.out.below (hb2.mono HI1.out.hB))
   have HB2:=qz (HB1.out.trans (hb2.mono HB1.out.size))
   clear hb2
   go_wp2_with fail
   refine bodyPost_ret (v:=rstV (false,0,0)) (by simp [results,Tryz.results122,go_sem,r0,r1,r2]) rfl ⟨by rw [HR.out];rfl,?_,?_⟩
   · have h:=HI2.out.below (below_set3 (zX B w2) (b:=w.heap.size+1+1) (by omega) (.bool false) (.int .i64 0) (.int .i64 0))
     exact h.alt (S:=fun _=>False) (Alt.refl _ _) (fun k hk=>hk.elim) (h.kn.less (by omega))
   · exact .ofBelow (below_set3 HB2.out (by omega) _ _ _)
end Go.Proofs.YtknnnbpgkfaapaaGreat.Vm
namespace Go.Proofs.YtknnnbpgkfaapaaGreat.Vm
open Go Go.RowKit Go.Maps
def RstAt (w:World)(b:Nat)(r:Bool × Int × Int):Prop:=w.heap[b]?=some (.cells #[.bool r.1,.int .i64 r.2.1,.int .i64 r.2.2] 152 (0,0))
section
variable {w w':World} {b:Nat} {r:Bool × Int × Int}
theorem RstAt.c0 (h:RstAt w b r):w.cell? ⟨b,0,none⟩=some (.bool r.1):=by unfold RstAt at h;unfold World.cell?;rw [h];rfl
theorem RstAt.c1 (h:RstAt w b r):w.cell? ⟨b,1,none⟩=some (.int .i64 r.2.1):=by unfold RstAt at h;unfold World.cell?;rw [h];rfl
theorem RstAt.c2 (h:RstAt w b r):w.cell? ⟨b,2,none⟩=some (.int .i64 r.2.2):=by unfold RstAt at h;unfold World.cell?;rw [h];rfl
theorem RstAt.fz (h:RstAt w b r)(i:Nat):w.frozen? ⟨b,i,none⟩=false:=by unfold RstAt at h;unfold World.frozen?;rw [h];simp
theorem RstAt.keep (h:RstAt w b r)(hk:w'.heap[b]?=w.heap[b]?):RstAt w' b r:=hk.trans h
theorem rstAt_new (w:World)(r:Bool × Int × Int){b:Nat}(hb:b=w.heap.size):RstAt (w.alloc (.cells #[.bool r.1,.int .i64 r.2.1,.int .i64 r.2.2] 152)) b r:=by
 subst hb
 show (w.heap.push _)[w.heap.size]?=_
 rw [Array.getElem?_push,if_pos rfl]
theorem RstAt.set3 (h:RstAt w b r)(r':Bool × Int × Int):RstAt (((w.setCell ⟨b,0,none⟩ (.bool r'.1)).setCell ⟨b,1,none⟩ (.int .i64 r'.2.1)).setCell ⟨b,2,none⟩ (.int .i64 r'.2.2)) b r':=by
 unfold RstAt at h ⊢
 simp only [World.setCell,Array.getElem?_modify,if_true,h,Option.map_some]
 rfl
end
theorem cheapest_zero (W H:Int)(s:ByteArray)(a:Option Addr)(n c cb pb mb fb lb kb m nt:Nat)(far bl:List Int)(oth:List (List Int)):ChSays W H s a n c cb pb mb fb lb kb m nt far bl oth 0:=by
 intro p nk B x w hp hx hI hnk
 obtain rfl:p=6:=by omega
 obtain ⟨w1,hw1⟩:∃ w1,w1=((w.alloc (srO W H s a n c cb pb mb fb lb kb)).alloc (atO 6 x)).alloc (.cells #[.bool false,.int .i64 0,.int .i64 0] 152):=⟨_,rfl⟩
 have hb1:Below w.heap.size w w1:=by rw [hw1];exact (((zX _ _).alloc (zL _) _).alloc (by simp) _).alloc (by simp;omega) _
 have hr:=rstAt_new ((w.alloc (srO W H s a n c cb pb mb fb lb kb)).alloc (atO 6 x)) (false,0,0) (b:=w.heap.size+1+1) (by simp)
 rw [<- hw1] at hr
 have a0:w1.cell? ⟨w.heap.size+1,0,none⟩=some (.int .i64 6):=by
  rw [hw1]
  exact (Below.cell ((zX (w.heap.size+2) ((w.alloc (srO W H s a n c cb pb mb fb lb kb)).alloc (atO 6 x))).alloc (by simp) _) (p:=⟨w.heap.size+1,0,none⟩) (by simp)).trans (zbl _ _ _ (by simp) rfl)
 have r0:=hr.c0
 have r1:=hr.c1
 have r2:=hr.c2
 have f0:=hr.fz 0
 have f1:=hr.fz 1
 have f2:=hr.fz 2
 have HB1:=qz hb1
 have HI:=qz hI
 have HW1:=qz hw1
 rw [hw1] at a0 r0 r1 r2 f0 f1 f2
 simp only [] at r0 r1 r2
 have hBB:=hI.hB
 clear hb1 hI hr hw1
 go_enter Tryz.func91,Tryz.ntmps91
 go_wp2_with fail
 refine bodyPost_ret (v:=rstV (true,0,0)) (by simp [results,Tryz.results91,go_sem,r0,r1,r2]) rfl ⟨rfl,?_,?_⟩
 · exact HI.out.below ((((zX B w).alloc hBB _).alloc (by simp;omega) _).alloc (by simp;omega) _)
 · exact .ofBelow ((((zX w.heap.size w).alloc (zL _) _).alloc (by simp) _).alloc (by simp;omega) _)
set_option maxHeartbeats 2000000 in
theorem cheapest_succ (W H:Int)(s:ByteArray)(a:Option Addr)(n c cb pb mb fb lb kb m nt:Nat)(far bl:List Int)(oth:List (List Int))(hok:Okay W H s)(hfar:∀ i,far.getD i 0<=1000000)(k:Nat)(hC:ChSays W H s a n c cb pb mb fb lb kb m nt far bl oth k) :
 ChSays W H s a n c cb pb mb fb lb kb m nt far bl oth (k+1):=by
 intro p nk B x w hp hx hI hnk
 have hle:=hok.le
 have hwp:wfI (p:Int):=WalkArith.wf_i64 (by omega)
 obtain ⟨w1,hw1⟩:∃ w1,w1=((w.alloc (srO W H s a n c cb pb mb fb lb kb)).alloc (atO p x)).alloc (.cells #[.bool false,.int .i64 0,.int .i64 0] 152):=⟨_,rfl⟩
 have hb1:Below w.heap.size w w1:=by rw [hw1];exact (((zX _ _).alloc (zL _) _).alloc (by simp) _).alloc (by simp;omega) _
 have hz1:w1.heap.size=w.heap.size+3:=by rw [hw1];simp
 have hcs:∀ i v,(#[.int .i64 W,.int .i64 H,.string s,.slice a n c,.map (some cb),.map (some pb),.map (some mb),.map (some fb),.slice (some ⟨lb,0,none⟩) s.size s.size,.map (some kb)]:Array Value)[i]?=some v->w1.cell? ⟨w.heap.size,i,none⟩=some v:=fun i v hv=>by
  rw [hw1]
  exact (Below.cell (((zX (w.heap.size+1) (w.alloc (srO W H s a n c cb pb mb fb lb kb))).alloc (by simp) _).alloc (by simp) _) (p:=⟨w.heap.size,i,none⟩) (by simp)).trans (zbl _ _ _ rfl hv)
 have hat:∀ i v,(#[.int .i64 (p:Int),.int .i64 x]:Array Value)[i]?=some v->w1.cell? ⟨w.heap.size+1,i,none⟩=some v:=fun i v hv=>by
  rw [hw1]
  exact (Below.cell ((zX (w.heap.size+2) ((w.alloc (srO W H s a n c cb pb mb fb lb kb)).alloc (atO p x))).alloc (by simp) _) (p:=⟨w.heap.size+1,i,none⟩) (by simp)).trans (zbl _ _ _ (by simp) hv)
 have hr2:RstAt w1 (w.heap.size+1+1) (false,0,0):=by rw [hw1];exact rstAt_new _ (false,0,0) (by simp)
 have hI1:=hI.below (hb1.mono hI.hB)
 have hBs:=hI.hB
 obtain ⟨f,hK,hAll⟩:=hI1.kn
 have hlook:(Instr.lookup 148 (.map (some kb)) (atV p x) true).run Tryz.prog w1=.ok (.tuple #[knownM.at (f ((p:Int),x)),.bool (f ((p:Int),x)).isSome]) w1:=hK.look knownL (a:=((p:Int),x)) ⟨hwp,hx⟩
 have q9:=hcs 9 _ rfl
 have a0:=hat 0 _ rfl
 have a1:=hat 1 _ rfl
 have hp6:¬ (p:Int)=6:=by omega
 have hpe:((p:Int)==6)=false:=by simpa using hp6
 clear hp6
 have HW1:=qz hw1
 have HB1:=qz hb1
 have HI1:=qz hI1
 have HI0:=qz hI
 have HR2:=qz hr2
 have HCS:=qz hcs
 have HAT:=qz hat
 have HPE:Hid (5-k=p):=by unfold Hid;omega
 cases hf:f ((p:Int),x) with
 | some r =>
   have HR:Hid (r=rstOf (pathS W H (zaa s) far bl oth (k+1) x)):=by
    obtain ⟨k',hk',e1,e2⟩:=hAll p x hwp hx r hf
    obtain rfl:k'=k+1:=by omega
    exact e2
   rw [hf] at hlook
   obtain ⟨r0,r1,r2⟩:=r
   have hlook:(Instr.lookup 148 (.map (some kb)) (atV p x) true).run Tryz.prog w1=.ok (.tuple #[.agg #[.bool r0,.int .i64 r1,.int .i64 r2],.bool true]) w1:=hlook
   have hb2:Below w1.heap.size w1 (w1.alloc (.cells #[.bool r0,.int .i64 r1,.int .i64 r2] 152)):=(zX _ _).alloc (zL _) _
   have hr2':=hr2.keep (hb2.block _ (show w.heap.size+1+1<w1.heap.size by omega))
   have u0:=hr2'.c0
   have u1:=hr2'.c1
   have u2:=hr2'.c2
   have v0:=hr2'.fz 0
   have v1:=hr2'.fz 1
   have v2:=hr2'.fz 2
   simp only [] at u0 u1 u2
   have HB2:=qz (hb1.trans (hb2.mono (by omega)))
   rw [hw1] at hlook q9 a0 a1 u0 u1 u2 v0 v1 v2
   clear hf hAll hK hI1 hb1 hb2 hr2 hr2' hcs hat hw1 hI hC
   go_enter Tryz.func91,Tryz.ntmps91
   go_wp2_with fail
   refine bodyPost_ret (v:=rstV (r0,r1,r2)) (by simp [results,Tryz.results91,go_sem,u0,u1,u2]) rfl ⟨by rw [<- HR.out],?_,?_⟩
   · have h:=HI0.out.below (((((zX B w).alloc hBs (srO W H s a n c cb pb mb fb lb kb)).alloc (by simp;omega) (atO p x)).alloc (by simp;omega) (.cells #[.bool r0,.int .i64 r1,.int .i64 r2] 152)).alloc (by simp;omega) (.cells #[.bool r0,.int .i64 r1,.int .i64 r2] 152))
     exact h.alt (S:=fun _=>False) (Alt.refl _ _) (fun k hk=>hk.elim) (h.kn.less (by omega))
   · exact .ofBelow (((((zX w.heap.size w).alloc (zL _) _).alloc (by simp) _).alloc (by simp;omega) _).alloc (by simp;omega) _)
 | none =>
   rw [hf] at hlook
   have hlook:(Instr.lookup 148 (.map (some kb)) (atV p x) true).run Tryz.prog w1=.ok (.tuple #[.agg #[.bool false,.int .i64 0,.int .i64 0],.bool false]) w1:=hlook
   obtain ⟨w2,hw2⟩:∃ w2,w2=(w1.alloc (.cells #[.bool false,.int .i64 0,.int .i64 0] 152)).alloc (.cells #[.bool false,.int .i64 0,.int .i64 0] 152):=⟨_,rfl⟩
   have hb2:Below w1.heap.size w1 w2:=by rw [hw2];exact ((zX _ _).alloc (zL _) _).alloc (by simp) _
   have hz2:w2.heap.size=w.heap.size+5:=by rw [hw2];simp [hz1]
   have hr4:RstAt w2 (w.heap.size+4) (false,0,0):=by rw [hw2];exact rstAt_new _ (false,0,0) (by simp [hz1])
   have g0:=(hb2.cell (p:=⟨w.heap.size,0,none⟩) (show w.heap.size<w1.heap.size by omega)).trans (hcs 0 _ rfl)
   have g1:=(hb2.cell (p:=⟨w.heap.size,1,none⟩) (show w.heap.size<w1.heap.size by omega)).trans (hcs 1 _ rfl)
   have g2:=(hb2.cell (p:=⟨w.heap.size,2,none⟩) (show w.heap.size<w1.heap.size by omega)).trans (hcs 2 _ rfl)
   have g3:=(hb2.cell (p:=⟨w.heap.size+1,1,none⟩) (show w.heap.size+1<w1.heap.size by omega)).trans a1
   have HWY:=qz (ways_any W H x s w2 hok)
   have HTH:=qz fun (q:Nat) (t:Int) V hq ht hI=>through_any W H s a n c cb pb mb fb lb kb m nt far bl oth k hfar (by omega) hC p q B x t V hq hx ht hI
   have HGO:=qz fun (y:Int) V=>goes_any W H x y s V hok
   have HK1:=qz hz1
   have HK2:=qz hz2
   have HB2:=qz hb2
   have HR4:=qz hr4
   have HX:=qz hx
   have HWP:=qz hwp
   have HW2:Hid (w2=((((w.alloc (srO W H s a n c cb pb mb fb lb kb)).alloc (atO p x)).alloc (.cells #[.bool false,.int .i64 0,.int .i64 0] 152)).alloc (.cells #[.bool false,.int .i64 0,.int .i64 0] 152)).alloc (.cells #[.bool false,.int .i64 0,.int .i64 0] 152)):=by unfold Hid;rw [hw2,hw1]
   rw [hw1] at hlook q9 a0 a1
   rw [HW2.out] at g0 g1 g2 g3
   clear hf hAll hK hI1 hb1 hb2 hr2 hr4 hcs hat hw1 hw2 hI hC hx hwp
   go_enter Tryz.func91,Tryz.ntmps91
   go_wp2_with fail
   rw [<- HW2.out]
   refine HWY.out.mono ?_
   rintro e w3 ⟨v,rfl,hown,hb3⟩
   obtain ⟨va,vc,rfl,hvc,hvm,hvcell⟩:=hown.cells (n:=(waysS W H (zaa s) x).length) rfl
   have hb3B:=hb3.mono (show B<=w2.heap.size by omega)
   have hz3:=hb3.size
   have hI3:=(HI1.out.below (HB2.out.mono (by omega))).below hb3B
   have hr3:=HR4.out.keep (hb3.block (w.heap.size+4) (by omega))
   have hkbB:kb<B:=HI1.out.lt.2.2.2
   have hA3:Alt (fun k=>k=kb) w w3:=.ofBelow ((HB1.out.trans (HB2.out.mono (by omega))).trans (hb3.mono (by omega)))
   have HA3:=qz hA3
   have HI3:=qz hI3
   have HR3:=qz hr3
   have HQ:Hid (∀ V,Alt (fun b=>b=kb\/b=w.heap.size+4) w3 V->∀ i v,(#[.int .i64 W,.int .i64 H,.string s,.slice a n c,.map (some cb),.map (some pb),.map (some mb),.map (some fb),.slice (some ⟨lb,0,none⟩) s.size s.size,.map (some kb)]:Array Value)[i]?=some v->V.cell? ⟨w.heap.size,i,none⟩=some v):=fun V hV i v hv =>
    (hV.cell (p:=⟨w.heap.size,i,none⟩) (show w.heap.size<w3.heap.size by omega) (by show ¬ (w.heap.size=kb\/w.heap.size=w.heap.size+4);omega)).trans ((hb3.cell (p:=⟨w.heap.size,i,none⟩) (show w.heap.size<w2.heap.size by omega)).trans ((HB2.out.cell (p:=⟨w.heap.size,i,none⟩) (show w.heap.size<w1.heap.size by omega)).trans (HCS.out i v hv)))
   have HP:Hid (∀ V,Alt (fun b=>b=kb\/b=w.heap.size+4) w3 V->∀ i v,(#[.int .i64 (p:Int),.int .i64 x]:Array Value)[i]?=some v->V.cell? ⟨w.heap.size+1,i,none⟩=some v):=fun V hV i v hv =>
    (hV.cell (p:=⟨w.heap.size+1,i,none⟩) (show w.heap.size+1<w3.heap.size by omega) (by show ¬ (w.heap.size+1=kb\/w.heap.size+1=w.heap.size+4);omega)).trans ((hb3.cell (p:=⟨w.heap.size+1,i,none⟩) (show w.heap.size+1<w2.heap.size by omega)).trans ((HB2.out.cell (p:=⟨w.heap.size+1,i,none⟩) (show w.heap.size+1<w1.heap.size by omega)).trans (HAT.out i v hv)))
   have HRS:Hid (∀ V,Alt (fun b=>b=kb\/b=w.heap.size+4) w3 V->RstAt V (w.heap.size+1+1) (false,0,0)):=fun V hV =>
    ((HR2.out.keep (HB2.out.block _ (by omega))).keep (hb3.block _ (by omega))).keep (hV.block _ (by omega) (by show ¬ (w.heap.size+1+1=kb\/w.heap.size+1+1=w.heap.size+4);omega))
   have HV:Hid (∀ V,Alt (fun b=>b=kb\/b=w.heap.size+4) w3 V->∀ i,i<(waysS W H (zaa s) x).length->∃ g,va=some ⟨g,0,none⟩/\V.cell? ⟨g,i,none⟩=some (.int .i64 (((waysS W H (zaa s) x).getD i 0:Nat):Int))):=fun V hV i hi=>by
    obtain ⟨g,e,hg1,hg2,hg3⟩:=hvcell (by omega)
    exact ⟨g,e,(hV.cell (p:=⟨g,i,none⟩) hg2 (by show ¬ (g=kb\/g=w.heap.size+4);omega)).trans (hg3 i hi)⟩
   have HPW:=qz (pathS_ways W H (zaa s) far bl oth k x)
   have HWA:=qz fun i (hi:i<(waysS W H (zaa s) x).length)=>waysS_at hi
   have hn5:=waysS_len W H (zaa s) x
   obtain ⟨ws,hws⟩:∃ ws,waysS W H (zaa s) x=ws:=⟨_,rfl⟩
   rw [hws] at HV HPW HWA hn5
   rw [hws] at hvc
   simp only [hws]
   obtain ⟨N,hN⟩:∃ N,N=ws.length:=⟨_,rfl⟩
   rw [<- hN] at HV HWA hn5 hvc ⊢
   have HN:=qz hN
   obtain ⟨C,hC⟩:∃ C,C=cntK k:=⟨_,rfl⟩
   have hc1:cntK (k+1)=5*C+1:=by rw [cntK,hC]
   have HCK:=qz hC
   have HC1:=qz hc1
   have hb5:nk+5*C+1<=100000:=by omega
   have hCC:∀ i,i<=5->i*C<=5*C:=fun i hi=>Nat.mul_le_mul_right C hi
   have HCC:=qz hCC
   rw [<- hC] at HTH
   unfold maxLen at hvm
   clear hown hb3 hb3B hI3 hr3 hA3 hvcell hws hN hC hc1 hCC
   go_wp2_with fail
   go_loopw [33] (fun v wr=>∃ i:Nat,i<=N/\v=.int .i64 i/\Hid (SrIn wr B W H s cb pb mb lb kb m nt (nk+i*C) far bl oth)/\Hid (RstAt wr (w.heap.size+4) (rstOf (bestL (zce W H (zaa s) far bl oth k x) (ws.take i))))/\Hid (Alt (fun b=>b=kb\/b=w.heap.size+4) w3 wr)) (fun v _=>N-(intOf v).toNat)
   case atStart=>exact ⟨0,Nat.zero_le _,rfl,by rw [Nat.zero_mul];exact HI3.out,HR3.out,Alt.refl _ _⟩
   case round =>
    obtain ⟨i,hi,rfl,HI,HR,HA⟩:=hrel
    have hAr:=HA.out
    have hsr:=hAr.size
    by_cases hlt:i<N
    · obtain ⟨g,rfl,hvi⟩:=HV.out wr hAr i hlt
      have hgoes:=HWA.out i hlt
      have HBT:=qz (bestL_take (f:=zce W H (zaa s) far bl oth k x) (l:=ws) (i:=i) (by rw [<- HN.out];exact hlt))
      generalize ws.getD i 0=y at hvi hgoes HBT
      have q0:=HQ.out wr hAr 0 _ rfl
      have q1:=HQ.out wr hAr 1 _ rfl
      have q2:=HQ.out wr hAr 2 _ rfl
      have p1:=HP.out wr hAr 1 _ rfl
      have HTC:=qz (candP_thru (far:=far) (bl:=bl) (oth:=oth) (k:=k) hgoes)
      obtain ⟨⟨t,ok⟩,hto⟩:∃ D,zak W H (zaa s) x (y:Nat)=D:=⟨_,rfl⟩
      rw [hto] at hgoes HTC
      simp only [] at hgoes HTC
      subst hgoes
      have ht:=goesS_nat hto
      have HGG:=qz (HGO.out (y:Nat))
      have HTO:=qz hto
      clear hto
      go_wp2_with fail
      refine (HGG.out _).mono ?_
      rw [HTO.out]
      rintro e wg ⟨rfl,hbg⟩
      have hAg:=hAr.calls (hbg.mono hsr)
      have hIg:=HI.out.below (hbg.mono HI.out.hB)
      have hRg:=HR.out.keep (hbg.block (w.heap.size+4) (by omega))
      have hsg:=hbg.size
      have s0:=HQ.out wg hAg 0 _ rfl
      have s1:=HQ.out wg hAg 1 _ rfl
      have s2:=HQ.out wg hAg 2 _ rfl
      have s3:=HQ.out wg hAg 3 _ rfl
      have s4:=HQ.out wg hAg 4 _ rfl
      have s5:=HQ.out wg hAg 5 _ rfl
      have s6:=HQ.out wg hAg 6 _ rfl
      have s7:=HQ.out wg hAg 7 _ rfl
      have s8:=HQ.out wg hAg 8 _ rfl
      have s9:=HQ.out wg hAg 9 _ rfl
      have o0:=HP.out wg hAg 0 _ rfl
      have o1:=HP.out wg hAg 1 _ rfl
      have HTT:=qz (HTH.out (nk+i*C) t wg (by have:=HPE.out;omega) ⟨ht.1,by have:=ht.2;rw [zag] at this;exact this⟩ hIg (by have:=HCC.out (i+1) (by omega);rw [Nat.add_mul] at this;omega))
      have HAg:=qz hAg
      have HRg:=qz hRg
      clear hbg hIg hRg hAg hAr hvi ht q0 q1 q2 p1
      go_wp2_with fail
      refine HTT.out.mono ?_
      rw [<- HTC.out]
      rintro e wt ⟨rfl,hIt,hAt⟩
      have hRt:=HRg.out.keep (hAt.block (w.heap.size+4) (by omega) (by show ¬ w.heap.size+4=kb;omega))
      have hA2:=HAg.out.trans hAt (fun j hj _=>.inl hj)
      have hst:=hAt.size
      obtain ⟨cr,hcr⟩:∃ cr,rstOf (zce W H (zaa s) far bl oth k x y)=cr:=⟨_,rfl⟩
      obtain ⟨br,hbr⟩:∃ br,rstOf (bestL (zce W H (zaa s) far bl oth k x) (ws.take i))=br:=⟨_,rfl⟩
      have hbet:rstOf (bestL (zce W H (zaa s) far bl oth k x) (ws.take (i+1)))=betterR br cr:=by rw [HBT.out,rstOf_better,hbr,hcr]
      rw [hbr] at hRt
      rw [hcr]
      obtain ⟨c0,c1,c2⟩:=cr
      obtain ⟨b0,b1,b2⟩:=br
      simp only []
      obtain ⟨w5,hw5⟩:∃ w5,w5=wt.alloc (.cells #[.bool c0,.int .i64 c1,.int .i64 c2] 152):=⟨_,rfl⟩
      have hb5:Below wt.heap.size wt w5:=by rw [hw5];exact (zX _ _).alloc (zL _) _
      have hc5:RstAt w5 wt.heap.size (c0,c1,c2):=by rw [hw5];exact rstAt_new _ (c0,c1,c2) rfl
      have hr5:=hRt.keep (hb5.block (w.heap.size+4) (by omega))
      have hI5:=hIt.below (hb5.mono hIt.hB)
      have hA5:=hA2.calls (hb5.mono (by omega))
      have hs5:=hb5.size
      have HI5:Hid (SrIn w5 B W H s cb pb mb lb kb m nt (nk+(i+1)*C) far bl oth):=by
       unfold Hid
       rw [Nat.add_mul,Nat.one_mul,<- Nat.add_assoc]
       exact hI5
      have HA5:=qz hA5
      have HR5:=qz hr5
      have d0:=hc5.c0
      have d1:=hc5.c1
      have d2:=hc5.c2
      have e0:=hr5.c0
      have e1:=hr5.c1
      have e2:=hr5.c2
      have f0:=hr5.fz 0
      have f1:=hr5.fz 1
      have f2:=hr5.fz 2
      simp only [] at d0 d1 d2 e0 e1 e2
      have HBE:=qz hbet
      have HW5:=qz hw5
      have hS4:wt.heap.size≠w.heap.size+4:=by omega
      rw [hw5] at d0 d1 d2 e0 e1 e2 f0 f1 f2
      clear hw5 hb5 hc5 hr5 hI5 hA5 hbet hIt hAt hA2 hRt hcr hbr s0 s1 s2 s3 s4 s5 s6 s7 s8 s9 o0 o1
      have HSET:Hid (rstOf (bestL (zce W H (zaa s) far bl oth k x) (ws.take (i+1)))=(c0,c1,c2)->∀ V,V=(((w5.setCell ⟨w.heap.size+4,0,none⟩ (.bool c0)).setCell ⟨w.heap.size+4,1,none⟩ (.int .i64 c1)).setCell ⟨w.heap.size+4,2,none⟩ (.int .i64 c2))->SrIn V B W H s cb pb mb lb kb m nt (nk+(i+1)*C) far bl oth/\RstAt V (w.heap.size+4) (rstOf (bestL (zce W H (zaa s) far bl oth k x) (ws.take (i+1))))/\Alt (fun b=>b=kb\/b=w.heap.size+4) w3 V):=fun he V hV=>by
       subst hV
       rw [he]
       refine ⟨HI5.out.below (below_set3 (zX B w5) (by omega) _ _ _),HR5.out.set3 (c0,c1,c2),?_⟩
       have h3:Alt (fun b=>b=w.heap.size+4) w5 (((w5.setCell ⟨w.heap.size+4,0,none⟩ (.bool c0)).setCell ⟨w.heap.size+4,1,none⟩ (.int .i64 c1)).setCell ⟨w.heap.size+4,2,none⟩ (.int .i64 c2)) :=
        ⟨rfl,rfl,rfl,by simp [World.setCell],fun j hj hn=>(Below.heap_setCell _ ⟨w.heap.size+4,2,none⟩ _ j hn).trans ((Below.heap_setCell _ ⟨w.heap.size+4,1,none⟩ _ j hn).trans (Below.heap_setCell _ ⟨w.heap.size+4,0,none⟩ _ j hn))⟩
       exact HA5.out.trans h3 (fun j hj _=>.inr hj)
      cases c0 with
      | false =>
        have HE:Hid (rstOf (bestL (zce W H (zaa s) far bl oth k x) (ws.take (i+1)))=(b0,b1,b2)):=by unfold Hid;rw [HBE.out];simp [betterR]
        go_wp2_with fail
        rw [<- HW5.out]
        go_roundw
        case rel=>exact ⟨i+1,by omega,by go_num,HI5.out,by rw [HE.out];exact HR5.out,HA5.out⟩
        case measure=>simp [intOf];omega
      | true =>
        cases b0 with
        | false =>
          have HE:Hid (rstOf (bestL (zce W H (zaa s) far bl oth k x) (ws.take (i+1)))=(true,c1,c2)):=by unfold Hid;rw [HBE.out];simp [betterR]
          go_wp2_with fail
          rw [<- HW5.out]
          obtain ⟨x1,x2,x3⟩:=HSET.out HE.out _ rfl
          go_roundw
          case rel=>exact ⟨i+1,by omega,by go_num,x1,x2,x3⟩
          case measure=>simp [intOf];omega
        | true =>
          by_cases hcb:c2<b2
          · have HE:Hid (rstOf (bestL (zce W H (zaa s) far bl oth k x) (ws.take (i+1)))=(true,c1,c2)):=by unfold Hid;rw [HBE.out];simp [betterR,hcb]
            have hdc:decide (c2<b2)=true:=decide_eq_true hcb
            go_wp2_with fail
            rw [<- HW5.out]
            obtain ⟨x1,x2,x3⟩:=HSET.out HE.out _ rfl
            go_roundw
            case rel=>exact ⟨i+1,by omega,by go_num,x1,x2,x3⟩
            case measure=>simp [intOf];omega
          · have HE:Hid (rstOf (bestL (zce W H (zaa s) far bl oth k x) (ws.take (i+1)))=(true,b1,b2)):=by unfold Hid;rw [HBE.out];simp [betterR,hcb]
            have hdc:decide (c2<b2)=false:=decide_eq_false hcb
            go_wp2_with fail
            rw [<- HW5.out]
            go_roundw
            case rel=>exact ⟨i+1,by omega,by go_num,HI5.out,by rw [HE.out];exact HR5.out,HA5.out⟩
            case measure=>simp [intOf];omega
    · obtain rfl:i=N:=by omega
      have HE:Hid (rstOf (bestL (zce W H (zaa s) far bl oth k x) (ws.take i))=rstOf (pathS W H (zaa s) far bl oth (k+1) x)):=by unfold Hid;rw [HPW.out,List.take_of_length_le (by rw [<- HN.out];exact zL _)]
      have hR:=HR.out
      rw [HE.out] at hR
      obtain ⟨⟨b0,b1,b2⟩,hbr⟩:∃ br,rstOf (pathS W H (zaa s) far bl oth (k+1) x)=br:=⟨_,rfl⟩
      rw [hbr] at hR
      have q9:=HQ.out wr hAr 9 _ rfl
      have p0:=HP.out wr hAr 0 _ rfl
      have p1:=HP.out wr hAr 1 _ rfl
      have hbound:=HCC.out i (by omega)
      obtain ⟨f,hK,hAll⟩:=HI.out.kn
      obtain ⟨w6,hrun,hK6,hg6,hz6⟩:=hK.put knownL (a:=((p:Int),x)) (b:=(b0,b1,b2)) (by omega) ⟨HWP.out,HX.out⟩ trivial
      have hrun:(Instr.mapUpdate 148 (.map (some kb)) (atV p x) (.agg #[.bool b0,.int .i64 b1,.int .i64 b2])).run Tryz.prog wr=.ok () w6:=hrun
      have hA6:Alt (fun j=>j=kb) wr w6:=(Alt.refl _ wr).grown hg6 (fun _=>rfl)
      have hKN:KnIn w6 kb (nk+cntK (k+1)) W H (zaa s) far bl oth:=by
       refine KnIn.less ⟨_,hK6,fun p' x' hp' hx' r hr=>?_⟩ (by rw [HC1.out];omega)
       by_cases e:(p',x')=((p:Int),x)
       · rw [if_pos e] at hr
         injection hr with hr
         injection e with e1 e2
         subst hr e1 e2
         exact ⟨k+1,by omega,by omega,hbr.symm⟩
       · rw [if_neg e] at hr
         exact hAll p' x' hp' hx' r hr
      have HI6:=qz (HI.out.alt hA6 (fun j hj=>.inl hj) hKN)
      have hr6:=hR.keep (hA6.block (w.heap.size+4) (by omega) (by show ¬ w.heap.size+4=kb;omega))
      have hs6:=(HRS.out wr hAr).keep (hA6.block (w.heap.size+1+1) (by omega) (by show ¬ w.heap.size+1+1=kb;omega))
      have HA6:=qz (hAr.trans hA6 (fun j hj _=>.inl hj))
      have c0:=hR.c0
      have c1:=hR.c1
      have c2:=hR.c2
      have d0:=hr6.c0
      have d1:=hr6.c1
      have d2:=hr6.c2
      have e0:=hs6.c0
      have e1:=hs6.c1
      have e2:=hs6.c2
      have f0:=hs6.fz 0
      have f1:=hs6.fz 1
      have f2:=hs6.fz 2
      simp only [] at c0 c1 c2 d0 d1 d2 e0 e1 e2
      have HBR:=qz hbr
      clear hR hbr hK hAll hK6 hg6 hA6 hKN hr6 hs6 hAr
      go_wp2_with fail
      refine bodyPost_ret (v:=rstV (b0,b1,b2)) (by simp [results,Tryz.results91,go_sem,e0,e1,e2]) rfl ⟨by rw [HBR.out],?_,?_⟩
      · exact HI6.out.below (below_set3 (zX B w6) (by omega) _ _ _)
      · exact alt_set3 (HA3.out.trans HA6.out (fun j hj hlt=>by rcases hj with e|e;exact e;omega)) (by omega) _ _ _
end Go.Proofs.YtknnnbpgkfaapaaGreat.Vm
