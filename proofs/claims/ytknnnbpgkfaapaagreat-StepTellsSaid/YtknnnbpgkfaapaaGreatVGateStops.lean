import Derived.Test.YtknnnbpgkfaapaaGreatQ
import Derived.Test.YtknnnbpgkfaapaaGreatVGateMaps
import Derived.StillTailTactics
import Derived.Deep.LoopGhost
set_option maxRecDepth 100000
set_option linter.unusedSimpArgs false
set_option linter.unusedVariables false
namespace Go.Proofs.YtknnnbpgkfaapaaGreat.Vm
open Go Go.RowKit Go.Maps
structure Tr (w:World)(B b m2 m3 m4:Nat)(a1:Option Addr)(n c1:Nat)(a2:Option Addr)(c2:Nat)(cells wants blocked now:List Int):Prop where
 s0:w.cell? ⟨b,0,none⟩=some (.slice a1 n c1)
 s1:w.cell? ⟨b,1,none⟩=some (.slice a2 n c2)
 s2:w.cell? ⟨b,2,none⟩=some (.map (some m2))
 s3:w.cell? ⟨b,3,none⟩=some (.map (some m3))
 s4:w.cell? ⟨b,4,none⟩=some (.map (some m4))
 rc:RowZ .i64 w B a1 n c1 cells
 ow:OwnZ w B (.slice a2 n c2) now
 ln:now.length=n
 sh:∃ k,ShutIn w m2 k blocked
 mi:∃ k,MapIn w m3 k (inG cells n)
 mf:∃ k,MapIn w m4 k (zbg cells wants n)
 hB:B<=b
 lt:b<w.heap.size
 ne:∀ g,a2=some ⟨g,0,none⟩->g≠b/\g≠m2/\g≠m3/\g≠m4
section
variable {w w':World} {B b m2 m3 m4 n c1 c2:Nat} {a1 a2:Option Addr} {cells wants blocked now:List Int}
theorem Tr.calls (h:Tr w B b m2 m3 m4 a1 n c1 a2 c2 cells wants blocked now)(hb:Below w.heap.size w w'):Tr w' B b m2 m3 m4 a1 n c1 a2 c2 cells wants blocked now:=by
 have hl:=h.lt
 have hB:=h.hB
 refine ⟨(hb.cell (p:=⟨b,0,none⟩) hl).trans h.s0,(hb.cell (p:=⟨b,1,none⟩) hl).trans h.s1,(hb.cell (p:=⟨b,2,none⟩) hl).trans h.s2,(hb.cell (p:=⟨b,3,none⟩) hl).trans h.s3,(hb.cell (p:=⟨b,4,none⟩) hl).trans h.s4,
  h.rc.below (hb.mono (by omega)),h.ow.calls hb,h.ln,?_,?_,?_,hB,Nat.lt_of_lt_of_le hl hb.size,h.ne⟩
 · obtain ⟨k,hs⟩:=h.sh;exact ⟨k,hs.keep (hb.block m2 hs.lt)⟩
 · obtain ⟨k,hs⟩:=h.mi;exact ⟨k,hs.keep (hb.block m3 hs.lt)⟩
 · obtain ⟨k,hs⟩:=h.mf;exact ⟨k,hs.keep (hb.block m4 hs.lt)⟩
theorem Tr.want (h:Tr w B b m2 m3 m4 a1 n c1 a2 c2 cells wants blocked now){i:Nat}(hi:i<n)(z:Int) :
 ∃ g,a2=some ⟨g,0,none⟩/\B<=g/\g<w.heap.size/\w.frozen? ⟨g,i,none⟩=false/\w.cell? ⟨g,i,none⟩=some (.int .i64 (now.getD i 0)) /\
   Tr (w.setCell ⟨g,i,none⟩ (.int .i64 z)) B b m2 m3 m4 a1 n c1 a2 c2 cells wants blocked (now.set i z):=by
 obtain ⟨g,hg,hbg,hfz,hc,hw⟩:=h.ow.at h.ln hi z
 obtain ⟨n1,n2,n3,n4⟩:=h.ne g hg
 have hB:=h.hB
 have hk:∀ k,k≠g->(w.setCell ⟨g,i,none⟩ (.int .i64 z)).heap[k]?=w.heap[k]?:=fun k hk=>Below.heap_setCell w ⟨g,i,none⟩ _ k hk
 have hcb:∀ o,(w.setCell ⟨g,i,none⟩ (.int .i64 z)).cell? ⟨b,o,none⟩=w.cell? ⟨b,o,none⟩:=fun o=>World.cell?_of_block (w:=w) (hk b (Ne.symm n1))
 refine ⟨g,hg,hbg,World.block_lt_of_cell? w _ hc,hfz,hc,(hcb 0).trans h.s0,(hcb 1).trans h.s1,(hcb 2).trans h.s2,(hcb 3).trans h.s3,(hcb 4).trans h.s4,
  h.rc.below ((zX B w).setCell (p:=⟨g,i,none⟩) hbg _),hw,by rw [List.length_set];exact h.ln,?_,?_,?_,hB,by simpa [World.setCell] using h.lt,h.ne⟩
 · obtain ⟨k,hs⟩:=h.sh;exact ⟨k,hs.keep (hk m2 (Ne.symm n2))⟩
 · obtain ⟨k,hs⟩:=h.mi;exact ⟨k,hs.keep (hk m3 (Ne.symm n3))⟩
 · obtain ⟨k,hs⟩:=h.mf;exact ⟨k,hs.keep (hk m4 (Ne.symm n4))⟩
end
set_option maxHeartbeats 1000000 in
theorem isStopped_any (w:World)(B b m2 m3 m4 n c1 c2:Nat)(a1 a2:Option Addr)(cells wants blocked now:List Int)(h:Tr w B b m2 m3 m4 a1 n c1 a2 c2 cells wants blocked now)(hw:WfZ now)(hn:n<=100000)(i:Nat)(hi:i<n) :
 Calls Tryz.prog 95 #[.pointer (some ⟨b,0,none⟩),.int .i64 (i:Int)] w fun e w'=>e=.returned (.bool (stopB cells wants blocked now (i:Int)))/\Below w.heap.size w w':=by
 have hlc:=h.rc.1
 have hln:=h.ln
 have hc1:=h.rc.2.1
 obtain ⟨g,rfl,hbg,hgl,_,hcg,_⟩:=h.want hi 0
 have hc2:n<=c2:=by
  obtain ⟨a',c',e,hr⟩:=h.ow.sliced h.ln
  injection e with _ _ e
  subst e
  exact hr.2.1
 obtain ⟨bc,off,rfl,hbc,hcc⟩:=h.rc.cells (by omega)
 have hci:=hcc i hi
 have hwz:=hw.at i (by omega)
 have hbl:=h.lt
 have hBl:=h.hB
 have hbcl:bc<w.heap.size:=by omega
 obtain ⟨k2,hsh⟩:=h.sh
 obtain ⟨k3,hmi⟩:=h.mi
 obtain ⟨k4,hmf⟩:=h.mf
 have L2:∀ d,(Instr.lookup 73 (.map (some m2)) (.int .i64 (now.getD i 0)) true).run Tryz.prog (w.drewN d)=.ok (.tuple #[.agg #[],.bool (decide (now.getD i 0∈blocked))]) (w.drewN d) :=
  fun d=>ShutIn.look (w:=w.drewN d) (hsh.keep rfl) hwz
 have L3:∀ d o,(Instr.lookup 112 (.map (some m3)) (.int .i64 (now.getD i 0)) true).run Tryz.prog ((w.drewN d).alloc o)=.ok (.tuple #[.int .i64 ((inG cells n (now.getD i 0)).getD 0),.bool (inG cells n (now.getD i 0)).isSome]) ((w.drewN d).alloc o) :=
  fun d o=>MapIn.look (hmi.keep (Below.heap_alloc (w.drewN d) o m3 hmi.lt)) hwz
 have L4:∀ d o,(Instr.lookup 112 (.map (some m4)) (.int .i64 (now.getD i 0)) false).run Tryz.prog ((w.drewN d).alloc o)=.ok (.int .i64 ((zbg cells wants n (now.getD i 0)).getD 0)) ((w.drewN d).alloc o) :=
  fun d o=>MapIn.look1 (hmf.keep (Below.heap_alloc (w.drewN d) o m4 hmf.lt)) hwz
 have hcA:∀ (d:Nat) (o:Obj) (p:Addr),p.block<w.heap.size->((w.drewN d).alloc o).cell? p=w.cell? p:=fun d o p hp=>World.cell?_of_block (w:=w) (Below.heap_alloc (w.drewN d) o p.block hp)
 have HCA:=qz hcA
 have S1:∀ (d:Nat) (o:Obj),((w.drewN d).alloc o).cell? ⟨b,1,none⟩=some (.slice (some ⟨g,0,none⟩) n c2):=fun d o=>(hcA d o ⟨b,1,none⟩ hbl).trans h.s1
 have S3:∀ (d:Nat) (o:Obj),((w.drewN d).alloc o).cell? ⟨b,3,none⟩=some (.map (some m3)):=fun d o=>(hcA d o ⟨b,3,none⟩ hbl).trans h.s3
 have S4:∀ (d:Nat) (o:Obj),((w.drewN d).alloc o).cell? ⟨b,4,none⟩=some (.map (some m4)):=fun d o=>(hcA d o ⟨b,4,none⟩ hbl).trans h.s4
 clear hcA
 have HBD:Hid (∀ d,Below w.heap.size w (w.drewN d)):=fun d=>zaf (zX _ _) d
 have HBA:Hid (∀ d o,Below w.heap.size w ((w.drewN d).alloc o)):=fun d o=>(zaf (zX _ _) d).alloc (zL _) o
 have HJ:=qz (fun (j:Nat) (hj:j<n)=>(h.want (i:=j) hj 0))
 have HIN:=qz (fun (x:Int) (hx:inG cells n (now.getD i 0)=some x)=>inG_some hx)
 have HYES:=qz (stopB_yes (cells:=cells) (wants:=wants) (blocked:=blocked) (now:=now) (i:=i))
 have HNO:=qz (stopB_no (cells:=cells) (wants:=wants) (blocked:=blocked) (now:=now) (i:=i))
 obtain ⟨s0,s1,s2,s3,s4,_,_,_,_,_,_,_,_,_⟩:=h
 unfold StopP at HYES HNO
 rw [hlc] at HYES HNO
 generalize hF:zbg cells wants n (now.getD i 0)=F at HYES HNO L4
 generalize hI:inG cells n (now.getD i 0)=I at HYES HNO L3 HIN
 generalize hz:now.getD i 0=z at HYES HNO L2 L3 L4 HIN hcg
 generalize hy:cells.getD i 0=y at HYES HNO hci
 have HI:=qz hI
 clear hF hI hz hy hcc hsh hmi hmf hwz
 by_cases e1:z=y
 · have HE:Hid (stopB cells wants blocked now (i:Int)=false):=HNO.out fun hh=>hh.1 e1
   have g1:(z==y)=true:=by simpa using e1
   clear L2 L3 L4 e1
   go_enter Tryz.func95,Tryz.ntmps95
   go_wp2_with fail
   go_quiet (fail)
   go_wp2_with fail
   go_ret
   exact ⟨zad HE.out.symm,HBD.out _⟩
 have g1:(z==y)=false:=by simpa using e1
 by_cases e2:z∈blocked
 · have HE:Hid (stopB cells wants blocked now (i:Int)=true):=HYES.out ⟨e1,.inl (.inl e2)⟩
   simp only [e2,decide_true] at L2
   clear L3 L4 e1 e2
   go_enter Tryz.func95,Tryz.ntmps95
   go_wp2_with fail
   go_quiet (fail)
   go_wp2_with fail
   go_ret
   exact ⟨zad HE.out.symm,HBA.out _ _⟩
 simp only [e2,decide_false] at L2
 by_cases e3:F.getD 0≠(i:Int)
 · have HE:Hid (stopB cells wants blocked now (i:Int)=true):=HYES.out ⟨e1,.inl (.inr e3)⟩
   have g3:(F.getD 0 != (i:Int))=true:=by rw [bne_iff_ne];exact e3
   generalize F.getD 0=f at L4 g3
   clear L3 e1 e2 e3
   go_enter Tryz.func95,Tryz.ntmps95
   go_wp2_with fail
   go_quiet (fail)
   go_wp2_with fail
   go_ret
   exact ⟨zad HE.out.symm,HBA.out _ _⟩
 have e3':F.getD 0=(i:Int):=Classical.not_not.1 e3
 rw [e3'] at L4
 have g3:((i:Int) != (i:Int))=false:=by simp
 cases hII:I with
 | none =>
   have HE:Hid (stopB cells wants blocked now (i:Int)=false):=HNO.out fun hh=>by
    rcases hh.2 with (hb|hb)|⟨j,hj,_⟩
    · exact e2 hb
    · exact e3 hb
    · rw [hII] at hj;cases hj
   simp only [hII,Option.getD_none,Option.isSome_none] at L3
   clear e1 e2 e3 e3' hII
   go_enter Tryz.func95,Tryz.ntmps95
   go_wp2_with fail
   go_quiet (fail)
   go_wp2_with fail
   go_ret
   exact ⟨zad HE.out.symm,HBA.out _ _⟩
 | some x =>
   obtain ⟨j,rfl,hj,_⟩:=HIN.out x hII
   obtain ⟨g',eg,_,_,_,hcj,_⟩:=HJ.out j hj
   injection eg with eg
   injection eg with eg _ _
   subst eg
   simp only [hII,Option.getD_some,Option.isSome_some] at L3
   have hcj:=fun d o=>(HCA.out d o ⟨g,j,none⟩ hgl).trans hcj
   by_cases e4:now.getD j 0=z\/now.getD j 0=y
   · have HE:Hid (stopB cells wants blocked now (i:Int)=true):=HYES.out ⟨e1,.inr ⟨j,hII,e4⟩⟩
     generalize now.getD j 0=x at hcj e4
     by_cases e5:x=z
     · have g5:(x==z)=true:=by simpa using e5
       clear e1 e2 e3 e3' e4 e5 hII
       go_enter Tryz.func95,Tryz.ntmps95
       go_wp2_with fail
       go_quiet (fail)
       go_wp2_with fail
       go_ret
       exact ⟨zad HE.out.symm,HBA.out _ _⟩
     · have g5:(x==z)=false:=by simpa using e5
       have g6:(x==y)=true:=by simpa using e4.resolve_left e5
       clear e1 e2 e3 e3' e4 e5 hII
       go_enter Tryz.func95,Tryz.ntmps95
       go_wp2_with fail
       go_quiet (fail)
       go_wp2_with fail
       go_ret
       exact ⟨zad HE.out.symm,HBA.out _ _⟩
   · have HE:Hid (stopB cells wants blocked now (i:Int)=false):=HNO.out fun hh=>by
      rcases hh.2 with (hb|hb)|⟨j',hj',hc⟩
      · exact e2 hb
      · exact e3 hb
      · rw [hII] at hj'
        injection hj' with hj'
        obtain rfl:j=j':=by omega
        exact e4 hc
     generalize now.getD j 0=x at hcj e4
     have g5:(x==z)=false:=by simpa using fun e=>e4 (.inl e)
     have g6:(x==y)=false:=by simpa using fun e=>e4 (.inr e)
     clear e1 e2 e3 e3' e4 hII
     go_enter Tryz.func95,Tryz.ntmps95
     go_wp2_with fail
     go_quiet (fail)
     go_wp2_with fail
     go_ret
     exact ⟨zad HE.out.symm,HBA.out _ _⟩
theorem push_stepZ {w wr w1:World}{B:Nat}{v v':Value}{out:List Int}{x:Int}{o:Obj}(hown:OwnZ wr B v out)(hbel:Below B w wr)(hB:B<=w.heap.size)
 (hown1:w1.ownsRow B 3 1 v' (out.length+1) (zan out++[.int .i64 x])) (hg:(wr.alloc o).grownBy w1 v.ownBlock):OwnZ w1 B v' (out++[x])/\Below B w w1:=by
 have hs:=hbel.size
 refine ⟨?_,(hbel.alloc (by omega) o).grown hg (by simp;omega) (fun k hk=>(World.ownsRow.lt hown k hk).1)⟩
 unfold OwnZ
 simpa [zan] using hown1
theorem filter_takeZ {l:List Int}(p:Int->Bool){k:Nat}(hk:k<l.length):(l.take (k+1)).filter p=(l.take k).filter p++(if p (l.getD k 0) then [l.getD k 0] else []):=by
 rw [List.take_succ_eq_append_getElem hk,List.filter_append]
 simp [List.getD,hk,List.filter_cons]
set_option maxHeartbeats 1000000 in
theorem those_any (b:Nat)(a:Option Addr)(n c B:Nat)(l:List Int)(p:Int->Bool)(w:World)(h:RowZ .i64 w B a n c l)(hB:B<=w.heap.size)(hn:n<=100000)
 (hp:∀ (wr:World) (s:Int),s∈l->Below w.heap.size w wr->Calls Tryz.prog 95 #[.pointer (some ⟨b,0,none⟩),.int .i64 s] wr fun e w'=>e=.returned (.bool (p s))/\Below wr.heap.size wr w') :
 Calls Tryz.prog 93 #[.slice a n c,.func (.func 95) #[.pointer (some ⟨b,0,none⟩)] #[]] w fun e w' =>
  ∃ a' c',e=.returned (.slice a' (l.filter p).length c')/\OwnZ w' w.heap.size (.slice a' (l.filter p).length c') (l.filter p)/\Below w.heap.size w w':=by
 obtain ⟨i0,hi0,hz0,hz1,hz2⟩:=info_parts info_int
 have HP:=qz hp
 have hl:=h.1
 have HCS:=qz (fun h'=>h.cells h')
 have hc1:=h.2.1
 clear hp h
 go_enter Tryz.func93,Tryz.ntmps93
 go_wp2_with fail
 go_loopw [5,10] (fun v i wr=>∃ (k:Nat) (out:List Int),k<=n/\out.length<=k/\i=.int .i64 k/\OwnZ wr w.heap.size v out/\Below w.heap.size w wr/\Hid (out=(l.take k).filter p)) (fun _ i _=>n-(intOf i).toNat)
 case atStart=>exact ⟨0,[],Nat.zero_le _,zL _,rfl,World.ownsRow_nil _ _ _ _,zX _ _,by simp [Hid]⟩
 case round =>
  obtain ⟨k,out,hk,hol,rfl,hown,hbel,HO⟩:=hrel
  by_cases hlt:k<n
  · obtain ⟨bb,off,rfl,hb,hcs⟩:=HCS.out (by omega)
    have hcell:=(hbel.cell (p:=⟨bb,off+k,none⟩) (show bb<w.heap.size by omega)).trans (hcs k hlt)
    have hcall:=HP.out wr (l.getD k 0) (by simp [List.getD,hl,hlt]) hbel
    have hsn:=filter_takeZ p (show k<l.length by omega)
    rw [<- HO.out] at hsn
    generalize l.getD k 0=z at hcell hcall hsn
    cases hpk:p z
    · rw [hpk] at hcall
      have HCALL:=qz hcall
      have HSN:Hid (out=(l.take (k+1)).filter p):=by unfold Hid;rw [hsn,hpk];simp
      clear hcall hsn hpk HO hcs
      go_wp2_with fail
      refine HCALL.out.mono ?_
      rintro e w1 ⟨rfl,hb1⟩
      have hown1:OwnZ w1 w.heap.size _ out:=hown.calls hb1
      have hbel1:=hbel.trans (hb1.mono hbel.size)
      go_wp2_with fail
      go_roundw
      case rel=>exact ⟨k+1,out,by omega,by omega,by go_num,hown1,hbel1,HSN.out⟩
      case measure=>simp [intOf];omega
    · rw [hpk] at hcall
      have HCALL:=qz hcall
      have HSN:Hid (out++[z]=(l.take (k+1)).filter p):=by unfold Hid;rw [hsn,hpk];simp
      clear hcall hsn hpk HO hcs
      go_wp2_with fail
      refine HCALL.out.mono ?_
      rintro e w1 ⟨rfl,hb1⟩
      have hown1:OwnZ w1 w.heap.size _ out:=hown.calls hb1
      have hbel1:=hbel.trans (hb1.mono hbel.size)
      clear hown hbel
      go_wp2_with (at_builtin;refine wpList_append_own _ rfl (.tmp 17) (.tmp 19) 26 rfl w.heap.size 3 i0 (.int .i64 0) 1 8 Tryz.underlying26 hi0 hz0 hz1 hz2 rfl (by decide) _ _ _ rfl (World.ownsRow.alloc hown1 _) ⟨w1.heap.size,0,none⟩ 1 1 [.int .i64 z] rfl rfl (one_cell _ _ _) (by simp [Value.oneCell']) (by simp only [maxLen];omega) (by omega) (by have:=hbel1.size;simp;omega) ?_;intro v' w2 hown2 hgrow2 _)
      have RR:=push_stepZ hown1 hbel1 (zL _) hown2 hgrow2
      clear hown2 hgrow2 hown1 hbel1
      go_wp2_with fail
      go_roundw
      case rel=>exact ⟨k+1,out++[z],by omega,by simp;omega,by go_num,RR.1,RR.2,HSN.out⟩
      case measure=>simp [intOf];omega
  · obtain rfl:k=n:=by omega
    have HO2:=HO.out
    rw [List.take_of_length_le (by omega)] at HO2
    obtain ⟨a',c',rfl⟩:=own_slice hown
    have HW:=qz hown
    go_wp2_with fail
    go_ret
    rw [<- HO2]
    exact ⟨a',c',rfl,HW.out,hbel⟩
theorem behind_take {cells wants S:List Int}{k:Nat}(hk:k<S.length) :
 behindG cells wants (S.take (k+1))=behindG cells wants (S.take k)++(match zbg cells wants cells.length (cells.getD (S.getD k 0).toNat 0) with|none=>[]|some x=>[x]):=by
 unfold behindG
 rw [List.take_succ_eq_append_getElem hk,List.filterMap_append]
 congr 1
 have e:S.getD k 0=S[k]:=by simp [List.getD,hk]
 rw [e]
 cases h:zbg cells wants cells.length (cells.getD (S[k]).toNat 0) <;> simp only [List.filterMap_cons,List.filterMap_nil,h]
theorem Late.wf {cells wants now:List Int}(h:Late cells wants now)(hl:wants.length=cells.length)(hc:WfZ cells)(hw:WfZ wants):WfZ now:=by
 intro z hz
 obtain ⟨i,hi,e⟩:=List.getElem_of_mem hz
 have hi':i<cells.length:=by rw [<- h.len];exact hi
 have e':now.getD i 0=z:=by simp [List.getD,hi,e]
 rcases h.own i hi' with h1|h1
 · rw [<- e',h1];exact hc.at i hi'
 · rw [<- e',h1];exact hw.at i (by omega)
set_option maxHeartbeats 1000000 in
theorem followers_any (w:World)(B b m2 m3 m4 c1 c2:Nat)(a1 a2:Option Addr)(cells wants blocked now:List Int)(h:Tr w B b m2 m3 m4 a1 cells.length c1 a2 c2 cells wants blocked now)(hw:WfZ cells)(hn:cells.length<=100000)
 (a:Option Addr) (n c B2:Nat) (S:List Int) (hr:RowZ .i64 w B2 a n c S) (hB2:B2<=w.heap.size) (hS:∀ s∈S,∃ i:Nat,s=i/\i<cells.length) (hm:n<=100000) :
 Calls Tryz.prog 96 #[.pointer (some ⟨b,0,none⟩),.slice a n c] w fun e w' =>
  ∃ a' c',e=.returned (.slice a' (behindG cells wants S).length c')/\OwnZ w' w.heap.size (.slice a' (behindG cells wants S).length c') (behindG cells wants S)/\Below w.heap.size w w':=by
 obtain ⟨i0,hi0,hz0,hz1,hz2⟩:=info_parts info_int
 have hl:=hr.1
 have HCS:=qz (fun h'=>hr.cells h')
 have hc1:=hr.2.1
 have HTR:=qz h
 have HW:=qz hw
 have HS:=qz hS
 clear hr h hw hS
 go_enter Tryz.func96,Tryz.ntmps96
 go_wp2_with fail
 go_loopw [5,12] (fun v i wr=>∃ (k:Nat) (out:List Int),k<=n/\out.length<=k/\i=.int .i64 k/\OwnZ wr w.heap.size v out/\Below w.heap.size w wr/\Hid (out=behindG cells wants (S.take k))) (fun _ i _=>n-(intOf i).toNat)
 case atStart=>exact ⟨0,[],Nat.zero_le _,zL _,rfl,World.ownsRow_nil _ _ _ _,zX _ _,by simp [Hid,behindG]⟩
 case round =>
  obtain ⟨k,out,hk,hol,rfl,hown,hbel,HO⟩:=hrel
  by_cases hlt:k<n
  · obtain ⟨bb,off,rfl,hb,hcs⟩:=HCS.out (by omega)
    have hcell:=(hbel.cell (p:=⟨bb,off+k,none⟩) (show bb<w.heap.size by omega)).trans (hcs k hlt)
    obtain ⟨i,hsi,hi⟩:=HS.out (S.getD k 0) (by simp [List.getD,hl,hlt])
    have hsn:=behind_take (cells:=cells) (wants:=wants) (S:=S) (k:=k) (by omega)
    rw [hsi] at hcell hsn
    rw [Int.toNat_natCast,<- HO.out] at hsn
    have hT:=HTR.out.calls hbel
    have hc1:=hT.rc.2.1
    obtain ⟨bc,off',rfl,hbc,hcc⟩:=hT.rc.cells (by omega)
    have hci:=hcc i hi
    have hwz:=HW.out.at i hi
    have s0:=hT.s0
    have s4:=hT.s4
    obtain ⟨k4,hmf⟩:=hT.mf
    have L4:∀ d,(Instr.lookup 112 (.map (some m4)) (.int .i64 (cells.getD i 0)) true).run Tryz.prog (wr.drewN d)=.ok (.tuple #[.int .i64 ((zbg cells wants cells.length (cells.getD i 0)).getD 0),.bool (zbg cells wants cells.length (cells.getD i 0)).isSome]) (wr.drewN d) :=
     fun d=>MapIn.look (w:=wr.drewN d) (hmf.keep rfl) hwz
    generalize hF:zbg cells wants cells.length (cells.getD i 0)=F at L4 hsn
    generalize cells.getD i 0=y at hci L4
    have HOD:Hid (∀ d,OwnZ (wr.drewN d) w.heap.size _ out):=fun d=>hown.calls (zaf (zX _ _) d)
    have HBD:Hid (∀ d,Below w.heap.size w (wr.drewN d)):=fun d=>zaf hbel d
    clear hcs hcc hmf hwz hF HO hown hbel hT
    cases F with
    | none =>
      simp only [Option.getD_none,Option.isSome_none] at L4
      simp only [List.append_nil] at hsn
      have HSN:=qz hsn
      clear hsn
      go_wp2_with fail
      go_quiet (fail)
      go_wp2_with fail
      go_roundw
      case rel=>exact ⟨k+1,out,by omega,by omega,by go_num,HOD.out _,HBD.out _,HSN.out.symm⟩
      case measure=>simp [intOf];omega
    | some x =>
      simp only [Option.getD_some,Option.isSome_some] at L4
      have HSN:=qz hsn
      clear hsn
      go_wp2_with fail
      go_quiet (fail)
      go_wp2_with (at_builtin;refine wpList_append_own _ rfl (.tmp 32) (.tmp 34) 26 rfl w.heap.size 3 i0 (.int .i64 0) 1 8 Tryz.underlying26 hi0 hz0 hz1 hz2 rfl (by decide) _ _ _ rfl (World.ownsRow.alloc (HOD.out nq) _) ⟨(wr.drewN nq).heap.size,0,none⟩ 1 1 [.int .i64 x] rfl rfl (one_cell _ _ _) (by simp [Value.oneCell']) (by simp only [maxLen];omega) (by omega) (by have h1:=(HBD.out nq).size;have h2:(wr.drewN nq).heap.size=wr.heap.size:=rfl;simp;omega) ?_;intro v' w2 hown2 hgrow2 _)
      have RR:=push_stepZ (HOD.out nq) (HBD.out nq) (zL _) hown2 hgrow2
      clear hown2 hgrow2
      go_wp2_with fail
      go_roundw
      case rel=>exact ⟨k+1,out++[x],by omega,by simp;omega,by go_num,RR.1,RR.2,HSN.out.symm⟩
      case measure=>simp [intOf];omega
  · obtain rfl:k=n:=by omega
    have HO2:=HO.out
    rw [List.take_of_length_le (by omega)] at HO2
    obtain ⟨a',c',rfl⟩:=own_slice hown
    have HWN:=qz hown
    go_wp2_with fail
    go_ret
    rw [<- HO2]
    exact ⟨a',c',rfl,HWN.out,hbel⟩
set_option maxHeartbeats 2000000 in
theorem resolve_any (w:World)(B b m2 m3 m4 c1 c2:Nat)(a1 a2:Option Addr)(cells wants blocked:List Int)(h:Tr w B b m2 m3 m4 a1 cells.length c1 a2 c2 cells wants blocked wants)(hwc:WfZ cells)(hww:WfZ wants)(hn:cells.length<=100000)(ht:¬ TwiceP cells) :
 Calls Tryz.prog 72 #[.pointer (some ⟨b,0,none⟩)] w fun e w' =>
  e=.returned (.tuple #[])/\Tr w' B b m2 m3 m4 a1 cells.length c1 a2 c2 cells wants blocked (gateG cells wants blocked)/\Below B w w':=by
 have hlw:=h.ln
 have hG0:=qz (Going.start (blocked:=blocked) ht hlw)
 have HTR:=qz h
 have HWC:=qz hwc
 have HWW:=qz hww
 have HIX:=qz (indices_any cells.length w hn)
 have HT:=qz ht
 have hBw:B<=w.heap.size:=Nat.le_of_lt (Nat.lt_of_le_of_lt h.hB h.lt)
 have s0:=h.s0
 have HTH:Hid (∀ (V:World) (now l:List Int) (a:Option Addr) (m c B2:Nat),Tr V B b m2 m3 m4 a1 cells.length c1 a2 c2 cells wants blocked now->WfZ now->RowZ .i64 V B2 a m c l->B2<=V.heap.size->m<=100000->(∀ s∈l,∃ i:Nat,s=i/\i<cells.length) ->
  Calls Tryz.prog 93 #[.slice a m c,.func (.func 95) #[.pointer (some ⟨b,0,none⟩)] #[]] V fun e w' =>
   ∃ a' c',e=.returned (.slice a' (l.filter (stopB cells wants blocked now)).length c')/\OwnZ w' V.heap.size (.slice a' (l.filter (stopB cells wants blocked now)).length c') (l.filter (stopB cells wants blocked now))/\Below V.heap.size V w') :=
  fun V now l a m c B2 hT hwn hr hB2 hm hl=>those_any b a m c B2 l _ V hr hB2 hm fun wr s hs hb=>by
   obtain ⟨i,rfl,hi⟩:=hl s hs
   exact isStopped_any wr B b m2 m3 m4 cells.length c1 c2 a1 a2 cells wants blocked now (hT.calls hb) hwn hn i hi
 clear h hwc hww ht
 go_enter Tryz.func72,Tryz.ntmps72
 go_wp2_with fail
 refine HIX.out.mono ?_
 rintro e w1 ⟨rfl,hnum,hb1⟩
 have hz1:=hb1.size
 have hrow:=hnum.row
 rw [allG_len] at hrow
 have HTH1:=qz (HTH.out w1 wants (allG cells.length) _ _ _ _ (HTR.out.calls hb1) HWW.out hrow (zL _) hn (fun s hs=>by obtain ⟨i,hi,rfl⟩:=List.mem_map.1 hs;exact ⟨i,rfl,by simpa using hi⟩))
 have HB1:=qz hb1
 clear hnum hrow hb1
 go_wp2_with fail
 refine HTH1.out.mono ?_
 rintro e w2 ⟨a',c',rfl,hown,hb2⟩
 have HB2:=qz (HB1.out.trans (hb2.mono hz1))
 have HTR2:=qz (HTR.out.calls HB2.out)
 have HOW:=qz hown
 have hz2:=hb2.size
 generalize (allG cells.length).filter (stopB cells wants blocked wants)=S0 at hG0 HOW ⊢
 clear hown hb2 HTH1 s0
 go_wp2_with fail
 go_loopg [2] (movers cells wants) (fun k v wr=>∃ (now S:List Int) (a:Option Addr) (c B2:Nat),v=.slice a S.length c/\Hid (movers cells now=k)/\Hid (Going cells wants blocked now S)/\Hid (Tr wr B b m2 m3 m4 a1 cells.length c1 a2 c2 cells wants blocked now)/\Hid (OwnZ wr B2 (.slice a S.length c) S)/\w.heap.size<=B2/\Hid (Below B w wr))
 case atStart=>exact ⟨wants,S0,a',c',w1.heap.size,rfl,rfl,hG0.out,HTR2.out,HOW.out,hz1,HB2.out.mono hBw⟩
 case round =>
  obtain ⟨now,S,a,c,B2,rfl,HMV,HG,HTT,HO,hB2,HBW⟩:=hrel
  obtain ⟨go,hgo⟩:∃ go,go=gk:=⟨_,rfl⟩
  subst hgo
  obtain ⟨W,hW⟩:∃ W,W=wr:=⟨_,rfl⟩
  subst hW
  by_cases hS:S=[]
  · subst hS
    have HGD:=qz HG.out.done
    go_wp2_with fail
    go_end0
    exact ⟨rfl,by rw [HGD.out];exact HTT.out,HBW.out⟩
  · have hpos:0<S.length:=by
     cases S with
     | nil=>exact absurd rfl hS
     | cons=>simp
    have hfew:=HG.out.few
    have HSN:=qz (HG.out.next HT.out hS)
    have HLE:=qz (HG.out.less hS)
    obtain ⟨i1,hi1,_⟩:=HG.out.has hS
    obtain ⟨g,rfl,hBg,hgl,_⟩:=HTT.out.want hi1 0
    have HGW:Hid (g<w.heap.size):=by
     obtain ⟨g',e,_,hgl',_⟩:=HTR.out.want hi1 0
     injection e with e
     injection e with e _ _
     subst e
     exact hgl'
    have HSE:=qz HG.out.these.1
    have HLN:=qz HG.out.late.len
    obtain ⟨m,hm⟩:∃ m,m=S.length:=⟨_,rfl⟩
    have HSM:=qz hm.symm
    rw [<- hm] at hpos hfew ⊢
    have HOC:Hid (∀ k,k<m->∃ gs,a=some ⟨gs,0,none⟩/\gs≠g/\gs<W.heap.size/\W.cell? ⟨gs,k,none⟩=some (.int .i64 (S.getD k 0))):=fun k hk=>by
     have ho:=HO.out
     rw [<- hm] at ho
     obtain ⟨gs,e,hg1,_,hc,_⟩:=ho.at HSM.out hk 0
     have:=HGW.out
     exact ⟨gs,e,by omega,World.block_lt_of_cell? W _ hc,hc⟩
    have hmc:m<=c:=by
     obtain ⟨a'',c'',e,hr⟩:=HO.out.sliced rfl
     injection e with _ _ e
     subst e
     rw [hm]
     exact hr.2.1
    clear hm hi1
    go_wp2_with fail
    go_loopw [19] (fun i wq=>∃ k:Nat,k<=m/\i=.int .i64 k/\Hid (Tr wq B b m2 m3 m4 a1 cells.length c1 (some ⟨g,0,none⟩) c2 cells wants blocked (haltG cells now (S.take k)))/\Hid (But g W wq)) (fun i _=>m-(intOf i).toNat)
    case atStart=>exact ⟨0,Nat.zero_le _,rfl,by rw [List.take_zero,haltG_nil HLN.out];exact HTT.out,But.refl _ _⟩
    case round =>
     obtain ⟨k,hk,rfl,HTQ,HBU⟩:=hrel
     by_cases hlt:k<m
     · obtain ⟨gs,rfl,hgs,hgw,hcs⟩:=HOC.out k hlt
       have hcell:=(HBU.out.cell (p:=⟨gs,k,none⟩) hgw hgs).trans hcs
       obtain ⟨i,hsi,hi⟩:=HSE.out (S.getD k 0) (by have:=HSM.out;simp [List.getD,this,hlt])
       rw [hsi] at hcell
       have hT:=HTQ.out
       have hc1:=hT.rc.2.1
       obtain ⟨bc,off',rfl,hbc,hcc⟩:=hT.rc.cells (by omega)
       have hci:=hcc i hi
       have s0:=hT.s0
       have s1:=hT.s1
       have hTD:=hT.calls (w':=wr.drew) (zX wr.heap.size wr).drew
       obtain ⟨g',e,_,_,hfz,hcg,hT2⟩:=hTD.want hi (cells.getD i 0)
       injection e with e
       injection e with e _ _
       subst e
       have hc2:cells.length<=c2:=by
        obtain ⟨a'',c'',e,hr⟩:=hT.ow.sliced hT.ln
        injection e with _ _ e
        subst e
        exact hr.2.1
       have hhs:(haltG cells now (S.take k)).set i (cells.getD i 0)=haltG cells now (S.take (k+1)):=by
        have e1:S.take (k+1)=S.take k++[(i:Int)]:=by
         rw [<- hsi,List.take_succ_eq_append_getElem (by have:=HSM.out;omega)]
         simp [List.getD,show k<S.length by have:=HSM.out;omega]
        rw [e1,haltG_snoc]
       rw [hhs] at hT2
       have HT2:=qz hT2
       have HB3:=qz (HBU.out.drew.set (o:=i) (.int .i64 (cells.getD i 0)))
       generalize cells.getD i 0=y at hci HT2 HB3
       generalize (haltG cells now (S.take k)).getD i 0=u at hcg
       clear hcs hcc hT hTD hT2 hhs hsi HBU HTQ
       go_wp2_with fail
       go_still_tail 13,(by kernel_rfl)
       change wpList _ _ _ _ _ wr.drew
       go_wp2_with fail
       go_roundw
       case rel=>exact ⟨k+1,by omega,by go_num,HT2.out,HB3.out⟩
       case measure=>simp [intOf];omega
     · obtain rfl:k=m:=by omega
       have hT:=HTQ.out
       rw [List.take_of_length_le (Nat.le_of_eq HSM.out)] at hT
       have HT3:=qz hT
       have HLT:Hid (Late cells wants (haltG cells now S)):=HSN.out.late
       have hsz:=HBU.out.size
       have hrq:Hid (RowZ .i64 wr wr.heap.size a k c S):=by
        refine ⟨HSM.out,hmc,?_,fun h0=>?_⟩
        · obtain ⟨a'',c'',e,hr⟩:=HO.out.sliced rfl
          injection e with _ _ e
          subst e
          exact hr.2.2.1
        · obtain ⟨gs,e,hgs,hgw,_⟩:=HOC.out 0 h0
          refine ⟨gs,0,e,by omega,fun j hj=>?_⟩
          obtain ⟨gs',e',hgs',hgw',hc'⟩:=HOC.out j hj
          obtain rfl:gs=gs':=by rw [e] at e';injection e' with e';injection e'
          rw [Nat.zero_add]
          exact (HBU.out.cell (p:=⟨gs,j,none⟩) hgw' hgs').trans hc'
       have HFO:=qz (followers_any wr B b m2 m3 m4 c1 c2 a1 _ cells wants blocked _ hT HWC.out hn a k c wr.heap.size S hrq.out (zL _) HSE.out (by omega))
       have HB4:=qz (HBW.out.trans (HBU.out.below hBg (Nat.le_trans hBw HBW.out.size)))
       have hzw:=HBW.out.size
       clear hT hrq HTQ
       go_wp2_with fail
       refine HFO.out.mono ?_
       rintro e w3 ⟨a3,c3,rfl,ho3,hb3⟩
       have hz3:=hb3.size
       have HTH3:=qz (HTH.out w3 (haltG cells now S) (behindG cells wants S) _ _ _ _ (HT3.out.calls hb3) (HLT.out.wf (by have:=HTR.out.ln;omega) HWC.out HWW.out) (ho3.rowAt rfl) (zL _) (by have:=behindG_len cells wants S;have:=HSM.out;omega) (fun s hs=>behindG_in s hs))
       have HB5:=qz (HB4.out.trans (hb3.mono (by omega)))
       have HT5:=qz (HT3.out.calls hb3)
       clear hb3 ho3
       go_wp2_with fail
       refine HTH3.out.mono ?_
       rintro e w4 ⟨a4,c4,rfl,ho4,hb4⟩
       have HB6:=qz (HB5.out.trans (hb4.mono (by omega)))
       have HT6:=qz (HT5.out.calls hb4)
       have HO4:=qz ho4
       clear ho4 hb4 HTH3
       go_wp2_with fail
       go_roundg (movers cells (haltG cells now S))
       case measure=>rw [<- HMV.out];exact HLE.out
       case rel=>exact ⟨_,_,a4,c4,w3.heap.size,rfl,rfl,HSN.out,HT6.out,HO4.out,by omega,HB6.out⟩
set_option maxHeartbeats 400000 in
theorem gate_len (a1 a2 a3:Option Addr)(n1 c1 n2 c2 n3 c3:Nat)(w:World)(hne:n1≠n2) :
 Calls Tryz.prog 42 #[.slice a1 n1 c1,.slice a2 n2 c2,.slice a3 n3 c3] w fun e w'=>e=.returned (.tuple #[.slice none 0 0,.int .i64 1])/\Below w.heap.size w w':=by
 have e0:((n2:Int) != (n1:Int))=true:=by rw [bne_iff_ne];omega
 clear hne
 go_enter Tryz.func42,Tryz.ntmps42
 go_wp2_with fail
 go_ret2
 exact ⟨rfl,zX _ _⟩
def SaysGateO (f:Nat):Prop:=∀ (a1 a2 a3:Option Addr) (n1 c1 n2 c2 n3 c3 B:Nat) (cells wants bl:List Int) (w:World),RowZ .i64 w B a1 n1 c1 cells->RowZ .i64 w B a2 n2 c2 wants->RowZ .i64 w B a3 n3 c3 bl->B<=w.heap.size->n1<=100000->n2<=100000->n3<=100000->WfZ cells->WfZ wants->WfZ bl ->
 Calls Tryz.prog f #[.slice a1 n1 c1,.slice a2 n2 c2,.slice a3 n3 c3] w fun e w'=>∃ a n c x out,e=.returned (.tuple #[.slice a n c,.int .i64 x])/\GateOut cells wants bl out x/\OwnZ w' w.heap.size (.slice a n c) out/\out.length=n/\Below w.heap.size w w'
set_option maxHeartbeats 1000000 in
theorem gate_own:SaysGateO 42:=by
 intro a1 a2 a3 n1 c1 n2 c2 n3 c3 B cells wants bl w h1 h2 h3 hB hn1 hn2 hn3 y1 y2 y3
 by_cases hne:n1≠n2
 · refine (gate_len a1 a2 a3 n1 c1 n2 c2 n3 c3 w hne).mono ?_
   rintro e w' ⟨rfl,hb⟩
   refine ⟨none,0,0,1,[],rfl,.inl ⟨fun e=>hne (by rw [<- h1.1,<- h2.1,e]),rfl,rfl⟩,World.ownsRow_nil _ _ _ _,rfl,hb⟩
 obtain rfl:n1=n2:=Classical.not_not.1 hne
 clear hne
 have e0:((n1:Int) != (n1:Int))=false:=by simp
 obtain rfl:cells.length=n1:=h1.1
 have HL:Hid (cells.length=wants.length):=h2.1.symm
 have HRO:=qz (robotsIn_any a1 _ c1 B cells w h1 hB y1 hn1)
 have HR1:=qz h1
 have HR2:=qz h2
 have HR3:=qz h3
 have HY1:=qz y1
 have HY2:=qz y2
 have HY3:=qz y3
 clear h1 h2 h3 y1 y2 y3
 go_enter Tryz.func42,Tryz.ntmps42
 go_wp2_with fail
 refine HRO.out.mono ?_
 rintro e w1 ⟨⟨ht,rfl⟩|⟨ht,rfl,hmi⟩,hb1⟩
 · have HB1:=qz hb1
   have HT:=qz ht
   clear ht hb1
   go_wp2_with fail
   go_ret2
   exact ⟨none,0,0,6,[],rfl,.inr (.inl ⟨HL.out,HT.out,rfl,rfl⟩),World.ownsRow_nil _ _ _ _,rfl,HB1.out⟩
 have HT:=qz ht
 have hz1:=hb1.size
 have HB1:=qz hb1
 have HM1:=qz hmi
 have HCL:=qz (cloneZ_any a2 _ c2 B wants w1 (HR2.out.below (hb1.mono hB)) (by omega) hn1)
 clear ht hmi hb1
 go_wp2_with fail
 refine HCL.out.mono ?_
 rintro e w2 ⟨a',c',rfl,how,hb2⟩
 have hz2:=hb2.size
 have HB2:=qz (HB1.out.trans (hb2.mono hz1))
 have HM2:=qz (HM1.out.keep (hb2.block _ HM1.out.lt))
 have HO2:=qz how
 have HSE:=qz (setG_any a3 n3 c3 B bl w2 (HR3.out.below (HB2.out.mono hB)) (by omega) HY3.out hn3)
 clear how hb2 HCL
 go_wp2_with fail
 refine HSE.out.mono ?_
 rintro e w3 ⟨rfl,hsh,hb3⟩
 have hz3:=hb3.size
 have HB3:=qz (HB2.out.trans (hb3.mono (by omega)))
 have HM3:=qz (HM2.out.keep (hb3.block _ HM2.out.lt))
 have HO3:=qz (HO2.out.calls hb3)
 have HS3:=qz hsh
 have HFI:=qz (firstTo_any a1 a2 _ c1 c2 B cells wants w3 (HR1.out.below (HB3.out.mono hB)) (HR2.out.below (HB3.out.mono hB)) (by omega) HY2.out hn1)
 clear hsh hb3 HSE
 go_wp2_with fail
 refine HFI.out.mono ?_
 rintro e w4 ⟨rfl,hmf,hb4⟩
 have hz4:=hb4.size
 have HB4:=qz (HB3.out.trans (hb4.mono (by omega)))
 have HM4:=qz (HM3.out.keep (hb4.block _ HM3.out.lt))
 have HO4:=qz (HO3.out.calls hb4)
 have HS4:=qz (HS3.out.keep (hb4.block _ HS3.out.lt))
 have HF4:=qz hmf
 clear hmf hb4 HFI
 go_wp2_with fail
 have HT5:Hid (∀ o,o=Obj.cells #[.slice a1 cells.length c1,.slice a' cells.length c',.map (some w2.heap.size),.map (some w.heap.size),.map (some w3.heap.size)] 129 ->
  Tr (w4.alloc o) w.heap.size w4.heap.size w2.heap.size w.heap.size w3.heap.size a1 cells.length c1 a' c' cells wants bl wants):=by
  rintro o rfl
  have hba:∀ o,Below w4.heap.size w4 (w4.alloc o):=fun o=>(zX _ _).alloc (zL _) o
  have hca:∀ (cs:Array Value) (t:TypeId) (i:Nat) (v:Value),cs[i]?=some v->(w4.alloc (.cells cs t)).cell? ⟨w4.heap.size,i,none⟩=some v:=fun cs t i v hv=>by
   rw [cell_of_row (w4.alloc (.cells cs t)) w4.heap.size i cs t (0,0) (heap_alloc_new w4 _)]
   exact hv
  refine ⟨hca _ _ 0 _ rfl,hca _ _ 1 _ rfl,hca _ _ 2 _ rfl,hca _ _ 3 _ rfl,hca _ _ 4 _ rfl,((HR1.out.mono hB).below HB4.out).below ((hba _).mono (by omega)),(HO4.out.calls (hba _)).lower hz1,HL.out.symm,
   ⟨_,HS4.out.keep ((hba _).block _ HS4.out.lt)⟩,⟨_,HM4.out.keep ((hba _).block _ HM4.out.lt)⟩,⟨_,HF4.out.keep ((hba _).block _ HF4.out.lt)⟩,by omega,by simp,fun g hg=>?_⟩
  have hl1:=HM1.out.lt
  rcases HO2.out.2 with ⟨hv,_⟩|⟨g',cap,cur,hv,hb,hgl,_⟩
  · injection hv with hv
    rw [hg] at hv
    cases hv
  · injection hv with hv
    rw [hg] at hv
    injection hv with hv
    injection hv with hv _ _
    subst hv
    have hlt:=(Array.getElem?_eq_some_iff.1 hgl).1
    omega
 have HT6:=qz (HT5.out _ rfl)
 have HRS:=qz (resolve_any _ w.heap.size w4.heap.size w2.heap.size w.heap.size w3.heap.size c1 c' a1 a' cells wants bl HT6.out HY1.out HY2.out hn1 HT.out)
 have HB5:=qz (fun o=>HB4.out.alloc HB4.out.size o)
 clear HT5
 refine HRS.out.mono ?_
 rintro e w6 ⟨rfl,ht6,hb6⟩
 have s1:=ht6.s1
 have HT7:=qz ht6
 have HB6:=qz ((HB5.out _).trans hb6)
 clear ht6 hb6 HRS HT6
 go_wp2_with fail
 go_ret2
 exact ⟨a',_,c',0,_,rfl,.inr (.inr ⟨HL.out,HT.out,rfl,rfl⟩),HT7.out.ow,HT7.out.ln,HB6.out⟩
end Go.Proofs.YtknnnbpgkfaapaaGreat.Vm
