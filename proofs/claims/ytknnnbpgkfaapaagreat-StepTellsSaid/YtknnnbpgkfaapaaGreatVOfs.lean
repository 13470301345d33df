import Derived.Test.YtknnnbpgkfaapaaGreatVRights
import Derived.Test.YtknnnbpgkfaapaaGreatVInMath
import Derived.Test.YtknnnbpgkfaapaaGreatQ
import Derived.Test.YtknnnbpgkfaapaaGreatVOwnIs
import Derived.Test.YtknnnbpgkfaapaaGreatVLeadMath
import Derived.Lib.OthersKept
import Derived.Laws.MakeOwn
set_option maxRecDepth 100000
set_option linter.unusedSimpArgs false
set_option linter.unusedVariables false
namespace Go.Proofs.YtknnnbpgkfaapaaGreat.Vm
open Go.RowKit
theorem own_iterAt {w:World}{B e size n:Nat}{v:Value}{xs:List Value}{k:Nat}{s:ByteArray}{pos:Nat}(h:w.ownsRow B e size v n xs)(hk:w.heap[k]?=some (.stringIter s pos))(pos':Nat):(w.iterAt k s pos').ownsRow B e size v n xs:=by
 refine ⟨h.1,?_⟩
 rcases h.2 with h0|⟨g,cap,cur,hv,hb,hg,rest⟩
 · exact .inl h0
 · refine .inr ⟨g,cap,cur,hv,hb,?_,rest⟩
   rw [Lib.iterAt_other _ _ _ _ _ (fun e=>by subst e;rw [hk] at hg;cases hg)]
   exact hg
theorem own_ne_iter {w:World}{B e size n:Nat}{v:Value}{xs:List Value}{k:Nat}{s:ByteArray}{pos:Nat}(h:w.ownsRow B e size v n xs)(hk:w.heap[k]?=some (.stringIter s pos)):some k≠v.ownBlock:=by
 rcases h.2 with ⟨rfl,_⟩|⟨g,cap,cur,rfl,hb,hg,rest⟩
 · simp [Value.ownBlock]
 · intro e
   simp only [Value.ownBlock,Option.some.injEq] at e
   subst e
   rw [hk] at hg
   cases hg
theorem heap_keep {w:World}{o:Obj}{k:Nat}(h:k<w.heap.size):(w.alloc o).heap[k]?=w.heap[k]?:=by
 show (w.heap.push o)[k]?=_
 rw [Array.getElem?_push_lt h,Array.getElem?_eq_getElem h]
set_option maxHeartbeats 400000 in
theorem of_any (W H:Int)(x:Nat)(s:ByteArray)(w:World)(h:Okay W H s)(hx:x<256) :
 Calls Tryz.prog 120 #[zam W H s,.int .u8 (x:Nat)] w (ListPost w (ofS (zaa s) x)):=by
 obtain ⟨i0,hi0,hz0,hz1,hz2⟩:=info_parts info_int
 have hle:=h.le
 have HOK:=qz h
 have hB:Below w.heap.size w (w.alloc (zar W H s)):=(zX _ _).alloc (zL _) _
 have hof:ofS (zaa s) x=(List.range s.size).filter fun i=>(zaa s).getD i 0==x:=by unfold ofS;rw [zag]
 rw [hof]
 generalize hp:(fun i=>(zaa s).getD i 0==x)=p
 have HPE:=qz hp
 clear hp h hof
 go_enter Tryz.func120,Tryz.ntmps120
 go_wp2_with fail
 go_loopw [5] (fun v wr=>∃ (k:Nat) (out:List Nat),k<=s.size/\out.length<=k/\wr.heap[w.heap.size+1]?=some (.stringIter s k)/\OwnI wr w.heap.size v out/\Below w.heap.size w wr/\Hid (out=(List.range k).filter p)) (fun _ wr=>s.size-wr.iterPos (w.heap.size+1))
 case atStart=>exact ⟨0,[],Nat.zero_le _,zL _,iter_there _ _ _ (by simp),World.ownsRow_nil _ _ _ _,below_iter' hB s 0,rfl⟩
 case round =>
  obtain ⟨k,out,hk,hol,hit,hown,hbel,HO⟩:=hrel
  have hpos:wr.iterPos (w.heap.size+1)=k:=by simp [World.iterPos,hit]
  have HPOS:=qz hpos
  clear hpos
  by_cases hlt:k<s.size
  · have hat:=bytesOf_at s k hlt
    have ha:(s[k]'hlt).toNat<128:=letterS_lt (HOK.out.at hlt)
    have hnx:=fun ty=>Lib.run_next_ascii_at (P:=Tryz.prog) wr (w.heap.size+1) s k ty hit hlt ha
    generalize (s[k]'hlt).toNat=c at hat hnx ha
    have hsn:=filter_snoc p k
    have hpk:p k=decide (c=x):=by rw [<- HPE.out];simp only [];rw [hat];rfl
    rw [<- HO.out,hpk] at hsn
    have hit2:=Lib.iterAt_heap wr _ s k (k+1) hit
    have hown2:OwnI (wr.iterAt (w.heap.size+1) s (k+1)) w.heap.size u5 out:=own_iterAt hown hit _
    have hbel2:Below w.heap.size w (wr.iterAt (w.heap.size+1) s (k+1)):=Lib.below_iterAt hbel (by omega) _ _
    have HNX:=qz hnx
    clear hnx hown hbel hit HO hat hpk
    generalize hwi:wr.iterAt (w.heap.size+1) s (k+1)=wi at HNX hit2 hown2 hbel2
    have HWI:=qz hwi
    have hnx:=HNX.out
    clear HNX hwi
    have hitlt:w.heap.size+1<wi.heap.size:=(Array.getElem?_eq_some_iff.1 hit2).1
    by_cases hcx:c=x
    · subst hcx
      have HSN:Hid (out++[k]=(List.range (k+1)).filter p):=by unfold Hid;rw [hsn];simp
      clear hsn
      go_wp2_with (at_builtin;refine wpList_append_own _ rfl (.tmp 19) (.tmp 21) 26 rfl w.heap.size 3 i0 (.int .i64 0) 1 8 Tryz.underlying26 hi0 hz0 hz1 hz2 rfl (by decide) _ _ _ rfl (World.ownsRow.alloc hown2 _) ⟨wi.heap.size,0,none⟩ 1 1 [.int .i64 (k:Int)] rfl rfl (one_cell _ _ _) (by simp [Value.oneCell']) (by simp only [maxLen];omega) (by omega) (by simp;omega) ?_;intro v' w3 hown3 hgrow3 _)
      have RR:=push_stepI rfl hown2 hbel2 (zL _) hown3 hgrow3
      have hit3:w3.heap[w.heap.size+1]?=some (.stringIter s (k+1)):=(hgrow3.block _ (by simp;omega) (own_ne_iter hown2 hit2)).trans ((heap_keep hitlt).trans hit2)
      clear hown3 hgrow3 hown2 hbel2
      go_wp2_with fail
      go_roundw
      case rel=>exact ⟨k+1,out++[k],by omega,by simp;omega,hit3,RR.1,RR.2,HSN.out⟩
      case measure=>rw [World.iterPos,hit3,HPOS.out];simp only [];omega
    · have e0:((c:Int)==(x:Int))=false:=by rw [beq_eq_false_iff_ne];omega
      have HSN:Hid (out=(List.range (k+1)).filter p):=by unfold Hid;rw [hsn,decide_eq_false hcx];simp
      clear hsn hcx
      go_wp2_with fail
      go_roundw
      case rel=>exact ⟨k+1,out,by omega,by omega,hit2,hown2,hbel2,HSN.out⟩
      case measure=>rw [World.iterPos,hit2,HPOS.out];simp only [];omega
  · have hnx:=fun ty=>Lib.run_next_end_at (P:=Tryz.prog) wr (w.heap.size+1) s k ty hit hlt
    obtain rfl:k=s.size:=by omega
    go_wp2_with fail
    go_ret
    rw [<- HO.out]
    exact ⟨_,rfl,hown,hbel⟩
set_option maxHeartbeats 400000 in
theorem rof_any (W H:Int)(x:Nat)(s:ByteArray)(w:World)(h:Okay W H s) :
 Calls Tryz.prog 80 #[zam W H s,.int .u8 (x:Nat)] w (ListPost w (ofS (zaa s) x)):=by
 obtain ⟨i0,hi0,hz0,hz1,hz2⟩:=info_parts info_int
 have hle:=h.le
 have hB:Below w.heap.size w (w.alloc (zar W H s)):=(zX _ _).alloc (zL _) _
 have hof:ofS (zaa s) x=(List.range s.size).filter fun i=>(zaa s).getD i 0==x:=by unfold ofS;rw [zag]
 rw [hof]
 generalize hp:(fun i=>(zaa s).getD i 0==x)=p
 have HPE:=qz hp
 clear hp h hof
 go_enter Tryz.func80,Tryz.ntmps80
 go_wp2_with fail
 go_loopw [5,6] (fun v i wr=>∃ (k:Nat) (out:List Nat),k<=s.size/\out.length<=k/\i=.int .i64 k/\OwnI wr (w.heap.size+1) v out/\Below (w.heap.size+1) (w.alloc (zar W H s)) wr/\Hid (out=(List.range k).filter p)) (fun _ i _=>s.size-(intOf i).toNat)
 case atStart=>exact ⟨0,[],Nat.zero_le _,zL _,rfl,World.ownsRow_nil _ _ _ _,zX _ _,rfl⟩
 case round =>
  obtain ⟨k,out,hk,hol,rfl,hown,hbel,HO⟩:=hrel
  obtain ⟨g1,g2,g3⟩:=(zbq w W H s).below hbel (by omega)
  have hsz:=hbel.size
  by_cases hlt:k<s.size
  · have hat:=bytesOf_at s k hlt
    have hsn:=filter_snoc p k
    have hpk:p k=decide ((s[k]'hlt).toNat=x):=by rw [<- HPE.out];simp only [];rw [hat];rfl
    rw [<- HO.out,hpk] at hsn
    by_cases hcx:(s[k]'hlt).toNat=x
    · have e0:(((s[k]'hlt).toNat:Int)==(x:Int))=true:=by rw [beq_iff_eq];omega
      have HSN:Hid (out++[k]=(List.range (k+1)).filter p):=by unfold Hid;rw [hsn,decide_eq_true hcx];simp
      clear hsn hpk hat hcx HO
      go_wp2_with (at_builtin;refine wpList_append_own _ rfl (.tmp 20) (.tmp 22) 26 rfl (w.heap.size+1) 3 i0 (.int .i64 0) 1 8 Tryz.underlying26 hi0 hz0 hz1 hz2 rfl (by decide) _ _ _ rfl (World.ownsRow.alloc hown _) ⟨wr.heap.size,0,none⟩ 1 1 [.int .i64 (k:Int)] rfl rfl (one_cell _ _ _) (by simp [Value.oneCell']) (by simp only [maxLen];omega) (by omega) (by simp at hsz ⊢;omega) ?_;intro v' w3 hown3 hgrow3 _)
      have RR:=push_stepI rfl hown hbel (by simp) hown3 hgrow3
      clear hown3 hgrow3 hown hbel
      go_wp2_with fail
      go_roundw
      case rel=>exact ⟨k+1,out++[k],by omega,by simp;omega,by go_num,RR.1,RR.2,HSN.out⟩
      case measure=>simp [intOf];omega
    · have e0:(((s[k]'hlt).toNat:Int)==(x:Int))=false:=by rw [beq_eq_false_iff_ne];omega
      have HSN:Hid (out=(List.range (k+1)).filter p):=by unfold Hid;rw [hsn,decide_eq_false hcx];simp
      clear hsn hpk hat hcx HO
      go_wp2_with fail
      go_roundw
      case rel=>exact ⟨k+1,out,by omega,by omega,by go_num,hown,hbel,HSN.out⟩
      case measure=>simp [intOf];omega
  · obtain rfl:k=s.size:=by omega
    go_wp2_with fail
    go_ret
    rw [<- HO.out]
    exact ⟨_,rfl,hown.mono (by omega),hB.trans (hbel.mono (by omega))⟩
end Go.Proofs.YtknnnbpgkfaapaaGreat.Vm
