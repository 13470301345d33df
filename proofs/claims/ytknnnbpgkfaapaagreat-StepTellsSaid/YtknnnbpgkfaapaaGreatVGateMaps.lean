import Derived.Test.YtknnnbpgkfaapaaGreatVAppendZ
import Derived.Test.YtknnnbpgkfaapaaGreatVSets
import Derived.Test.YtknnnbpgkfaapaaGreatQ
import Derived.Test.YtknnnbpgkfaapaaGreatVGridMath
import Derived.Test.YtknnnbpgkfaapaaGreatVIntRows
import Derived.Maps.OwnSet
import Derived.Maps.OwnOps
import Derived.WalkLawsBesides
set_option maxRecDepth 100000
set_option linter.unusedSimpArgs false
set_option linter.unusedVariables false
namespace Go.Proofs.YtknnnbpgkfaapaaGreat.Vm
open Go Go.RowKit Go.Maps
theorem zero_intI (w:World):(zeroValue 3).run Tryz.prog w=.ok (.int .i64 0) w:=by kernel_rfl
theorem lit_neI {x y:Int}(h:x≠y):(Lit.int .i64 x)≠(Lit.int .i64 y):=fun e=>h (by injection e)
theorem make_mapI (n:Nat)(w:World):(Instr.makeMap 112 (some (.int .i64 (n:Int)))).run Tryz.prog w=.ok (.map (some w.heap.size)) (w.alloc (.map #[] 0)):=by
 simp [Instr.makeMap,go_sem,Result.andThen]
theorem make_setI (n:Nat)(w:World):(Instr.makeMap 73 (some (.int .i64 (n:Int)))).run Tryz.prog w=.ok (.map (some w.heap.size)) (w.alloc (.map #[] 0)):=by
 simp [Instr.makeMap,go_sem,Result.andThen]
def MapIn (w:World)(mb n:Nat)(f:Int->Option Int):Prop :=
 ∃ D:DataW Unit,w.ownsMap Tryz.prog 3 (plainElem Tryz.prog 3) mb n D/\IsMap D/\(∀ z,f z=none->Maps.has D (.int .i64 z)=false) /\
   ∀ z x,f z=some x->Maps.has D (.int .i64 z)=true/\∀ u,D.atKey (.int .i64 z) u=.lit (.int .i64 x)
theorem MapIn.keep {w w':World}{mb n:Nat}{f:Int->Option Int}(h:MapIn w mb n f)(hk:w'.heap[mb]?=w.heap[mb]?):MapIn w' mb n f:=by
 obtain ⟨D,⟨es,clock,hb,r⟩,h2⟩:=h
 exact ⟨D,⟨es,clock,hk.trans hb,r⟩,h2⟩
theorem MapIn.lt {w:World}{mb n:Nat}{f:Int->Option Int}(h:MapIn w mb n f):mb<w.heap.size:=by
 obtain ⟨D,hown,_⟩:=h
 exact World.ownsMap.lt hown
theorem mapIn_new (w:World){f:Int->Option Int}(hf:∀ z,f z=none):MapIn (w.alloc (.map #[] 0)) w.heap.size 0 f :=
 ⟨.map [],World.ownsMap_made w Tryz.prog 3 (plainElem Tryz.prog 3),isMap_empty,fun _ _=>rfl,fun z x hz=>by rw [hf z] at hz;cases hz⟩
theorem MapIn.to {w:World}{mb n:Nat}{f g:Int->Option Int}(h:MapIn w mb n f)(hg:∀ z,g z=f z):MapIn w mb n g:=by
 obtain ⟨D,hown,hm,h0,h1⟩:=h
 exact ⟨D,hown,hm,fun z hz=>h0 z (by rw [<- hg z];exact hz),fun z x hz=>h1 z x (by rw [<- hg z];exact hz)⟩
theorem MapIn.look {w:World}{mb n:Nat}{f:Int->Option Int}(h:MapIn w mb n f){z:Int}(hz:(Lit.int .i64 z).wf=true) :
 (Instr.lookup 112 (.map (some mb)) (.int .i64 z) true).run Tryz.prog w=.ok (.tuple #[.int .i64 ((f z).getD 0),.bool (f z).isSome]) w:=by
 obtain ⟨D,hown,hm,h0,h1⟩:=h
 have hkey:keyOf Tryz.prog 3 (.int .i64 z)=some (.int .i64 z):=keyOf_int_mk Tryz.underlying3 hz
 obtain ⟨v,ps,hrun,hv⟩:=hown.look_ok key_law Tryz.underlying112 (zero_intI w) (plainElem_int Tryz.underlying3 (by decide)) hkey
 obtain ⟨c,rfl,hc,_⟩:=plainElem_int_inv Tryz.underlying3 hv
 simp only [Prod.mk.injEq] at hc
 cases e:f z with
 | none =>
   rw [h0 z e,atKey_of_not_has (h0 z e)] at *
   have hc:=hc.1
   injection hc with hc
   injection hc with _ hc
   rw [hrun,<- hc]
   rfl
 | some x =>
   rw [(h1 z x e).1,(h1 z x e).2] at *
   have hc:=hc.1
   injection hc with hc
   injection hc with _ hc
   rw [hrun,<- hc]
   rfl
theorem MapIn.look1 {w:World}{mb n:Nat}{f:Int->Option Int}(h:MapIn w mb n f){z:Int}(hz:(Lit.int .i64 z).wf=true) :
 (Instr.lookup 112 (.map (some mb)) (.int .i64 z) false).run Tryz.prog w=.ok (.int .i64 ((f z).getD 0)) w:=by
 obtain ⟨D,hown,hm,h0,h1⟩:=h
 have hkey:keyOf Tryz.prog 3 (.int .i64 z)=some (.int .i64 z):=keyOf_int_mk Tryz.underlying3 hz
 obtain ⟨c,hrun,hc,_⟩:=hown.lookup_int key_law Tryz.underlying112 Tryz.underlying3 (zero_intI w) hkey
 cases e:f z with
 | none =>
   rw [atKey_of_not_has (h0 z e)] at hc
   injection hc with hc
   injection hc with _ hc
   rw [hrun,<- hc]
   rfl
 | some x =>
   rw [(h1 z x e).2] at hc
   injection hc with hc
   injection hc with _ hc
   rw [hrun,<- hc]
   rfl
theorem MapIn.put {w:World}{mb n:Nat}{f:Int->Option Int}(h:MapIn w mb n f)(hn:n<1000000000){z x:Int}(hz:(Lit.int .i64 z).wf=true)(hx:(Lit.int .i64 x).wf=true) :
 ∃ w',(Instr.mapUpdate 112 (.map (some mb)) (.int .i64 z) (.int .i64 x)).run Tryz.prog w=.ok () w'/\MapIn w' mb (n+1) (fun y=>if y=z then some x else f y)/\w.grownBy w' (some mb):=by
 obtain ⟨D,hown,hm,h0,h1⟩:=h
 have hkey:keyOf Tryz.prog 3 (.int .i64 z)=some (.int .i64 z):=keyOf_int_mk Tryz.underlying3 hz
 obtain ⟨w',hrun,hown',hg⟩:=hown.update key_law Tryz.underlying112 (by unfold maxLen;omega) hkey (plainElem_int (H:=Unit) Tryz.underlying3 hx)
 refine ⟨w',hrun,⟨_,hown',hm.put _ _,fun y hy=>?_,fun y c hy=>?_⟩,hg⟩
 · by_cases e:y=z
   · simp only [e,if_true] at hy;cases hy
   · simp only [e,if_false] at hy
     rw [has_put_other (lit_neI e)]
     exact h0 y hy
 · by_cases e:y=z
   · simp only [e,if_true] at hy
     injection hy with hy
     subst hy e
     have hkl:WideAt.IsKeyLit (Lit.int .i64 y):=trivial
     exact ⟨has_put_same hm hkl _,fun u=>atKey_put_same hm hkl _ u⟩
   · simp only [e,if_false] at hy
     refine ⟨?_,fun u=>?_⟩
     · rw [has_put_other (lit_neI e)];exact (h1 y c hy).1
     · rw [atKey_put_other (lit_neI e)];exact (h1 y c hy).2 u
theorem ShutIn.look {w:World}{mb m:Nat}{bl:List Int}(h:ShutIn w mb m bl){z:Int}(hz:(Lit.int .i64 z).wf=true) :
 (Instr.lookup 73 (.map (some mb)) (.int .i64 z) true).run Tryz.prog w=.ok (.tuple #[.agg #[],.bool (decide (z∈bl))]) w:=by
 have hkey:keyOf Tryz.prog 3 (.int .i64 z)=some (.int .i64 z):=keyOf_int_mk Tryz.underlying3 hz
 obtain ⟨v,ps,hrun,hv⟩:=World.ownsMap.look_ok h key_law Tryz.underlying73 (zero_unit w) unitElem_mk hkey
 obtain ⟨rfl,_⟩:=unitElem_inv hv
 rw [hrun,has_keys]
theorem ShutIn.put {w:World}{mb k:Nat}{bl:List Int}(h:ShutIn w mb k (bl.take k))(hk:k<1000000)(hl:k<bl.length)(hz:(Lit.int .i64 (bl.getD k 0)).wf=true) :
 ∃ w',(Instr.mapUpdate 73 (.map (some mb)) (.int .i64 (bl.getD k 0)) (.agg #[])).run Tryz.prog w=.ok () w'/\ShutIn w' mb (k+1) (bl.take (k+1))/\w.grownBy w' (some mb):=by
 have hkey:keyOf Tryz.prog 3 (.int .i64 (bl.getD k 0))=some (.int .i64 (bl.getD k 0)):=keyOf_int_mk Tryz.underlying3 hz
 have hsn:setOf (H:=Unit) (.agg []) (keysZ (bl.take (k+1)))=(setOf (.agg []) (keysZ (bl.take k))).put (.int .i64 (bl.getD k 0)) (.agg []):=by
  unfold keysZ
  rw [List.take_add_one,List.map_append,<- setOf_snoc]
  simp [List.getD,hl]
 obtain ⟨w',hrun,hown',hg⟩:=World.ownsMap.update h key_law Tryz.underlying73 (by unfold maxLen;omega) hkey unitElem_mk
 refine ⟨w',hrun,?_,hg⟩
 unfold ShutIn
 rw [hsn]
 exact hown'
set_option maxHeartbeats 1000000 in
theorem robotsIn_any (a:Option Addr)(n c B:Nat)(cells:List Int)(w:World)(h:RowZ .i64 w B a n c cells)(hB:B<=w.heap.size)(hw:WfZ cells)(hn:n<=100000) :
 Calls Tryz.prog 69 #[.slice a n c] w fun e w' =>
  ((TwiceP cells/\e=.returned (.tuple #[.map none,.bool false]))\/(¬ TwiceP cells/\e=.returned (.tuple #[.map (some w.heap.size),.bool true])/\MapIn w' w.heap.size n (inG cells n)))/\Below w.heap.size w w':=by
 have hmm:=make_mapI n w
 have hm0:=mapIn_new w (f:=inG cells 0) (fun _=>rfl)
 have hb0:Below w.heap.size w (w.alloc (.map #[] 0)):=(zX _ _).alloc (zL _) _
 have hl:=h.1
 have HCS:=qz (fun h'=>h.cells h')
 have hc1:=h.2.1
 have HW:=qz hw
 have HM0:=qz hm0
 have HB0:=qz hb0
 clear hw h hm0 hb0
 go_enter Tryz.func69,Tryz.ntmps69
 go_wp2_with fail
 clear hmm
 go_loopw [14] (fun i wr=>∃ k:Nat,k<=n/\i=.int .i64 k/\Hid (MapIn wr w.heap.size k (inG cells k))/\Below w.heap.size w wr/\Hid (∀ j,j<k->cells.getD j 0 ∉ cells.take j)) (fun i _=>n-(intOf i).toNat)
 case atStart=>exact ⟨0,Nat.zero_le _,rfl,HM0.out,HB0.out,fun j hj=>absurd hj (Nat.not_lt_zero _)⟩
 case round =>
  obtain ⟨k,hk,rfl,HM,hbel,HN⟩:=hrel
  by_cases hlt:k<n
  · obtain ⟨b,off,rfl,hb,hcs⟩:=HCS.out (by omega)
    have hcell:=(hbel.cell (p:=⟨b,off+k,none⟩) (show b<w.heap.size by omega)).trans (hcs k hlt)
    have hwz:=HW.out.at k (by omega)
    have hlook:=HM.out.look hwz
    clear hcs
    cases hin:inG cells k (cells.getD k 0) with
    | some x =>
      have HT:Hid (TwiceP cells):=by
       obtain ⟨j,_,hj,e⟩:=inG_some hin
       exact ⟨k,by omega,by rw [<- e];exact takeG_at hj (by omega)⟩
      rw [hin] at hlook
      simp only [Option.getD_some,Option.isSome_some] at hlook
      generalize cells.getD k 0=z at hcell hlook
      have HBE:=qz hbel
      clear hin hbel hwz
      go_wp2_with fail
      go_ret2
      exact ⟨.inl ⟨HT.out,rfl⟩,HBE.out⟩
    | none =>
      rw [hin] at hlook
      simp only [Option.getD_none,Option.isSome_none] at hlook
      obtain ⟨w1,hrun,hm1,hg1⟩:=HM.out.put (x:=(k:Int)) (by omega) hwz (WalkArith.wf_i64 (by omega))
      have HM1:Hid (MapIn w1 w.heap.size (k+1) (inG cells (k+1))):=hm1
      have HNO:=qz (inG_no hin)
      have HB1:=qz (hbel.grown hg1 hbel.size (fun j hj=>by injection hj with hj;exact Nat.le_of_eq hj))
      generalize hz:cells.getD k 0=z at hcell hlook hrun
      have HZ:=qz hz
      clear hin hm1 hg1 hwz hz hbel
      go_wp2_with fail
      go_roundw
      case rel =>
       refine ⟨k+1,by omega,by go_num,HM1.out,HB1.out,fun j hj=>?_⟩
       by_cases e:j=k
       · subst e
         intro hm
         obtain ⟨i,hi,_,e⟩:=takeG_inv hm
         exact HNO.out i hi e
       · exact HN.out j (by omega)
      case measure=>simp [intOf];omega
  · obtain rfl:k=n:=by omega
    have HT:Hid (¬ TwiceP cells):=fun ⟨i,hi,hm⟩=>HN.out i (by omega) hm
    go_wp2_with fail
    go_ret2
    exact ⟨.inr ⟨HT.out,rfl,HM.out⟩,hbel⟩
set_option maxHeartbeats 1000000 in
theorem setG_any (a:Option Addr)(n c B:Nat)(bl:List Int)(w:World)(h:RowZ .i64 w B a n c bl)(hB:B<=w.heap.size)(hw:WfZ bl)(hn:n<=100000) :
 Calls Tryz.prog 70 #[.slice a n c] w fun e w'=>e=.returned (.map (some w.heap.size))/\ShutIn w' w.heap.size n bl/\Below w.heap.size w w':=by
 have hmm:=make_setI n w
 have hb0:Below w.heap.size w (w.alloc (.map #[] 0)):=(zX _ _).alloc (zL _) _
 have hl:=h.1
 have HCS:=qz (fun h'=>h.cells h')
 have hc1:=h.2.1
 have HW:=qz hw
 have HB0:=qz hb0
 clear hw h hb0
 go_enter Tryz.func70,Tryz.ntmps70
 go_wp2_with fail
 clear hmm
 go_loopw [11] (fun i wr=>∃ k:Nat,k<=n/\i=.int .i64 k/\Hid (ShutIn wr w.heap.size k (bl.take k))/\Below w.heap.size w wr) (fun i _=>n-(intOf i).toNat)
 case atStart=>exact ⟨0,Nat.zero_le _,rfl,World.ownsMap_made _ _ _ _,HB0.out⟩
 case round =>
  obtain ⟨k,hk,rfl,HM,hbel⟩:=hrel
  by_cases hlt:k<n
  · obtain ⟨b,off,rfl,hb,hcs⟩:=HCS.out (by omega)
    have hcell:=(hbel.cell (p:=⟨b,off+k,none⟩) (show b<w.heap.size by omega)).trans (hcs k hlt)
    obtain ⟨w1,hrun,hm1,hg1⟩:=HM.out.put (by omega) (by omega) (HW.out.at k (by omega))
    have HM1:=qz hm1
    have HB1:=qz (hbel.grown hg1 hbel.size (fun j hj=>by injection hj with hj;exact Nat.le_of_eq hj))
    generalize bl.getD k 0=z at hcell hrun
    clear hcs hm1 hg1 hbel
    go_wp2_with fail
    go_roundw
    case rel=>exact ⟨k+1,by omega,by go_num,HM1.out,HB1.out⟩
    case measure=>simp [intOf];omega
  · obtain rfl:k=n:=by omega
    have HM2:=HM.out
    rw [List.take_of_length_le (by omega)] at HM2
    go_wp2_with fail
    go_ret
    exact ⟨rfl,HM2,hbel⟩
theorem firstG_put {cells wants:List Int}{k:Nat}(h1:zbg cells wants k (wants.getD k 0)=none)(h2:wants.getD k 0≠cells.getD k 0)(z:Int) :
 zbg cells wants (k+1) z=if z=wants.getD k 0 then some (k:Int) else zbg cells wants k z:=by
 rw [zbg]
 by_cases e:z=wants.getD k 0
 · rw [if_pos ⟨e,by rw [e];exact h1,h2⟩,if_pos e]
 · rw [if_neg (fun h=>e h.1),if_neg e]
theorem firstG_stay {cells wants:List Int}{k:Nat}(h:zbg cells wants k (wants.getD k 0)≠none\/wants.getD k 0=cells.getD k 0)(z:Int) :
 zbg cells wants (k+1) z=zbg cells wants k z:=by
 rw [zbg,if_neg]
 rintro ⟨e,h1,h2⟩
 rcases h with h|h
 · exact h (by rw [<- e];exact h1)
 · exact h2 h
set_option maxHeartbeats 1000000 in
theorem firstTo_any (a1 a2:Option Addr)(n c1 c2 B:Nat)(cells wants:List Int)(w:World)(h1:RowZ .i64 w B a1 n c1 cells)(h2:RowZ .i64 w B a2 n c2 wants)(hB:B<=w.heap.size)(hw:WfZ wants)(hn:n<=100000) :
 Calls Tryz.prog 71 #[.slice a1 n c1,.slice a2 n c2] w fun e w'=>e=.returned (.map (some w.heap.size))/\MapIn w' w.heap.size n (zbg cells wants n)/\Below w.heap.size w w':=by
 have hmm:=make_mapI n w
 have hm0:=mapIn_new w (f:=zbg cells wants 0) (fun _=>rfl)
 have hb0:Below w.heap.size w (w.alloc (.map #[] 0)):=(zX _ _).alloc (zL _) _
 have hl:=h2.1
 have HC1:=qz (fun h'=>h1.cells h')
 have HC2:=qz (fun h'=>h2.cells h')
 have hca1:=h1.2.1
 have hca2:=h2.2.1
 have HW:=qz hw
 have HM0:=qz hm0
 have HB0:=qz hb0
 clear hw h1 h2 hm0 hb0
 go_enter Tryz.func71,Tryz.ntmps71
 go_wp2_with fail
 clear hmm
 go_loopw [15] (fun i wr=>∃ k:Nat,k<=n/\i=.int .i64 k/\Hid (∃ m,m<=k/\MapIn wr w.heap.size m (zbg cells wants k))/\Below w.heap.size w wr) (fun i _=>n-(intOf i).toNat)
 case atStart=>exact ⟨0,Nat.zero_le _,rfl,⟨0,zL _,HM0.out⟩,HB0.out⟩
 case round =>
  obtain ⟨k,hk,rfl,HM,hbel⟩:=hrel
  by_cases hlt:k<n
  · obtain ⟨b,off,rfl,hb,hcs⟩:=HC2.out (by omega)
    obtain ⟨b',off',rfl,hb',hcs'⟩:=HC1.out (by omega)
    have hcell:=(hbel.cell (p:=⟨b,off+k,none⟩) (show b<w.heap.size by omega)).trans (hcs k hlt)
    have hcell':=(hbel.cell (p:=⟨b',off'+k,none⟩) (show b'<w.heap.size by omega)).trans (hcs' k hlt)
    have hwz:=HW.out.at k (by omega)
    obtain ⟨m,hmk,HMI⟩:=HM.out
    have hlook:=HMI.look hwz
    clear hcs hcs'
    cases hin:zbg cells wants k (wants.getD k 0) with
    | some x =>
      rw [hin] at hlook
      simp only [Option.getD_some,Option.isSome_some] at hlook
      have HM1:=qz (HMI.to (firstG_stay (.inl (by rw [hin];simp))))
      generalize wants.getD k 0=z at hcell hlook
      generalize cells.getD k 0=y at hcell'
      have HBE:=qz hbel
      clear hin hbel hwz HMI HM
      go_wp2_with fail
      go_roundw
      case rel=>exact ⟨k+1,by omega,by go_num,⟨m,by omega,HM1.out⟩,HBE.out⟩
      case measure=>simp [intOf];omega
    | none =>
      rw [hin] at hlook
      simp only [Option.getD_none,Option.isSome_none] at hlook
      by_cases hne:wants.getD k 0=cells.getD k 0
      · have HM1:=qz (HMI.to (firstG_stay (.inr hne)))
        have g1:(wants.getD k 0 != cells.getD k 0)=false:=by rw [hne];simp
        generalize wants.getD k 0=z at hcell hlook g1
        generalize cells.getD k 0=y at hcell' g1
        have HBE:=qz hbel
        clear hin hbel hwz HMI HM hne
        go_wp2_with fail
        go_roundw
        case rel=>exact ⟨k+1,by omega,by go_num,⟨m,by omega,HM1.out⟩,HBE.out⟩
        case measure=>simp [intOf];omega
      · obtain ⟨w1,hrun,hm1,hg1⟩:=HMI.put (x:=(k:Int)) (by omega) hwz (WalkArith.wf_i64 (by omega))
        have HM1:=qz (hm1.to (firstG_put hin hne))
        have HB1:=qz (hbel.grown hg1 hbel.size (fun j hj=>by injection hj with hj;exact Nat.le_of_eq hj))
        have g1:(wants.getD k 0 != cells.getD k 0)=true:=by rw [bne_iff_ne];exact hne
        generalize wants.getD k 0=z at hcell hlook g1 hrun
        generalize cells.getD k 0=y at hcell' g1
        clear hin hbel hwz HMI HM hne hm1 hg1
        go_wp2_with fail
        go_roundw
        case rel=>exact ⟨k+1,by omega,by go_num,⟨m+1,by omega,HM1.out⟩,HB1.out⟩
        case measure=>simp [intOf];omega
  · obtain rfl:k=n:=by omega
    obtain ⟨m,hmk,HMI⟩:=HM.out
    have HMK:Hid (MapIn wr w.heap.size k (zbg cells wants k)):=by
     obtain ⟨D,⟨es,clock,hb,r1,r2,r3⟩,r⟩:=HMI
     exact ⟨D,⟨es,clock,hb,r1,Nat.le_trans r2 hmk,r3⟩,r⟩
    clear HMI
    go_wp2_with fail
    go_ret
    exact ⟨rfl,HMK.out,hbel⟩
theorem eql_nilI {t e:TypeId}(ht:Tryz.prog.underlying t=some (.slice e))(a:Option Addr)(n c:Nat)(w:World):(binOp .eql t (.slice a n c) (.slice none 0 0)).run Tryz.prog w=.ok (.bool a.isNone) w:=by
 simp only [binOp]
 simp [run_equal_slice_nil w t e a n c ht,Result.andThen]
set_option maxHeartbeats 400000 in
theorem cloneZ_any (a:Option Addr)(n c B:Nat)(rs:List Int)(w:World)(h:RowZ .i64 w B a n c rs)(hB:B<=w.heap.size)(hn:n<=100000) :
 Calls Tryz.prog 56 #[.slice a n c] w fun e w'=>∃ a' c',e=.returned (.slice a' n c')/\OwnZ w' w.heap.size (.slice a' n c') rs/\Below w.heap.size w w':=by
 have hl:=h.1
 have hen:=eql_nilI Tryz.underlying26 a n c
 cases a with
 | none =>
   obtain rfl:n=0:=by
    rcases Nat.eq_zero_or_pos n with h0|h0
    · exact h0
    · obtain ⟨_,_,e,_⟩:=h.cells h0;cases e
   obtain rfl:=List.eq_nil_of_length_eq_zero hl
   clear h
   go_enter Tryz.func56,Tryz.ntmps56
   go_wp2_with fail
   go_ret
   exact ⟨none,0,rfl,World.ownsRow_nil _ _ _ _,zX _ _⟩
 | some ad =>
   obtain ⟨i0,hi0,hz0,hz1,hz2⟩:=info_parts info_int
   have hcs:=fun o=>cells_rowZ (h.below ((zX B w).alloc hB o))
   have HCS:=qz hcs
   have HOE:=qz (ownZ_empty w (zL _))
   have HL:=qz hl
   have HBE:=qz fun o:Obj=>(zX w.heap.size w).alloc (zL _) o
   clear hcs h hl
   go_enter Tryz.func56,Tryz.ntmps56
   go_wp2_with (at_builtin;refine wpList_append_own _ rfl (.tmp 5) (.tmp 6) 26 rfl w.heap.size 3 i0 (.int .i64 0) 1 8 Tryz.underlying26 hi0 hz0 hz1 hz2 rfl (by decide) _ _ _ rfl HOE.out ad n c (zan rs) rfl (by rw [zch,HL.out,Nat.mul_one]) (HCS.out _) (by intro u hu;obtain ⟨_,_,rfl⟩:=List.mem_map.1 hu;rfl) (by simp only [maxLen,List.length_nil];omega) (by simp only [List.length_nil];omega) (by simp) ?_;intro v' w3 hown3 hgrow3 _)
   have HO:Hid (OwnZ w3 w.heap.size v' rs):=by
    unfold Hid OwnZ
    rw [HL.out]
    simpa [zan] using hown3
   obtain ⟨a',c',rfl⟩:=(own_slice HO.out)
   have HB3:=qz ((HBE.out _).grown hgrow3 (by simp) (fun k hk=>(World.ownsRow.lt HOE.out k hk).1))
   clear hown3 hgrow3
   go_wp2_with fail
   go_ret
   rw [HL.out] at HO ⊢
   exact ⟨a',c',rfl,HO.out,HB3.out⟩
def idxG (n k:Nat):List Int:=(List.range n).map fun j=>if j<k then (j:Int) else 0
theorem idxG_len (n k:Nat):(idxG n k).length=n:=by simp [idxG]
theorem idxG_start (n:Nat):idxG n 0=List.replicate n 0:=by
 apply List.ext_getElem
 · simp [idxG]
 · intro j h1 h2;simp [idxG]
theorem idxG_end (n:Nat):idxG n n=allG n:=by
 apply List.ext_getElem
 · simp [idxG,allG]
 · intro j h1 h2
   have:j<n:=by simpa [idxG] using h1
   simp [idxG,allG,this]
theorem idxG_set (n k:Nat):(idxG n k).set k (k:Int)=idxG n (k+1):=by
 apply List.ext_getElem
 · simp [idxG]
 · intro j h1 h2
   rw [List.getElem_set]
   by_cases e:k=j
   · subst e;simp [idxG]
   · rw [if_neg e]
     have:(j<k) ↔ (j<k+1):=by omega
     simp [idxG,this]
set_option maxHeartbeats 400000 in
theorem indices_any (n:Nat)(w:World)(hn:n<=100000) :
 Calls Tryz.prog 94 #[.int .i64 (n:Int)] w fun e w'=>e=.returned (.slice (some ⟨w.heap.size,0,none⟩) n n)/\NumsZ w' w.heap.size w.heap.size (allG n)/\Below w.heap.size w w':=by
 have hmk:=make_ints w n (by omega)
 have hm0:=numsZ_made w n (by omega)
 have hb0:Below w.heap.size w (w.alloc (.cells ⟨zan (List.replicate n 0)⟩ 3)):=(zX _ _).alloc (zL _) _
 generalize w.alloc (.cells ⟨zan (List.replicate n 0)⟩ 3)=w1 at hmk hm0 hb0
 rw [<- idxG_start] at hm0
 have HM0:=qz hm0
 have HB0:=qz hb0
 clear hm0 hb0
 go_enter Tryz.func94,Tryz.ntmps94
 go_wp2_with fail
 clear hmk
 go_loopw [9] (fun i wr=>∃ k:Nat,k<=n/\i=.int .i64 k/\Hid (NumsZ wr w.heap.size w.heap.size (idxG n k))/\Below w.heap.size w wr) (fun i _=>n-(intOf i).toNat)
 case atStart=>exact ⟨0,Nat.zero_le _,rfl,HM0.out,HB0.out⟩
 case round =>
  obtain ⟨k,hk,rfl,HM,hbel⟩:=hrel
  by_cases hlt:k<n
  · have hcell:=HM.out.cell (i:=k) (by rw [idxG_len];exact hlt)
    have hfz:=HM.out.frozen k
    have HM1:=HM.out.set k (k:Int)
    rw [idxG_set] at HM1
    have HM1:=qz HM1
    have HB1:=qz (hbel.setCell (p:=⟨w.heap.size,k,none⟩) (zL _) (.int .i64 (k:Int)))
    clear HM hbel
    go_wp2_with fail
    go_roundw
    case rel=>exact ⟨k+1,by omega,by go_num,HM1.out,HB1.out⟩
    case measure=>simp [intOf];omega
  · obtain rfl:k=n:=by omega
    have HM2:=HM.out
    rw [idxG_end] at HM2
    go_wp2_with fail
    go_ret
    exact ⟨rfl,HM2,hbel⟩
end Go.Proofs.YtknnnbpgkfaapaaGreat.Vm
