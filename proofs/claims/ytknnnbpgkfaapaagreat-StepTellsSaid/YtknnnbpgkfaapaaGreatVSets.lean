import Derived.Test.YtknnnbpgkfaapaaGreatQ
import Derived.Test.YtknnnbpgkfaapaaGreatVInMath
import Derived.Maps.OwnSet
import Derived.Maps.AppendAt
set_option maxRecDepth 100000
set_option linter.unusedSimpArgs false
set_option linter.unusedVariables false
namespace Go.Proofs.YtknnnbpgkfaapaaGreat.Vm
open Go Go.RowKit Go.Maps
theorem key_law:Keyed Tryz.prog 3:=int_keyed Tryz.underlying3
theorem zero_unit (w:World):(zeroValue 99).run Tryz.prog w=.ok (.agg #[]) w:=by kernel_rfl
def keysZ (bl:List Int):List Lit:=bl.map (Lit.int .i64)
def ShutIn (w:World)(mb m:Nat)(bl:List Int):Prop:=w.ownsMap Tryz.prog 3 (unitElem (H:=Unit)) mb m (setOf (.agg []) (keysZ bl))
theorem any_keys (x:Int):∀ l:List Int,l.any ((fun y:Lit=>y.sameKey (.int .i64 x)) ∘ Lit.int .i64)=decide (x∈l)
 | []=>by simp
 | a :: r=>by
   rw [List.any_cons,any_keys x r]
   have e:((fun y:Lit=>y.sameKey (.int .i64 x)) ∘ Lit.int .i64) a=decide (IntKind.i64=IntKind.i64/\a=x):=rfl
   rw [e]
   by_cases h:a=x
   · subst h;simp
   · have h':¬ x=a:=fun e=>h e.symm
     simp [h,h']
theorem has_keys (bl:List Int)(x:Int):Maps.has (setOf (H:=Unit) (.agg []) (keysZ bl)) (.int .i64 x)=decide (x∈bl):=by
 unfold keysZ
 rw [has_setOf _ _ _ (fun y hy=>by obtain ⟨_,_,rfl⟩:=List.mem_map.1 hy;trivial),List.any_map]
 exact any_keys x _
theorem ShutIn.keep {w w':World}{mb m:Nat}{bl:List Int}(h:ShutIn w mb m bl)(hk:w'.heap[mb]?=w.heap[mb]?):ShutIn w' mb m bl:=by
 obtain ⟨es,clock,hb,r⟩:=h
 exact ⟨es,clock,hk.trans hb,r⟩
theorem ShutIn.lt {w:World}{mb m:Nat}{bl:List Int}(h:ShutIn w mb m bl):mb<w.heap.size:=World.ownsMap.lt h
set_option maxHeartbeats 400000 in
theorem has_any (mb m:Nat)(bl:List Int)(c:Int)(w:World)(h:ShutIn w mb m bl)(hc:(Lit.int .i64 c).wf=true) :
 Calls Tryz.prog 135 #[.map (some mb),.int .i64 c] w fun e w'=>e=.returned (.bool (decide (c∈bl)))/\Below w.heap.size w w':=by
 have hkey:keyOf Tryz.prog 3 (.int .i64 c)=some (.int .i64 c):=keyOf_int_mk Tryz.underlying3 hc
 go_enter Tryz.func135,Tryz.ntmps135
 go_wp2_with (at_lookup;refine wpList_lookup_own_unit _ rfl _ _ 176 rfl 3 99 key_law Tryz.underlying176 (zero_unit _) mb m _ rfl h _ _ rfl hkey ?_)
 go_ret
 rw [has_keys]
 exact ⟨rfl,(zX _ _).alloc (zL _) _⟩
set_option maxHeartbeats 400000 in
theorem setOf_any (a:Option Addr)(n c B:Nat)(bl:List Int)(w:World)(h:RowZ .i64 w B a n c bl)(hB:B<=w.heap.size)(hw:∀ z∈bl,(Lit.int .i64 z).wf=true)(hn:n<=1000000) :
 Calls Tryz.prog 131 #[.slice a n c] w fun e w'=>e=.returned (.map (some w.heap.size))/\ShutIn w' w.heap.size n bl/\Below w.heap.size w w':=by
 have hmm:(Instr.makeMap 176 (some (.int .i64 (n:Int)))).run Tryz.prog w=.ok (.map (some w.heap.size)) (w.alloc (.map #[] 0)):=by
  simp [Instr.makeMap,go_sem,Result.andThen]
 obtain ⟨hl,hnc,hcm,hcs⟩:=h
 have HW:=qz hw
 have HB:=qz hB
 clear hw
 go_enter Tryz.func131,Tryz.ntmps131
 go_wp2
 go_loopw [11] (fun i wr=>∃ k:Nat,k<=n/\i=.int .i64 k/\Hid (ShutIn wr w.heap.size k (bl.take k))/\Below w.heap.size w wr) (fun i _=>n-(intOf i).toNat)
 case atStart=>exact ⟨0,Nat.zero_le _,rfl,World.ownsMap_made _ _ _ _,(zX _ _).alloc (zL _) _⟩
 case round =>
  obtain ⟨k,hk,rfl,HM,hbel⟩:=hrel
  by_cases hlt:k<n
  · obtain ⟨b,off,rfl,hb,hcs⟩:=hcs (by omega)
    have hcell:=(hbel.cell (p:=⟨b,off+k,none⟩) (show b<w.heap.size from Nat.lt_of_lt_of_le hb HB.out)).trans (hcs k hlt)
    have hkey:keyOf Tryz.prog 3 (.int .i64 (bl.getD k 0))=some (.int .i64 (bl.getD k 0)):=keyOf_int_mk Tryz.underlying3 (HW.out _ (by simp [List.getD,hl,hlt]))
    have hsn:setOf (H:=Unit) (.agg []) (keysZ (bl.take (k+1)))=(setOf (.agg []) (keysZ (bl.take k))).put (.int .i64 (bl.getD k 0)) (.agg []):=by
     unfold keysZ
     rw [List.take_add_one,List.map_append,<- setOf_snoc]
     simp [List.getD,hl,hlt]
    have hown:World.ownsMap wr Tryz.prog 3 (unitElem (H:=Unit)) w.heap.size k (setOf (.agg []) (keysZ (bl.take k))):=HM.out
    generalize bl.getD k 0=z at hcell hkey hsn
    have HSN:=qz hsn
    clear hsn hcs HM
    go_wp2_with (first
     | (at_mapUpdate;refine wpList_mapUpdate_own _ rfl _ _ _ 176 rfl 3 99 key_law Tryz.underlying176 (unitElem (H:=Unit)) w.heap.size k _ rfl hown (by unfold maxLen;omega) _ _ _ rfl rfl hkey _ [] unitElem_mk ?_;intro w1 hown1 hgrow1)
     | go_in)
    rw [<- HSN.out] at hown1
    go_roundw
    case rel=>exact ⟨k+1,by omega,by go_num,hown1,hbel.grown hgrow1 hbel.size (fun j hj=>by cases hj;exact zL _)⟩
    case measure=>simp [intOf];omega
  · obtain rfl:k=n:=by omega
    have HM2:=HM.out
    rw [List.take_of_length_le (by omega)] at HM2
    go_wp2
    go_ret
    exact ⟨rfl,HM2,hbel⟩
end Go.Proofs.YtknnnbpgkfaapaaGreat.Vm
