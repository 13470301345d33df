import Derived.Test.YtknnnbpgkfaapaaGreatVStepMath
import Derived.Test.YtknnnbpgkfaapaaGreatVLeadMath
import Derived.Test.YtknnnbpgkfaapaaGreatVRefBests
import Derived.KernelRfl
set_option maxRecDepth 100000
set_option linter.unusedSimpArgs false
set_option linter.unusedVariables false
namespace Go.Proofs.YtknnnbpgkfaapaaGreat.Vm
open Go Go.RowKit
abbrev mapE:ByteArray:=⟨#[46,46,46]⟩
theorem mapE_okay:Okay 3 1 mapE:=Okay.of (by decide +kernel)
theorem floorE (k:Nat)(h:k<3):zac (zaa mapE) (k:Int)=true:=by
 have:∀ k:Fin 3,zac (zaa mapE) (k.val:Int)=true:=by decide +kernel
 exact this ⟨k,h⟩
theorem farE {a b n:Nat}(ha:a<3)(hb:b<3)(h:farB (zav 3 1 (zaa mapE) []) b a n=true):farG 3 1 (zaa mapE) [] (a:Nat) (b:Nat)=n:=by
 rw [show farG 3 1 (zaa mapE) [] (a:Nat) (b:Nat)=farI (zav 3 1 (zaa mapE) []) b a from by unfold farG;rw [if_pos ⟨floorE a ha,floorE b hb⟩];simp]
 exact farI_far (farB_far h)
theorem field0:fieldG 3 1 (zaa mapE) [] 0=[0,1,2]:=by
 have h1:IsField (zav 3 1 (zaa mapE) []) 0 3 [0,1,2]:=fieldB_field (by decide +kernel)
 exact IsField.only (fieldG_is 3 1 (zaa mapE) [] 0) h1
theorem field2:fieldG 3 1 (zaa mapE) [] 2=[2,1,0]:=by
 have h1:IsField (zav 3 1 (zaa mapE) []) 2 3 [2,1,0]:=fieldB_field (by decide +kernel)
 exact IsField.only (fieldG_is 3 1 (zaa mapE) [] 2) h1
theorem pathE (c t:Nat)(F:List Int)(hc:c<3)(ht:t<3)(hf:fieldG 3 1 (zaa mapE) [] t=F)(r:Option (List Int × Int))(h:pathS 3 1 (zaa mapE) F [] [] 6 c=r):pathG 3 1 (zaa mapE) [] [] c t=r.map fun x=>(c:Int) :: x.1:=by
 unfold pathG
 rw [if_pos ⟨floorE t ht,floorE c hc⟩,hf,h]
abbrev sE0:St:=⟨0,[⟨0,0,0,1000,0⟩],[],[]⟩
abbrev sE1:St:=⟨1,[⟨0,2,1,1000,0⟩],[⟨1,0,2,3,0⟩],[]⟩
abbrev sE2:St:=⟨2,[⟨1,2,1,999,0⟩],[⟨1,0,2,3,0⟩],[]⟩
abbrev sE3:St:=⟨3,[⟨2,0,0,998,0⟩],[⟨1,0,2,4,0⟩],[]⟩
abbrev rE0:St:=⟨0,[⟨0,1,1,1000,0⟩],[⟨1,0,2,2,0⟩],[]⟩
abbrev inE:List Inp:=[⟨1,1,0,2⟩]
theorem newE0:newE (zac (zaa mapE)) [0]=0/\newS (zac (zaa mapE)) [0]=sE0:=⟨by kernel_rfl,by kernel_rfl⟩
theorem allsE:allS (zac (zaa mapE)) sE0 inE=⟨0,[⟨0,0,0,1000,0⟩],[⟨1,0,2,1,-1⟩],[]⟩:=by kernel_rfl
theorem codesE:zbr (zac (zaa mapE)) sE0 inE=[0]:=by decide +kernel
theorem readyE0:readyG 3 1 (zaa mapE) sE0 inE=rE0:=by
 unfold readyG
 rw [allsE]
 have hfit:FitD 3 1 (zaa mapE) ⟨0,[⟨0,0,0,1000,0⟩],[⟨1,0,2,1,-1⟩],[]⟩ 0 0:=⟨rfl,by decide,by show 0<=farG 3 1 (zaa mapE) [] ((0:Nat):Int) ((0:Nat):Int);rw [farE (a:=0) (b:=0) (n:=0) (by decide) (by decide) (by decide +kernel)];decide⟩
 have hb:bestG 3 1 (zaa mapE) ⟨0,[⟨0,0,0,1000,0⟩],[⟨1,0,2,1,-1⟩],[]⟩ 0=0:=by
  have:=bestG_at (W:=3) (H:=1) (l:=zaa mapE) (s:=⟨0,[⟨0,0,0,1000,0⟩],[⟨1,0,2,1,-1⟩],[]⟩) (j:=0) (by decide) rfl
  rw [show ((0:Nat):Int)=0 from rfl] at this
  rw [this]
  show (bestN 3 1 (zaa mapE) _ 0 1).1=0
  rw [bestN_yes hfit (.inl (by decide))]
  rfl
 have h1:dispN 3 1 (zaa mapE) ⟨0,[⟨0,0,0,1000,0⟩],[⟨1,0,2,1,-1⟩],[]⟩ 1=(giveS ⟨0,[⟨0,0,0,1000,0⟩],[⟨1,0,2,1,-1⟩],[]⟩ 0 0,[(0,0)]):=by
  rw [dispN]
  simp only [dispN,show ((0:Nat):Int)=0 from rfl,hb]
  rfl
 unfold dispG
 show (chargeS (dispN 3 1 (zaa mapE) _ 1).1)=rE0
 rw [h1]
 rfl
theorem disp_none {s:St}(hl:s.ts.length=1)(hd:(s.ts.getD 0 zr).d≠1)(hc:chargeS s=s):(dispG 3 1 (zaa mapE) s).1=s:=by
 have hb:bestG 3 1 (zaa mapE) s 0=-1:=by
  unfold bestG
  exact if_neg (fun q=>hd q.2.2)
 unfold dispG
 rw [hl]
 have h1:(dispN 3 1 (zaa mapE) s 1).1=s:=by
  rw [dispN]
  simp only [dispN,show ((0:Nat):Int)=0 from rfl,hb]
  rfl
 show chargeS (dispN 3 1 (zaa mapE) s 1).1=s
 rw [h1,hc]
theorem readyE1:readyG 3 1 (zaa mapE) sE1 []=sE1:=by
 unfold readyG
 exact disp_none rfl (by decide) rfl
theorem readyE2:readyG 3 1 (zaa mapE) sE2 []=sE2:=by
 unfold readyG
 exact disp_none rfl (by decide) rfl
instance keptDecE (cells blocked now:List Int) (i:Nat):Decidable (KeptP cells blocked now i):=by unfold KeptP;infer_instance
theorem toE {s:St}{c t y:Int}{p:List Int}(hr:s.rs.length=1)(hb:s.bl=[])(hc:cellR s 0=c)(hg:zay 3 1 (zaa mapE) s ((0:Nat):Int)=(t,true))(hp:pathG 3 1 (zaa mapE) [] [] c t=some p)(hy:p.getD 1 0=y)(hk:¬ KeptP [c] [] [y] 0) :
 toG 3 1 (zaa mapE) s=[y]:=by
 have h1:zbw s=[c]:=by unfold zbw;rw [hr];simp [List.range_succ,hc]
 have h2:zbs 3 1 (zaa mapE) s=[y]:=by
  unfold zbs
  rw [hr]
  have:planG 3 1 (zaa mapE) s 1 0=p:=by
   unfold planG
   rw [hg]
   have ho:othG 3 1 (zaa mapE) s 1 0=[]:=by
    unfold othG oth1
    have hg0:zay 3 1 (zaa mapE) s 0=(t,true):=hg
    simp [List.range_succ,hg0]
   simp only [if_true,ho]
   unfold pthG
   rw [hb,hc,hg,hp]
   rfl
  simp [List.range_succ,this]
  exact hy
 unfold toG
 rw [h1,h2,hb]
 refine gateG_of (.done _ fun i hi=>?_)
 obtain rfl:i=0:=by simpa using hi
 exact hk
theorem goalE0:zay 3 1 (zaa mapE) rE0 ((0:Nat):Int)=(0,true):=by
 rw [goal_in (k:=0) (by decide) rfl]
 simp
 kernel_rfl
theorem goalE1:zay 3 1 (zaa mapE) sE1 ((0:Nat):Int)=(2,true):=by
 rw [goal_in (k:=0) (by decide) rfl]
 simp
 kernel_rfl
theorem goalE2:zay 3 1 (zaa mapE) sE2 ((0:Nat):Int)=(2,true):=by
 rw [goal_in (k:=0) (by decide) rfl]
 simp
 kernel_rfl
theorem toE0:toG 3 1 (zaa mapE) rE0=[0]:=toE (p:=[0,0,0,0,0,0,0]) rfl rfl rfl goalE0 (pathE 0 0 _ (by decide) (by decide) field0 (some ([0,0,0,0,0,0],0)) (by decide +kernel)) rfl (by decide)
theorem toE1:toG 3 1 (zaa mapE) sE1=[1]:=toE (p:=[0,1,2,2,2,2,2]) rfl rfl rfl goalE1 (pathE 0 2 _ (by decide) (by decide) field2 (some ([1,2,2,2,2,2],1)) (by decide +kernel)) rfl (by decide)
theorem toE2:toG 3 1 (zaa mapE) sE2=[2]:=toE (p:=[1,2,2,2,2,2,2]) rfl rfl rfl goalE2 (pathE 1 2 _ (by decide) (by decide) field2 (some ([2,2,2,2,2,2],0)) (by decide +kernel)) rfl (by decide)
theorem stepE0:stepG 3 1 (zaa mapE) sE0 inE=sE1:=by
 unfold stepG moveG
 rw [readyE0,toE0]
 kernel_rfl
theorem stepE1:stepG 3 1 (zaa mapE) sE1 []=sE2:=by
 unfold stepG moveG
 rw [readyE1,toE1]
 kernel_rfl
theorem stepE2:stepG 3 1 (zaa mapE) sE2 []=sE3:=by
 unfold stepG moveG
 rw [readyE2,toE2]
 kernel_rfl
theorem waysE0:waysG 3 1 (zaa mapE) (readyG 3 1 (zaa mapE) sE0 inE)=[0]:=by
 unfold waysG
 rw [readyE0,toE0]
 decide +kernel
theorem waysE1:waysG 3 1 (zaa mapE) (readyG 3 1 (zaa mapE) sE1 [])=[2]:=by
 unfold waysG
 rw [readyE1,toE1]
 decide +kernel
theorem runE:runG 3 1 (zaa mapE) sE0 [inE,[],[]]=sE3:=by
 simp only [runG,stepE0,stepE1,stepE2]
theorem sE0_right:RightP (zac (zaa mapE)) sE0 where
 tick:=by decide
 rn:=by decide
 tn:=by decide
 rest i hi:=by
  obtain rfl:i=0:=by simpa using hi
  exact ⟨floorE 0 (by omega),fun k hk=>absurd hk (by omega),by decide,by decide⟩
 job i hi:=absurd hi (by simp)
 shut i hi:=absurd hi (by simp)
 role i hi:=absurd hi (by simp)
 mode i hi:=by
  obtain rfl:i=0:=by simpa using hi
  exact .inl ⟨.inl rfl,rfl⟩
theorem sE1_right:RightP (zac (zaa mapE)) sE1:=by
 rw [<- stepE0]
 exact step_right sE0_right (by decide)
end Go.Proofs.YtknnnbpgkfaapaaGreat.Vm
