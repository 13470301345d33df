import Derived.Test.YtknnnbpgkfaapaaGreatVRefSearch
import Derived.Test.YtknnnbpgkfaapaaGreatVRefFields
import Derived.Test.YtknnnbpgkfaapaaGreatVLeadMath
set_option maxRecDepth 100000
set_option linter.unusedSimpArgs false
set_option linter.unusedVariables false
namespace Go.Proofs.YtknnnbpgkfaapaaGreat.Vm
open Go Go.RowKit
noncomputable def fieldG (W H:Int)(cells:List Nat)(bl:List Int)(to:Int):List Int:=(List.range cells.length).map fun c=>farI (zav W H cells bl) to.toNat c
theorem fieldG_is (W H:Int)(cells:List Nat)(bl:List Int)(to:Int):IsField (zav W H cells bl) to.toNat cells.length (fieldG W H cells bl to):=by
 refine ⟨by simp [fieldG],fun c hc=>?_⟩
 have e:(fieldG W H cells bl to).getD c 0=farI (zav W H cells bl) to.toNat c:=by simp [fieldG,List.getD,hc]
 rw [e]
 exact farI_case _ _ _
noncomputable def pathG (W H:Int)(cells:List Nat)(bl:List Int)(oth:List (List Int))(fr to:Int):Option (List Int) :=
 if zac cells to=true/\zac cells fr=true then (pathS W H cells (fieldG W H cells bl to) bl oth 6 fr).map fun x=>fr :: x.1 else none
def PathOut (r:Option (List Int))(l:List Int)(b:Bool):Prop:=(r=none/\l=[]/\b=false)\/(r=some l/\b=true)
theorem farI_most {W H:Int}{s:List Nat}{bl:List Int}{to c:Nat}(hto:to<s.length):farI (zav W H s bl) to c<=s.length:=by
 rcases farI_case (zav W H s bl) to c with ⟨n,h1,h2⟩|⟨h1,_⟩
 · rw [h1]
   have:=h2.lt (N:=s.length) (fun b c hb=>step_from hb) hto
   omega
 · omega
theorem fieldG_bounds {W H:Int}{cells:List Nat}{bl:List Int}{to:Int}(hto:to.toNat<cells.length)(hN:cells.length<=65536)(i:Nat):(fieldG W H cells bl to).getD i 0<=65536/\-1<=(fieldG W H cells bl to).getD i 0:=by
 by_cases hi:i<cells.length
 · rw [(fieldG_is W H cells bl to).at hi]
   have h1:=farI_most (W:=W) (H:=H) (bl:=bl) (c:=i) hto
   have h2:=farI_ge (zav W H cells bl) to.toNat i
   omega
 · have:(fieldG W H cells bl to).length<=i:=by rw [(fieldG_is W H cells bl to).1];omega
   simp [List.getD,this]
end Go.Proofs.YtknnnbpgkfaapaaGreat.Vm
