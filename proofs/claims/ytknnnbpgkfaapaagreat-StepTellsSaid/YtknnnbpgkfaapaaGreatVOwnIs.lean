import Derived.Test.YtknnnbpgkfaapaaGreatVInMath
import Derived.Deep.QuietTactic
import Derived.BigQuiet
set_option maxRecDepth 100000
set_option linter.unusedSimpArgs false
set_option linter.unusedVariables false
namespace Go.Proofs.YtknnnbpgkfaapaaGreat.Vm
open Go Go.RowKit
structure Held (A:World) where
 V:World
 k:Kept A V
theorem held_here {A w:World}(h:Kept A w):∃ n:Held A,w=n.V:=⟨⟨w,h⟩,rfl⟩
theorem Held.cell {A:World}(n:Held A){p:Addr}{v:Value}(h:A.cell? p=some v):n.V.cell? p=some v :=
 (Below.cell n.k (World.block_lt_of_cell? A p h)).trans h
theorem Held.call {P:Program}{A:World}(n:Held A){f:FuncId}{args:Array Value}{v:Value}(h:Calls P f args n.V fun e w'=>e=.returned v/\Below n.V.heap.size n.V w') :
 Calls P f args n.V fun e w'=>e=.returned v/\∃ m:Held A,w'=m.V :=
 h.mono fun _ _ ⟨he,hb⟩=>⟨he,held_here (Below.trans n.k (hb.mono n.k.size))⟩
theorem zaz {P:Program}{A:World}{id:Nat}{Q:Exit->Act->World->Prop}{a:Act}{w:World}{l:List Oper}(hw:Kept A w)(hm:P.follows .mixedOrders=true)(hB:Region.lexB .any l.toArray=true)
 (h:wpQuiet P l.toArray (fun w'=>∃ n:Held A,w'=n.V) (fun a'=>∀ w',(∃ n:Held A,w'=n.V)->Q .normal a' w') l a):(Code.region id l.toArray true).wp P Q a w :=
 wp_region_quiet (C:=fun w'=>∃ n:Held A,w'=n.V) hm hB (held_here hw.drew) (by simpa using h)
end Go.Proofs.YtknnnbpgkfaapaaGreat.Vm
namespace Go.Proofs.YtknnnbpgkfaapaaGreat.Vm
open Go.RowKit
theorem info_int:(Tryz.prog.info? 3).map (fun i=>(i.zero,i.size,i.bytes))=some (some (.int .i64 0),1,8):=by kernel_rfl
def i64s (l:List Nat):List Value:=l.map fun z=>Value.int .i64 (z:Nat)
def OwnI (w:World)(B:Nat)(v:Value)(l:List Nat):Prop:=w.ownsRow B 3 1 v l.length (i64s l)
theorem own_pushI {w:World}{B:Nat}{v:Value}{l:List Nat}{x:Nat}(h:w.ownsRow B 3 1 v (l.length+1) (i64s l++[.int .i64 (x:Nat)])):OwnI w B v (l++[x]):=by
 unfold OwnI
 simpa [i64s] using h
theorem push_stepI {w wr w1:World}{B:Nat}{v v':Value}{out:List Nat}{x:Nat}{o:Obj}{X:Int}(hX:X=(x:Nat))(hown:OwnI wr B v out)(hbel:Below B w wr)(hB:B<=w.heap.size)
 (hown1:w1.ownsRow B 3 1 v' (out.length+1) (i64s out++[.int .i64 X])) (hg:(wr.alloc o).grownBy w1 v.ownBlock):OwnI w1 B v' (out++[x])/\Below B w w1:=by
 subst hX
 have hs:=hbel.size
 exact ⟨own_pushI hown1,(hbel.alloc (by omega) o).grown hg (by simp;omega) (fun k hk=>(World.ownsRow.lt hown k hk).1)⟩
theorem ownI_below {w w':World}{B:Nat}{v:Value}{l:List Nat}(h:OwnI w B v l)(hb:Below w.heap.size w w'):OwnI w' B v l:=by
 refine ⟨h.1,?_⟩
 rcases h.2 with h2|⟨g,cap,cur,rfl,hg,hh,r⟩
 · exact .inl h2
 · exact .inr ⟨g,cap,cur,rfl,hg,by rw [hb.block g (Array.getElem?_eq_some_iff.1 hh).1];exact hh,r⟩
theorem OwnI.mono {w:World}{B B':Nat}{v:Value}{l:List Nat}(h:OwnI w B v l)(hB:B'<=B):OwnI w B' v l:=by
 refine ⟨h.1,?_⟩
 rcases h.2 with h2|⟨g,cap,cur,hv,hb,r⟩
 · exact .inl h2
 · exact .inr ⟨g,cap,cur,hv,by omega,r⟩
end Go.Proofs.YtknnnbpgkfaapaaGreat.Vm
namespace Go.Proofs.YtknnnbpgkfaapaaGreat.Vm
open Go.RowKit
def ListPost (w:World)(l:List Nat)(e:Ending)(w':World):Prop:=∃ v,e=.returned v/\OwnI w' w.heap.size v l/\Below w.heap.size w w'
theorem filter_snoc (p:Nat->Bool)(k:Nat):(List.range (k+1)).filter p=(List.range k).filter p++(if p k then [k] else []):=by
 rw [List.range_succ,List.filter_append]
 cases h:p k <;> simp [h]
theorem filter_len (p:Nat->Bool)(k:Nat):((List.range k).filter p).length<=k:=by
 have:=List.length_filter_le p (List.range k)
 simpa using this
end Go.Proofs.YtknnnbpgkfaapaaGreat.Vm
