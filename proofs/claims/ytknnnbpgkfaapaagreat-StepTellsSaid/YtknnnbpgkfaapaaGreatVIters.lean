import Derived.Test.YtknnnbpgkfaapaaGreatQ
import Derived.Test.YtknnnbpgkfaapaaGreatVInMath
import Derived.Test.YtknnnbpgkfaapaaGreatVOwnIs
import Derived.Test.YtknnnbpgkfaapaaGreatVGridMath
import Derived.RangeFuncCalls
import Derived.RangeFuncBound
import Derived.OneCell
import Derived.Laws.OwnMore
import Derived.Maps.OwnIn
import Derived.Shelf.Abstract
import Derived.Shelf.RegionOpen
import Derived.WalkKit
import Derived.OwnWalkIn
import Derived.TacticsInMore
import Derived.LoopNIn
import Derived.LoopIn
import Derived.Sort.LoopGhostIn
set_option maxRecDepth 100000
set_option linter.unusedSimpArgs false
set_option linter.unusedVariables false
namespace Go.Proofs.YtknnnbpgkfaapaaGreat.Vm
open Go Go.RowKit
structure Tame (b:Nat)(w w':World):Prop where
 size:w.heap.size<=w'.heap.size
 same:∀ k,b<=k->k<w.heap.size->w'.heap[k]?=w.heap[k]?
structure Spares (b B:Nat)(w w':World):Prop where
 size:w.heap.size<=w'.heap.size
 same:∀ (k:Nat) (o:Obj),b<=k->w.heap[k]?=some o->(k<B\/o.isCells=true)->w'.heap[k]?=some o
section
variable {b B k:Nat} {u v w w':World} {o:Obj}
theorem heap_lt (h:w.heap[k]?=some o):k<w.heap.size:=(Array.getElem?_eq_some_iff.1 h).1
theorem Tame.refl (b:Nat)(w:World):Tame b w w:=⟨zL _,fun _ _ _=>rfl⟩
theorem Tame.trans (h:Tame b u v)(h':Tame b v w):Tame b u w :=
 ⟨Nat.le_trans h.size h'.size,fun k hb hk=>(h'.same k hb (Nat.lt_of_lt_of_le hk h.size)).trans (h.same k hb hk)⟩
theorem Tame.setCell (h:Tame b u w){p:Addr}(hp:p.block<b)(x:Value):Tame b u (w.setCell p x) :=
 h.trans ⟨by simp [World.setCell],fun k hb _=>Below.heap_setCell w p x k (by omega)⟩
theorem Tame.of_below (h:Below w.heap.size w w'):Tame b w w':=⟨h.size,fun k _ hk=>h.block k hk⟩
theorem Tame.spares (h:Tame b w w'):Spares b B w w':=⟨h.size,fun k o hb hk _=>(h.same k hb (heap_lt hk)).trans hk⟩
theorem Spares.trans (h:Spares b B u v)(h':Spares b B v w):Spares b B u w :=
 ⟨Nat.le_trans h.size h'.size,fun k o hb hk ho=>h'.same k o hb (h.same k o hb hk ho) ho⟩
theorem Spares.put {l:Nat}{o':Obj}(hl:w.heap[l]?=some o)(hB:B<=l)(ho:o.isCells=false):Spares b B w (w.putObj l o') :=
 ⟨by simp,fun k x _ hk hx=>(World.putObj_heap_other (fun e=>by subst e;rw [hl] at hk;cases hk;rcases hx with h|h;omega;rw [ho] at h;cases h)).trans hk⟩
theorem below_put {n l:Nat}{o':Obj}(hn:n<=l)(w:World):Below n w (w.putObj l o') :=
 ⟨rfl,rfl,rfl,by simp,fun k hk=>World.putObj_heap_other (by omega)⟩
end
def Offers {α:Type}(F:Fence)(n:Nat)(P:Program)(g:Nat)(lb:Array Value)(encs:α->Array Value)(b:Nat)(Ok S Sp:List α->Prop)(w:World):Prop :=
 ∀ (l:Nat) (J Jx:List α->World->Prop) (W:World),Below w.heap.size w W ->
   (∀ s A A',J s A->Below W.heap.size A A'->J s A')->(∀ s A A',Jx s A->Below W.heap.size A A'->Jx s A') ->
   (∀ pre x A,J pre A->Ok (pre++[x])->YieldAt F (n-1) P l (encs x) A fun e A' =>
    (e=.returned (.bool true)/\J (pre++[x]) A'/\Spares b w.heap.size A A')\/(e=.returned (.bool false)/\Jx (pre++[x]) A')) ->
   J [] W ->
   CallsIn F n P g (#[.func (.yield l) #[] #[]]++lb) W fun e A=>(∃ v,e=.returned v)/\((∃ xs,S xs/\J xs A)\/(∃ pre,Sp pre/\Jx pre A))
def Leaves {α:Type}(b:Nat)(I:List α->World->Prop)(Ix:Code->List α->World->Prop)(xs:List α)(W:World):Exit->Act->World->Prop
 | .normal,_,W'=>Tame b W W'/\I xs W'
 | .ret,_,W'=>Tame b W W'/\Ix .ret xs W'
 | .exit id,_,W'=>Tame b W W'/\Ix (.exit id) xs W'
 | .goto t,_,W'=>Tame b W W'/\Ix (.goto t) xs W'
 | .panic _,_,_=>False
 | .outgrown,_,_=>False
abbrev recOf (fn:FuncId)(tmps:Array Value)(ps:Array Tmp)(assign body:Code)(D:Nat)(st:LoopState)(pe:Option Code):Loop :=
 { state:=st,pending:=pe,fn,tmps,params:=ps,assign,body,defers:=D }
def Led (D l:Nat)(r:Loop)(W:World):Prop:=W.heap[l]?=some (.loop r)/\W.heap[D]?=some (.deferred (some []))
section
variable {D l B:Nat} {r r':Loop} {W W':World}
theorem Led.below (h:Led D l r W)(hb:Below B W W')(h1:D<B)(h2:l<B):Led D l r W':=⟨(hb.block l h2).trans h.1,(hb.block D h1).trans h.2⟩
theorem Led.put (h:Led D l r W)(hne:D≠l)(r':Loop):Led D l r' (W.putObj l (.loop r')) :=
 ⟨World.putObj_heap_same (heap_lt h.1),(World.putObj_heap_other hne).trans h.2⟩
theorem Led.tame {b:Nat}(h:Led D l r W)(ht:Tame b W W')(h1:b<=D)(h2:b<=l):Led D l r W' :=
 ⟨(ht.same l h2 (heap_lt h.1)).trans h.1,(ht.same D h1 (heap_lt h.2)).trans h.2⟩
end
variable {F:Fence} {n:Nat} {P:Program}
theorem rounds {α:Type}{g:Operand}{ps:Array Tmp}{assign body:Code}{Q:Exit->Act->World->Prop}{a:Act}{w:World}
 (hro:F.round=none) (h1:1<=n) {gf:Nat} {lb:Array Value} (hg:a.eval g=.func (.func gf) #[] lb) (hFg:F.fn gf) (eg:∀ args w,(callFunc gf args).run P w=.ok (.enter gf args) w)
 {encs:α->Array Value} {b:Nat} {Ok S Sp:List α->Prop} (hseq:Offers F (n-1) P gf lb encs b Ok S Sp w) (hbw:b<=w.heap.size) (hps:∀ x,(encs x).size=ps.size)
 (I:List α->World->Prop) (Ix:Code->List α->World->Prop) (hI:∀ s A A',I s A->Below w.heap.size A A'->I s A') (hIx:∀ c s A A',Ix c s A->Below w.heap.size A A'->Ix c s A')
 (h0:I [] w) (a₁:α->Act)
 (hassign:∀ (l:Nat) (x:α) (W:World) (K:Act->World->Prop),K (a₁ x) W ->
  assign.wpIn (F.inRound l) (n-1-1) P (Exit.then K (fun _ _ _=>False)) { tmps:=(ps.zip (encs x)).foldl (fun t (p,v)=>t.setIfInBounds p v) a.tmps,defers:=[] } W)
 (hbody:∀ (l:Nat) (pre:List α) (x:α) (W:World),I pre W->Ok (pre++[x])->body.wpIn (F.inRound l) (n-1-1) P (Leaves b I Ix (pre++[x]) W) (a₁ x) W)
 (hdone:∀ (D:Nat) (xs:List α) (W:World),w.heap.size<=D->S xs->I xs W->W.heap[D]?=some (.deferred (some []))->Q .normal { a with defers:={ target:=.collected D,args:=#[] } :: a.defers } W)
 (hstop:∀ (D:Nat) (c:Code) (pre:List α) (W:World),w.heap.size<=D->Sp pre->Ix c pre W->W.heap[D]?=some (.deferred (some []))->c.wpIn F n P Q { a with defers:={ target:=.collected D,args:=#[] } :: a.defers } W) :
 (Code.rangeFunc g ps assign body).wpIn F n P Q a w:=by
 refine wpIn_rangeFunc fun fn hfn=>?_
 rw [hro]
 have hlen:(w.alloc (.deferred (some []))).heap.size=w.heap.size+1:=by simp
 obtain ⟨W1,hW1⟩:∃ W1,(w.alloc (.deferred (some []))).alloc (.loop (recOf fn a.tmps ps assign body w.heap.size .ready none))=W1:=⟨_,rfl⟩
 have hs1:W1.heap.size=w.heap.size+2:=by rw [<- hW1];simp
 have hB1:Below w.heap.size w W1:=by rw [<- hW1];exact ((zX _ w).alloc (zL _) _).alloc (by simp) _
 have hled:Led w.heap.size (w.heap.size+1) (recOf fn a.tmps ps assign body w.heap.size .ready none) W1:=by
  rw [<- hW1]
  refine ⟨?_,(Below.heap_alloc _ _ _ (by simp)).trans (World.alloc_heap_new w _)⟩
  have:=World.alloc_heap_new (w.alloc (.deferred (some []))) (.loop (recOf fn a.tmps ps assign body w.heap.size .ready none))
  rwa [hlen] at this
 refine ⟨w.heap.size+1,[{ target:=.collected w.heap.size,args:=#[] }],W1,{ target:=.fn (.func gf) lb,args:=#[.func (.yield (w.heap.size+1)) #[] #[]] },W1,gf,
  #[.func (.yield (w.heap.size + 1)) #[] #[]] ++ lb, W1, ?_, ?_, ?_, ?_, fun _ => h1, ?_⟩
 · rw [<- hW1];exact run_enterLoop_outer _ _ _ _ _
 · simp only [resolve,hg]
   simp [go_sem]
 · intro f' hf'
   simp [Target.leads] at hf'
   subst hf'
   exact hFg
 · simp [invoke,go_sem,eg]
 have hput:∀ {s:List α} {A:World} (o:Obj),I s A->I s (A.putObj (w.heap.size+1) o):=fun o h=>hI _ _ _ h (below_put (by omega) _)
 have hputx:∀ {c:Code} {s:List α} {A:World} (o:Obj),Ix c s A->Ix c s (A.putObj (w.heap.size+1) o):=fun o h=>hIx _ _ _ _ h (below_put (by omega) _)
 refine (hseq (w.heap.size+1)
  (fun pre A=>I pre A/\Led w.heap.size (w.heap.size+1) (recOf fn a.tmps ps assign body w.heap.size .ready none) A)
  (fun pre A=>∃ c,Ix c pre A/\Led w.heap.size (w.heap.size+1) (recOf fn a.tmps ps assign body w.heap.size .done (some c)) A)
  W1 hB1
  (fun s A A' h hb=>⟨hI _ _ _ h.1 (hb.mono (by omega)),h.2.below hb (by omega) (by omega)⟩)
  (fun s A A' ⟨c,h,hl⟩ hb=>⟨c,hIx _ _ _ _ h (hb.mono (by omega)),hl.below hb (by omega) (by omega)⟩)
  ?_ ⟨hI _ _ _ h0 hB1,hled⟩).mono ?_
 · rintro pre x A ⟨hi,hl⟩ hok
   refine ⟨fn,_,assign,body,run_yield (P:=P) (args:=encs x) hl.1 (hps x),roundIn_of_wpIn hfn (hassign _ x A _ ⟨_,run_beginRound hl.1 rfl,?_⟩)⟩
   have hl2:=hl.put (by omega) (recOf fn a.tmps ps assign body w.heap.size .busy none)
   have hsp:Spares b w.heap.size A (A.putObj (w.heap.size+1) (.loop (recOf fn a.tmps ps assign body w.heap.size .busy none))):=Spares.put hl.1 (by omega) rfl
   refine wpIn_mono (hbody _ pre x _ (hput _ hi) hok) ?_
   rintro e a3 A3 hp
   cases e with
   | normal =>
     obtain ⟨ht,hi3⟩:=hp
     have hl3:=hl2.tame ht hbw (by omega)
     exact ⟨_,_,run_endRound (P:=P) none hl3.1,.inl ⟨rfl,⟨hput _ hi3,hl3.put (by omega) _⟩,(hsp.trans ht.spares).trans (Spares.put hl3.1 (by omega) rfl)⟩⟩
   | ret =>
     obtain ⟨ht,hi3⟩:=hp
     have hl3:=hl2.tame ht hbw (by omega)
     exact ⟨_,_,run_endRound (P:=P) (some .ret) hl3.1,.inr ⟨rfl,.ret,hputx _ hi3,hl3.put (by omega) _⟩⟩
   | exit id =>
     obtain ⟨ht,hi3⟩:=hp
     have hl3:=hl2.tame ht hbw (by omega)
     exact ⟨_,_,run_endRound (P:=P) (some (.exit id)) hl3.1,.inr ⟨rfl,.exit id,hputx _ hi3,hl3.put (by omega) _⟩⟩
   | goto t =>
     obtain ⟨ht,hi3⟩:=hp
     have hl3:=hl2.tame ht hbw (by omega)
     exact ⟨_,_,run_endRound (P:=P) (some (.goto t)) hl3.1,.inr ⟨rfl,.goto t,hputx _ hi3,hl3.put (by omega) _⟩⟩
   | panic ch=>exact hp.elim
   | outgrown=>exact hp.elim
 · rintro e A ⟨⟨v,rfl⟩,(⟨xs,hS,hi,hl⟩|⟨pre,hSp,c,hi,hl⟩)⟩
   · exact ⟨none,_,run_endLoop (P:=P) hl.1 (by simp),hdone _ xs _ (zL _) hS (hput _ hi) ((World.putObj_heap_other (by omega)).trans hl.2)⟩
   · exact ⟨some c,_,run_endLoop (P:=P) hl.1 (by simp),hstop _ c pre _ (zL _) hSp (hputx _ hi) ((World.putObj_heap_other (by omega)).trans hl.2)⟩
def setAll (t:Array Value):List (Nat × Value)->Array Value
 | []=>t
 | (i,v) :: r=>setAll (t.setIfInBounds i v) r
theorem rounds_set {α:Type}{g:Operand}{ps:Array Tmp}{assign body:Code}{Q:Exit->Act->World->Prop}{a:Act}{w:World}
 (hro:F.round=none) (h1:1<=n) {gf:Nat} {lb:Array Value} (hg:a.eval g=.func (.func gf) #[] lb) (hFg:F.fn gf) (eg:∀ args w,(callFunc gf args).run P w=.ok (.enter gf args) w)
 {encs:α->Array Value} {b:Nat} {Ok S Sp:List α->Prop} (hseq:Offers F (n-1) P gf lb encs b Ok S Sp w) (hbw:b<=w.heap.size) (hps:∀ x,(encs x).size=ps.size)
 (I:List α->World->Prop) (Ix:Code->List α->World->Prop) (hI:∀ s A A',I s A->Below w.heap.size A A'->I s A') (hIx:∀ c s A A',Ix c s A->Below w.heap.size A A'->Ix c s A')
 (h0:I [] w) (sets:α->List (Nat × Value))
 (hassign:∀ (l:Nat) (x:α) (W:World) (K:Act->World->Prop),K { tmps:=setAll a.tmps (sets x),defers:=[] } W ->
  assign.wpIn (F.inRound l) (n-1-1) P (Exit.then K (fun _ _ _=>False)) { tmps:=(ps.zip (encs x)).foldl (fun t (p,v)=>t.setIfInBounds p v) a.tmps,defers:=[] } W)
 (hbody:∀ (l:Nat) (pre:List α) (x:α) (W:World),I pre W->Ok (pre++[x])->body.wpIn (F.inRound l) (n-1-1) P (Leaves b I Ix (pre++[x]) W) { tmps:=setAll a.tmps (sets x),defers:=[] } W)
 (hdone:∀ (D:Nat) (xs:List α) (W:World),w.heap.size<=D->S xs->I xs W->W.heap[D]?=some (.deferred (some []))->Q .normal { a with defers:={ target:=.collected D,args:=#[] } :: a.defers } W)
 (hstop:∀ (D:Nat) (c:Code) (pre:List α) (W:World),w.heap.size<=D->Sp pre->Ix c pre W->W.heap[D]?=some (.deferred (some []))->c.wpIn F n P Q { a with defers:={ target:=.collected D,args:=#[] } :: a.defers } W) :
 (Code.rangeFunc g ps assign body).wpIn F n P Q a w :=
 rounds hro h1 hg hFg eg hseq hbw hps I Ix hI hIx h0 _ hassign hbody hdone hstop
end Go.Proofs.YtknnnbpgkfaapaaGreat.Vm
namespace Go.Proofs.YtknnnbpgkfaapaaGreat.Vm
open Go Go.RowKit
theorem info_bool:(Tryz.prog.info? 4).map (fun i=>(i.zero,i.size,i.bytes))=some (some (.bool false),1,1):=by kernel_rfl
def bools (l:List Bool):List Value:=l.map .bool
theorem bools_at {l:List Bool}{i:Nat}(h:i<l.length):(bools l)[i]?=some (.bool (l.getD i false)):=by simp [bools,List.getD,h]
theorem bools_set (l:List Bool)(i:Nat):(bools l).set i (.bool true)=bools (l.set i true):=by simp [bools,List.map_set]
def Marks (w:World)(B sb:Nat)(l:List Bool):Prop:=w.ownsRow B 4 1 (.slice (some ⟨sb,0,none⟩) l.length l.length) l.length (bools l)
section
variable {w w':World} {B sb i:Nat} {l:List Bool}
theorem Marks.cell (h:Marks w B sb l)(hi:i<l.length):w.cell? ⟨sb,i,none⟩=some (.bool (l.getD i false)):=(World.ownsRow.cellAt h i (by omega)).trans (bools_at hi)
theorem Marks.frozen (h:Marks w B sb l)(i:Nat):w.frozen? ⟨sb,i,none⟩=false:=World.ownsRow.frozenAt h i
theorem Marks.base (h:Marks w B sb l):B<=sb/\sb<w.heap.size:=World.ownsRow.lt h sb rfl
theorem Marks.set (h:Marks w B sb l)(i:Nat):Marks (w.setCell ⟨sb,i,none⟩ (.bool true)) B sb (l.set i true):=by
 have:=(World.ownsRow.stored h i (.bool true)).1
 unfold Marks
 rw [List.length_set,<- bools_set]
 exact this
theorem Marks.other {v:Value}{B':Nat}{xs:List Nat}(h:Marks w B sb l)(hv:OwnI w B' v xs):v.ownBlock≠some sb:=by
 rcases h.2 with ⟨h1,_⟩|⟨g,cap,cur,h1,_,hg,_⟩
 · cases h1
 · rcases hv.2 with ⟨rfl,_⟩|⟨g',cap',cur',rfl,_,hg',_⟩
   · simp [Value.ownBlock]
   · intro e
     have e1:g'=sb:=by simpa [Value.ownBlock] using e
     have e2:sb=g:=by simpa using congrArg (fun v=>match v with|Value.slice (some a) _ _=>a.block|_=>0) h1
     subst e1 e2
     rw [hg] at hg'
     injection hg' with h3
     injection h3 with h4 h5
     exact absurd h5 (by decide)
end
theorem own_spares {w w':World}{b B base size n:Nat}{e:TypeId}{v:Value}{xs:List Value}(h:w.ownsRow base e size v n xs)(hs:Spares b B w w')(hb:b<=base):w'.ownsRow base e size v n xs:=by
 refine ⟨h.1,?_⟩
 rcases h.2 with h2|⟨g,cap,cur,rfl,hg,hh,r⟩
 · exact .inl h2
 · exact .inr ⟨g,cap,cur,rfl,hg,hs.same g _ (by omega) hh (.inr rfl),r⟩
theorem own_calls {w w':World}{base size n:Nat}{e:TypeId}{v:Value}{xs:List Value}(h:w.ownsRow base e size v n xs)(hb:Below w.heap.size w w'):w'.ownsRow base e size v n xs:=by
 refine ⟨h.1,?_⟩
 rcases h.2 with h2|⟨g,cap,cur,rfl,hg,hh,r⟩
 · exact .inl h2
 · exact .inr ⟨g,cap,cur,rfl,hg,(hb.block g (heap_lt hh)).trans hh,r⟩
theorem ownI_cons {w:World}{B:Nat}{v:Value}{c:Nat}{l:List Nat}(h:OwnI w B v (c :: l)):∃ g cap,v=.slice (some ⟨g,0,none⟩) (l.length+1) cap:=by
 rcases h.2 with ⟨_,h0⟩|⟨g,cap,_,rfl,_⟩
 · simp at h0
 · exact ⟨g,cap,rfl⟩
theorem ownI_cell {w:World}{B g n cap i:Nat}{l:List Nat}(h:OwnI w B (.slice (some ⟨g,0,none⟩) n cap) l)(hi:i<l.length):w.cell? ⟨g,i,none⟩=some (.int .i64 (l.getD i 0:Nat)):=by
 have:=World.ownsRow.cells h (g:=g) rfl i (.int .i64 (l.getD i 0:Nat)) (by simp [i64s,List.getD,hi])
 rw [Row.add] at this
 simpa using this
structure It (b B:Nat)(W:World)(sb:Nat)(seen:List Bool)(ve:Value)(edge:List Nat)(vn:Value)(next:List Nat)(A:World):Prop where
 held:∀ k,b<=k->k<B->A.heap[k]?=W.heap[k]?
 size:W.heap.size<=A.heap.size
 marks:Marks A W.heap.size sb seen
 edg:OwnI A W.heap.size ve edge
 nxt:OwnI A W.heap.size vn next
 apart:∀ k,ve.ownBlock=some k->vn.ownBlock≠some k
section
variable {b B sb o:Nat} {W A A':World} {seen:List Bool} {ve vn:Value} {edge next:List Nat}
theorem It.spares (h:It b B W sb seen ve edge vn next A)(hs:Spares b B A A')(hB:B<=W.heap.size)(hb:b<=B):It b B W sb seen ve edge vn next A' where
 held:=fun k h1 h2=>by
  have hk:k<W.heap.size:=by omega
  have h3:=h.held k h1 h2
  rw [Array.getElem?_eq_getElem hk] at h3
  rw [Array.getElem?_eq_getElem hk]
  exact hs.same k _ h1 h3 (.inl h2)
 size:=Nat.le_trans h.size hs.size
 marks:=own_spares h.marks hs (by omega)
 edg:=own_spares h.edg hs (by omega)
 nxt:=own_spares h.nxt hs (by omega)
 apart:=h.apart
theorem It.below (h:It b B W sb seen ve edge vn next A)(hb:Below A.heap.size A A')(hB:B<=W.heap.size):It b B W sb seen ve edge vn next A' where
 held:=fun k h1 h2=>(hb.block k (by have:=h.size;omega)).trans (h.held k h1 h2)
 size:=Nat.le_trans h.size hb.size
 marks:=own_calls h.marks hb
 edg:=own_calls h.edg hb
 nxt:=own_calls h.nxt hb
 apart:=h.apart
theorem It.start {s:Nat}(hb:Below W.heap.size W A)(hz:A.heap.size=W.heap.size+1)(hm:Marks A W.heap.size W.heap.size seen)(hB:B<=W.heap.size) :
 It b B W W.heap.size seen (.slice (some ⟨W.heap.size+1,0,none⟩) 1 1) [s] (.slice (some ⟨W.heap.size+1+1,0,none⟩) 0 0) [] ((A.alloc (.cells #[.int .i64 (s:Nat)] 3)).alloc (.cells #[] 3)) /\
 Below W.heap.size W ((A.alloc (.cells #[.int .i64 (s:Nat)] 3)).alloc (.cells #[] 3)):=by
 have h2:Below W.heap.size W ((A.alloc (.cells #[.int .i64 (s:Nat)] 3)).alloc (.cells #[] 3)):=(hb.alloc (by omega) _).alloc (by simp;omega) _
 refine ⟨⟨fun k _ h=>h2.block k (by omega),h2.size,World.ownsRow.alloc (World.ownsRow.alloc hm _) _,World.ownsRow.alloc ?_ _,?_,fun k hk hk'=>?_⟩,h2⟩
 · have:=World.ownsRow_lit (base:=W.heap.size) (e:=3) (size:=1) A #[.int .i64 (s:Nat)] 1 (by omega) (by unfold maxLen;omega) rfl
   rw [hz] at this
   exact this
 · have:=World.ownsRow_lit (base:=W.heap.size) (e:=3) (size:=1) (A.alloc (.cells #[.int .i64 (s:Nat)] 3)) #[] 0 (by simp;omega) (by unfold maxLen;omega) rfl
   rw [show (A.alloc (.cells #[.int .i64 (s:Nat)] 3)).heap.size=W.heap.size+1+1 by simp;omega] at this
   exact this
 · have e1:W.heap.size+1=k:=by simpa [Value.ownBlock] using hk
   have e2:W.heap.size+1+1=k:=by simpa [Value.ownBlock] using hk'
   omega
theorem It.drewN (h:It b B W sb seen ve edge vn next A)(m:Nat):It b B W sb seen ve edge vn next (A.drewN m):=⟨h.held,h.size,h.marks,h.edg,h.nxt,h.apart⟩
theorem It.mark (h:It b B W sb seen ve edge vn next A)(hB:B<=W.heap.size)(o:Nat):It b B W sb (seen.set o true) ve edge vn next (A.setCell ⟨sb,o,none⟩ (.bool true)) where
 held:=fun k h1 h2=>(Below.heap_setCell A _ _ k (by have:=h.marks.base.1;show k≠sb;omega)).trans (h.held k h1 h2)
 size:=by simpa [World.setCell] using h.size
 marks:=h.marks.set o
 edg:=ownsRow_setCell_other h.edg (h.marks.other h.edg) _
 nxt:=ownsRow_setCell_other h.nxt (h.marks.other h.nxt) _
 apart:=h.apart
theorem It.below_mark (h:It b B W sb seen ve edge vn next A)(o:Nat):Below W.heap.size A (A.setCell ⟨sb,o,none⟩ (.bool true)):=(zX _ _).setCell (p:=⟨sb,o,none⟩) h.marks.base.1 _
theorem It.push {v':Value}{A1:World}{ob:Obj}{x:Nat}(h:It b B W sb seen ve edge vn next A)(hB:B<=W.heap.size)
 (hown:A1.ownsRow W.heap.size 3 1 v' (next.length+1) (i64s next++[.int .i64 (x:Nat)])) (hg:(A.alloc ob).grownBy A1 vn.ownBlock) (hl:v'.ownBlock=vn.ownBlock\/v'.ownBlock=some (A.alloc ob).heap.size) :
 It b B W sb seen ve edge v' (next++[x]) A1/\Below W.heap.size A A1:=by
 have hvn:∀ k,vn.ownBlock=some k->W.heap.size<=k:=fun k hk=>(World.ownsRow.lt h.nxt k hk).1
 have hbel:Below W.heap.size A A1:=((zX _ A).alloc h.size ob).grown hg (by have:=h.size;simp;omega) hvn
 refine ⟨⟨fun k h1 h2=>(hbel.block k (by omega)).trans (h.held k h1 h2),Nat.le_trans h.size hbel.size,?_,?_,own_pushI hown,fun k hk=>?_⟩,hbel⟩
 · exact World.ownsRow.kept (World.ownsRow.alloc h.marks ob) hg (.inr (fun e=>h.marks.other h.nxt e.symm))
 · refine World.ownsRow.kept (World.ownsRow.alloc h.edg ob) hg ?_
   cases he:ve.ownBlock with
   | none=>exact .inl rfl
   | some k=>exact .inr (fun e=>h.apart k he e.symm)
 · rcases hl with hl|hl
   · rw [hl];exact h.apart k hk
   · rw [hl]
     intro e
     have h1:=(World.ownsRow.lt h.edg k hk).2
     have h2:(A.alloc ob).heap.size=k:=by simpa using e
     simp at h2
     omega
theorem It.swap {g cap n:Nat}(h:It b B W sb seen (.slice (some ⟨g,0,none⟩) n cap) edge vn next A):It b B W sb seen vn next (.slice (some ⟨g,0,none⟩) 0 cap) [] A where
 held:=h.held
 size:=h.size
 marks:=h.marks
 edg:=h.nxt
 nxt:=by
  rcases h.edg.2 with ⟨h1,_⟩|⟨g',cap',cur,h1,hb,hg,_,hm,hcs,_⟩
  · cases h1
  · injection h1 with h1 h2 h3
    injection h1 with h1
    injection h1 with h1
    subst h1 h3
    exact ⟨rfl,.inr ⟨g,cap,cur,rfl,hb,hg,Nat.zero_le _,hm,hcs,by simp [i64s]⟩⟩
 apart:=fun k hk hk'=>h.apart k hk' hk
end
end Go.Proofs.YtknnnbpgkfaapaaGreat.Vm
namespace Go.Proofs.YtknnnbpgkfaapaaGreat.Vm
open Go Go.RowKit Go.Shelf
attribute [local go_sem] Oper.semAt_some
def Steps (F:Fence)(n:Nat)(fs:Nat)(lbs:Array Value)(b B:Nat)(W:World)(N:Nat)(st:Nat->Nat->Int × Bool):Prop :=
 ∀ (A:World) (c way:Nat),c<N->1<=way->way<=4->(∀ k,b<=k->k<B->A.heap[k]?=W.heap[k]?)->B<=A.heap.size ->
   CallsIn F n Tryz.prog fs (#[.int .i64 (c:Nat),.int .i64 (way:Nat)]++lbs) A fun e A'=>e=.returned (.tuple #[.int .i64 (st c way).1,.bool (st c way).2])/\Below A.heap.size A A'
set_option maxHeartbeats 2000000 in
theorem iter_any (F:Fence)(n:Nat)(hF:F.fn 146)(hro:F.round=none)(hn:2<=n)(l fs:Nat)(lbs:Array Value)(hfs:F.fn fs)(hent:∀ args w,(callFunc fs args).run Tryz.prog w=.ok (.enter fs args) w)
 (b B:Nat) (N s:Nat) (hs:s<N) (hN:N<=1000000) (c0 c1 c2:Nat) (S:Nat->List Nat) (st:Nat->Nat->Int × Bool) (G:Graph S st N) (W:World)
 (hb0:b<=c0) (hB0:c0<B) (hb1:b<=c1) (hB1:c1<B) (hb2:b<=c2) (hB2:c2<B) (hBW:B<=W.heap.size) (hbB:b<=B)
 (k0:W.cell? ⟨c0,0,none⟩=some (.int .i64 N)) (k1:W.cell? ⟨c1,0,none⟩=some (.int .i64 s)) (k2:W.cell? ⟨c2,0,none⟩=some (.func (.func fs) #[] lbs))
 (hst:Steps F (n-1) fs lbs b B W N st)
 (J Jx:List (Nat × Nat)->World->Prop) (hJ:∀ x A A',J x A->Below W.heap.size A A'->J x A') (hJx:∀ x A A',Jx x A->Below W.heap.size A A'->Jx x A')
 (hY:∀ pre x A,J pre A->Begun S s N (pre++[x])->YieldAt F (n-1) Tryz.prog l #[.int .i64 (x.1:Nat),.int .i64 (x.2:Nat)] A fun e A' =>
  (e=.returned (.bool true)/\J (pre++[x]) A'/\Spares b B A A')\/(e=.returned (.bool false)/\Jx (pre++[x]) A'))
 (h0:J [] W) :
 CallsIn F n Tryz.prog 146 #[.func (.yield l) #[] #[],.pointer (some ⟨c0,0,none⟩),.pointer (some ⟨c1,0,none⟩),.pointer (some ⟨c2,0,none⟩)] W fun e A =>
  (∃ v,e=.returned v)/\((∃ xs,AllCome S s N xs/\J xs A)\/(∃ pre,Begun S s N pre/\Jx pre A)):=by
 have hn1:1<=n:=by omega
 obtain ⟨i0,hi0,hz0,hz1,hz2⟩:=info_parts info_int
 obtain ⟨j0,hj0,hy0,hy1,hy2⟩:=info_parts info_bool
 have hmk:=run_make (P:=Tryz.prog) W 186 4 j0 (.bool false) Tryz.underlying186 hj0 hy0 .i64 .i64 N N (by omega) (Int.le_refl _) (by rw [hy2];omega) (by omega)
 simp only [Int.toNat_natCast] at hmk
 rw [hy1] at hmk
 have hmc:(madeCells (Value.bool false).cells (N*1))=⟨bools (List.replicate N false)⟩:=by
  apply Array.ext'
  simp only [Value.cells]
  rw [Nat.mul_one,toList_madeCells_one]
  simp [bools]
 rw [hmc] at hmk
 have hM:Marks (W.alloc (.cells ⟨bools (List.replicate N false)⟩ 4)) W.heap.size W.heap.size (List.replicate N false):=by
  have:=World.ownsRow_lit (base:=W.heap.size) (e:=4) (size:=1) W ⟨bools (List.replicate N false)⟩ N (zL _) (by unfold maxLen;omega) (by simp [bools])
  unfold Marks
  rw [List.length_replicate]
  exact this
 have hw1:Below W.heap.size W (W.alloc (.cells ⟨bools (List.replicate N false)⟩ 4)):=(zX _ _).alloc (zL _) _
 have hz1':(W.alloc (.cells ⟨bools (List.replicate N false)⟩ 4)).heap.size=W.heap.size+1:=by simp
 generalize W.alloc (.cells ⟨bools (List.replicate N false)⟩ 4)=W1 at hmk hM hw1 hz1'
 have hw2:Below W.heap.size W (W1.setCell ⟨W.heap.size,s,none⟩ (.bool true)):=hw1.setCell (p:=⟨W.heap.size,s,none⟩) (zL _) _
 have m1:W1.cell? ⟨W.heap.size,s,none⟩=some (.bool false):=by
  rw [hM.cell (by simpa using hs)];simp [List.getD,hs]
 have m2:W1.frozen? ⟨W.heap.size,s,none⟩=false:=hM.frozen s
 have m3:W1.cell? ⟨c1,0,none⟩=some (.int .i64 s):=(hw1.cell (p:=⟨c1,0,none⟩) (show c1<W.heap.size by omega)).trans k1
 have m4:(W1.setCell ⟨W.heap.size,s,none⟩ (.bool true)).cell? ⟨c1,0,none⟩=some (.int .i64 s):=(hw2.cell (p:=⟨c1,0,none⟩) (show c1<W.heap.size by omega)).trans k1
 have hM2:=hM.set s
 have hz2':(W1.setCell ⟨W.heap.size,s,none⟩ (.bool true)).heap.size=W.heap.size+1:=by rw [<- hz1'];simp [World.setCell]
 obtain ⟨W2,hW2⟩:∃ W2,W1.setCell ⟨W.heap.size,s,none⟩ (.bool true)=W2:=⟨_,rfl⟩
 rw [hW2] at hw2 m4 hM2 hz2'
 have HM:=qz hM2
 clear hM hM2 hmc
 refine callsIn_of_wp Tryz.func146 rfl hF ?_ hro
 simp only [Tryz.ntmps146,List.size_toArray,List.length_cons,List.length_nil,Nat.reduceAdd,Nat.reduceSub,Array.replicate_succ,Array.replicate_zero,List.push_toArray,List.append_toArray,List.nil_append,List.cons_append]
 gi_wp2
 gi_loopg [6,7,8] (N+1) (fun k ve vn vd wr=>∃ (d:Nat) (pre:List (Nat × Nat)) (edge:List Nat) (seen:List Bool),vd=.int .i64 d/\N+1<=d+k/\seen.length=N/\It b B W W.heap.size seen ve edge vn [] wr/\Hid (Bfs S s N d 0 pre edge [] seen NoneLeft)/\J pre wr)
 case atStart =>
  have hst0:=It.start (b:=b) (s:=s) hw2 hz2' HM.out hBW
  exact ⟨0,[],[s],(List.replicate N false).set s true,rfl,by omega,by simp,hst0.1,Bfs.start hs,hJ _ _ _ h0 hst0.2⟩
 case round =>
  obtain ⟨d,pre,edge,seen,rfl,hdk,hsl,hit,HBF,hj⟩:=hrel
  obtain ⟨go,hgo⟩:∃ go,go=gk:=⟨_,rfl⟩
  subst hgo
  cases edge with
  | nil =>
    obtain ⟨a,c,rfl⟩:=own_slice hit.edg
    gi_wp2
    go_end0
    exact ⟨⟨_,rfl⟩,.inl ⟨pre,HBF.out.ended,hj⟩⟩
  | cons c rest =>
    obtain ⟨g,cap,rfl⟩:=ownI_cons hit.edg
    have HIT:=qz hit
    have hrl:=HBF.out.few
    simp only [List.length_cons,List.length_nil] at hrl
    clear hit
    gi_wp2
    gi_loopg [7,29] (rest.length+1) (fun k vn vi wq=>∃ (i:Nat) (pre':List (Nat × Nat)) (next':List Nat) (seen':List Bool),vi=.int .i64 i/\i+k=rest.length+1/\seen'.length=N/\It b B W W.heap.size seen' (.slice (some ⟨g,0,none⟩) (rest.length+1) cap) (c :: rest) vn next' wq/\Hid (Bfs S s N d i pre' ((c :: rest).drop i) next' seen' NoneLeft)/\J pre' wq)
    case atStart=>exact ⟨0,pre,[],seen,rfl,by omega,hsl,HIT.out,HBF,hj⟩
    case round =>
     obtain ⟨i,pre',next',seen',rfl,hik,hsl',hit',HBF',hj'⟩:=hrel
     obtain rfl:gk=rest.length+1-i:=by omega
     by_cases hi:i<rest.length+1
     · have hdr:(c :: rest).drop i=(c :: rest).getD i 0 :: (c :: rest).drop (i+1):=by
        rw [List.drop_eq_getElem_cons (by simpa using hi)]
        simp [List.getD,hi]
       have hcell:=ownI_cell hit'.edg (i:=i) (by simpa using hi)
       have hbf:=HBF'.out
       rw [hdr] at hbf
       generalize (c :: rest).getD i 0=x at hcell hbf
       obtain ⟨fn,tmps,assign,body,hy,hR⟩:=hY pre' (x,d) wr hj' (hbf.beg.snoc hbf.good)
       dsimp only at hy
       have HBF2:=qz (hbf.pop G)
       have hxN:=hbf.good.1
       have hdN:=hbf.good.2.1
       simp only [] at hxN hdN
       have HIT':=qz hit'
       clear hit' HBF' hbf hdr HIT HBF hj
       gi_wp2
       refine hR.mono ?_
       rintro e W3 (⟨rfl,hJ3,hsp⟩|⟨rfl,hJx3⟩)
       · have HIT3:=qz (HIT'.out.spares hsp hBW hbB)
         clear hR hy hsp hj' hcell
         gi_wp2
         gi_loopg [7,11] 4 (fun k vn vw wz=>∃ (way:Nat) (next2:List Nat) (seen2:List Bool),vw=.int .i64 way/\way+k=5/\1<=way/\seen2.length=N/\It b B W W.heap.size seen2 (.slice (some ⟨g,0,none⟩) (rest.length+1) cap) (c :: rest) vn next2 wz/\Hid (Bfs S s N d (i+1) (pre'++[(x,d)]) ((c :: rest).drop (i+1)) next2 seen2 (Left st x way))/\J (pre'++[(x,d)]) wz)
         case atStart=>exact ⟨1,next',seen',rfl,by omega,by omega,hsl',HIT3.out,HBF2,hJ3⟩
         case round =>
          obtain ⟨way,next2,seen2,rfl,hwk,hw1,hsl2,hit2,HBF4,hj2⟩:=hrel
          by_cases hw:way<=4
          · have hk2:wr.cell? ⟨c2,0,none⟩=some (.func (.func fs) #[] lbs):=(World.cell?_of_block (w:=W) (hit2.held c2 hb2 hB2)).trans k2
            have hcall:=hst wr x way hxN hw1 hw hit2.held (Nat.le_trans hBW hit2.size)
            obtain ⟨o,ok,hR2⟩:∃ o ok,st x way=(o,ok):=⟨_,_,rfl⟩
            rw [hR2] at hcall
            simp only [] at hcall
            have hwi:(way:Int)<=4:=by omega
            have HCALL:=qz hcall
            have HIT2:=qz hit2
            clear hcall hit2 HIT3 HIT'
            have hsz2:=HIT2.out.size
            cases ok
            · have HBF5:=qz (HBF4.out.no (by rw [hR2]))
              clear hR2
              gi_wp2
              refine HCALL.out.mono ?_
              rintro e W4 ⟨rfl,hb4⟩
              have HIT4:=qz (HIT2.out.below hb4 hBW)
              have hj4:=hJ _ _ _ hj2 (hb4.mono hsz2)
              clear hb4 hk2
              gi_wp2
              gi_roundg (gk-1)
              case measure=>omega
              case rel=>exact ⟨way+1,next2,seen2,by go_num,by omega,by omega,hsl2,HIT4.out,HBF5,hj4⟩
            · obtain ⟨ho0,hoN⟩:=G.to x way o hxN hR2
              obtain ⟨m,rfl⟩:=Int.eq_ofNat_of_zero_le ho0
              have hmN:m<N:=by omega
              cases hsm:seen2.getD m false
              · have HBF5:=qz (HBF4.out.new G hxN (by simp) hw1 hw hR2 hsm)
                have hfew:=HBF4.out.few
                clear hR2
                gi_wp2
                refine HCALL.out.mono ?_
                rintro e W4 ⟨rfl,hb4⟩
                have HIT4:=qz (HIT2.out.below hb4 hBW)
                have hj4:=hJ _ _ _ hj2 (hb4.mono hsz2)
                have q1:=HIT4.out.marks.cell (i:=m) (by omega)
                rw [hsm] at q1
                have q2:=HIT4.out.marks.frozen m
                have HIT5:=qz (HIT4.out.mark hBW m)
                have hj5:=hJ _ _ _ hj4 (HIT4.out.below_mark m)
                obtain ⟨W5,hW5⟩:∃ W5,W4.setCell ⟨W.heap.size,m,none⟩ (.bool true)=W5:=⟨_,rfl⟩
                rw [hW5] at HIT5 hj5
                have hown5:=HIT5.out.nxt
                have hsz5:=HIT5.out.size
                clear hb4 hk2 HIT2 HIT4 hsm hsz2
                gi_wp2_with (gi_at_builtin;refine wpListIn_append_own_at _ rfl (.tmp 60) (.tmp 62) 26 rfl W.heap.size 3 i0 (.int .i64 0) 1 8 Tryz.underlying26 hi0 hz0 hz1 hz2 rfl (by decide) _ _ _ rfl (World.ownsRow.alloc hown5 _) ⟨W5.heap.size,0,none⟩ 1 1 [.int .i64 (m:Int)] rfl rfl (one_cell _ _ _) (by simp [Value.oneCell']) (by simp only [maxLen];omega) (by omega) (by simp;omega) ?_;intro v' W6 hown6 hgrow6 _ hloc6)
                obtain ⟨hit6,hbel6⟩:=HIT5.out.push hBW hown6 hgrow6 hloc6
                have HIT6:=qz hit6
                have hj6:=hJ _ _ _ hj5 hbel6
                clear hit6 hbel6 hown6 hgrow6 hloc6 hown5 HIT5
                gi_wp2
                gi_roundg (gk-1)
                case measure=>omega
                case rel=>exact ⟨way+1,next2++[m],seen2.set m true,by go_num,by omega,by omega,by simpa using hsl2,HIT6.out,HBF5,hj6⟩
              · have HBF5:=qz (HBF4.out.old hR2 hsm)
                clear hR2
                gi_wp2
                refine HCALL.out.mono ?_
                rintro e W4 ⟨rfl,hb4⟩
                have HIT4:=qz (HIT2.out.below hb4 hBW)
                have hj4:=hJ _ _ _ hj2 (hb4.mono hsz2)
                have q1:=HIT4.out.marks.cell (i:=m) (by omega)
                rw [hsm] at q1
                clear hb4 hk2
                gi_wp2
                gi_roundg (gk-1)
                case measure=>omega
                case rel=>exact ⟨way+1,next2,seen2,by go_num,by omega,by omega,hsl2,HIT4.out,HBF5,hj4⟩
          · obtain rfl:way=5:=by omega
            have HBF6:=qz HBF4.out.looked
            have HIT2:=qz hit2
            clear hit2
            gi_wp2
            gi_roundg (rest.length+1-(i+1))
            case measure=>omega
            case rel=>exact ⟨i+1,pre'++[(x,d)],next2,seen2,by go_num,by omega,hsl2,HIT2.out,HBF6,hj2⟩
       · gi_wp2
         (try simp only [Exit.inBlock,Exit.then])
         refine bodyPost_ret (results_none rfl _ _ _) rfl ?_
         exact ⟨⟨_,rfl⟩,.inr ⟨pre'++[(x,d)],HBF2.out.beg,hJx3⟩⟩
     · obtain rfl:i=rest.length+1:=by omega
       have hbf:=HBF'.out
       rw [List.drop_of_length_le (by simp)] at hbf
       have HBF3:=qz (hbf.level (by omega))
       have hbd:=hbf.dle
       have hbn:=hbf.few
       have HIT':=qz hit'
       clear hit' hbf HBF' HIT HBF hj
       gi_wp2
       gi_region
       all_goals
        gi_wp2
        gi_roundg (go-1)
        case measure=>omega
        case rel=>exact ⟨d+1,pre',next',seen',by go_num,by omega,hsl',HIT'.out.swap.drewN 1,HBF3,hJ _ _ _ hj' (zX _ _).drew⟩
end Go.Proofs.YtknnnbpgkfaapaaGreat.Vm
