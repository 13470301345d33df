import Derived.Test.YtknnnbpgkfaapaaGreatQ
import Derived.Test.YtknnnbpgkfaapaaGreatVCheapests
import Derived.Laws.EntriesVeiled
set_option maxRecDepth 100000
set_option linter.unusedSimpArgs false
set_option linter.unusedVariables false
namespace Go.Proofs.YtknnnbpgkfaapaaGreat.Vm
open Go Go.RowKit Go.Maps
def IntBlk (A:World)(j:Nat):Prop:=∃ cs fr,A.heap[j]?=some (.cells cs 3 fr)
def AsS (kb b1 Bo:Nat)(A:World)(j:Nat):Prop:=j=kb\/j=b1\/(Bo<=j/\IntBlk A j)
theorem asS_trans {kb b1 Bo:Nat}{A V V':World}(h:Alt (AsS kb b1 Bo A) A V)(h':Alt (AsS kb b1 Bo V) V V'):Alt (AsS kb b1 Bo A) A V' :=
 h.trans h' fun j hj hlt=>by
  rcases hj with hj|hj|⟨hj,cs,fr,he⟩
  · exact .inl hj
  · exact .inr (.inl hj)
  · by_cases hn:AsS kb b1 Bo A j
    · exact hn
    · exact .inr (.inr ⟨hj,cs,fr,(h.block j hlt hn).symm.trans he⟩)
theorem asS_kb {kb b1 Bo:Nat}{A V:World}(h:Alt (fun j=>j=kb) A V):Alt (AsS kb b1 Bo A) A V:=h.mono fun _ hj _=>.inl hj
theorem Alt.grownO {S:Nat->Prop}{A V V':World}{o:Option Nat}(h:Alt S A V)(hg:V.grownBy V' o)(hm:∀ mb,o=some mb->mb<A.heap.size->S mb):Alt S A V' :=
 ⟨hg.os.trans h.os,hg.tape.trans h.tape,hg.output.trans h.output,Nat.le_trans h.size hg.size,fun k hk hn=>(hg.block k (Nat.lt_of_lt_of_le hk h.size) (fun e=>hn (hm k e.symm hk))).trans (h.block k hk hn)⟩
theorem field_rst0 (b:Bool)(t z:Int)(V:World):(Instr.field 152 (.agg #[.bool b,.int .i64 t,.int .i64 z]) 0).run Tryz.prog V=.ok (.bool b) V:=by kernel_rfl
theorem field_rst1 (b:Bool)(t z:Int)(V:World):(Instr.field 152 (.agg #[.bool b,.int .i64 t,.int .i64 z]) 1).run Tryz.prog V=.ok (.int .i64 t) V:=by kernel_rfl
theorem wpList_append_g {ops:Array Oper}{rest:List Oper}{o:Oper}{a:Act}{Q:Exit->Act->World->Prop}{w:World}(hgd:o.guard=none)(s x:Operand)
 (ho:o.op=.call { callee:=.builtin .append,args:=#[s,x],argTypes:=#[26,26] })
 {B:Nat} {v:Value} {out:List Int} (hs:a.eval s=v) (hown:OwnZ w B v out) {ad:Addr} {m c B2:Nat} {l:List Int} (hx:a.eval x=.slice (some ad) m c) (hr:RowZ .i64 w B2 (some ad) m c l)
 (hlen:out.length+m<=1000000) (hB:B<=w.heap.size)
 (h:∀ a' N c' w',OwnZ w' B (.slice a' N c') (out++l)->w.grownBy w' v.ownBlock->wpList Tryz.prog ops Q rest (a.put o.dst (.slice a' N c')) w'):wpList Tryz.prog ops Q (o :: rest) a w:=by
 refine wpList_plain hgd fun K hK'=>?_
 obtain ⟨i0,hi0,hz0,hz1,hz2⟩:=info_parts info_int
 have hlm:l.length=m:=hr.1
 obtain ⟨v',w',hrun,hown',hg,_⟩:=run_append_own (P:=Tryz.prog) w B 26 o.type 3 i0 (.int .i64 0) 1 8 Tryz.underlying26 hi0 hz0 hz1 hz2 rfl (by decide) v out.length (zan out) hown ad m c (zan l) (by rw [zch];omega) (cells_rowZ hr)
  (fun u hu=>by obtain ⟨_,_,rfl⟩:=List.mem_map.1 hu;rfl) (by unfold maxLen;omega) (by omega) hB
 have hown2:OwnZ w' B v' (out++l):=by
  unfold OwnZ
  rw [List.length_append,hlm]
  simpa [zan] using hown'
 obtain ⟨a',c',e',_⟩:=hown2.row
 obtain ⟨N,hN⟩:∃ N,(out++l).length=N:=⟨_,rfl⟩
 rw [hN] at e'
 subst e'
 unfold Oper.wp
 simp [execOp,ho,resolve,invoke,builtin,hs,hx,hrun,Result.andThen]
 exact hK' _ _ (h a' N c' w' hown2 hg)
structure AsIn (w:World)(B Bo b1 b2 b3:Nat)(W H:Int)(s:ByteArray)(a:Option Addr)(n c cb pb mb fb lb kb m nt nk:Nat)(far bl:List Int)(oth:List (List Int))(v:Value)(xs:List Int):Prop where
 sr:SrIn w B W H s cb pb mb lb kb m nt nk far bl oth
 h1:w.heap[b1]?=some (.cells #[v] 26 (0,0))
 h2:w.heap[b2]?=some (.cells #[.func (.func 92) #[] #[.pointer (some ⟨b1,0,none⟩),.pointer (some ⟨b2,0,none⟩),.pointer (some ⟨b3,0,none⟩)]] 154 (0,0))
 h3:w.heap[b3]?=some (srO W H s a n c cb pb mb fb lb kb)
 ow:OwnZ w Bo v xs
 hb:B<=b3/\b3<Bo/\Bo<=b1/\Bo<=b2/\b1≠b2
section
variable {w w':World} {B Bo b1 b2 b3:Nat} {W H:Int} {s:ByteArray} {a:Option Addr} {n c cb pb mb fb lb kb m nt nk nk':Nat} {far bl:List Int} {oth:List (List Int)} {v v':Value} {xs xs':List Int}
theorem SrIn.less {nk':Nat}(h:SrIn w B W H s cb pb mb lb kb m nt nk far bl oth)(hn:nk<=nk'):SrIn w B W H s cb pb mb lb kb m nt nk' far bl oth :=
 h.alt (S:=fun _=>False) (Alt.refl _ _) (fun k hk=>hk.elim) (h.kn.less hn)
theorem zae {w:World}{b i:Nat}{cs:Array Value}{t:TypeId}{fr:Nat × Nat}{v:Value}(h:w.heap[b]?=some (.cells cs t fr))(hv:cs[i]?=some v):w.cell? ⟨b,i,none⟩=some v:=by
 unfold World.cell?;rw [h];exact hv
theorem frozen_heap {w:World}{b i:Nat}{cs:Array Value}{t:TypeId}(h:w.heap[b]?=some (.cells cs t (0,0))):w.frozen? ⟨b,i,none⟩=false:=by
 unfold World.frozen?;rw [h];simp
theorem AsIn.calls (h:AsIn w B Bo b1 b2 b3 W H s a n c cb pb mb fb lb kb m nt nk far bl oth v xs)(hb:Below w.heap.size w w'):AsIn w' B Bo b1 b2 b3 W H s a n c cb pb mb fb lb kb m nt nk far bl oth v xs :=
 have lt:∀ {k o},w.heap[k]?=some o->k<w.heap.size:=fun e=>(Array.getElem?_eq_some_iff.1 e).1
 ⟨h.sr.below (hb.mono h.sr.hB),(hb.block _ (lt h.h1)).trans h.h1,(hb.block _ (lt h.h2)).trans h.h2,(hb.block _ (lt h.h3)).trans h.h3,h.ow.calls hb,h.hb⟩
theorem AsIn.known (h:AsIn w B Bo b1 b2 b3 W H s a n c cb pb mb fb lb kb m nt nk far bl oth v xs)(hA:Alt (fun j=>j=kb) w w')(hs:SrIn w' B W H s cb pb mb lb kb m nt nk' far bl oth):AsIn w' B Bo b1 b2 b3 W H s a n c cb pb mb fb lb kb m nt nk' far bl oth v xs:=by
 have lt:∀ {k o},w.heap[k]?=some o->k<w.heap.size:=fun e=>(Array.getElem?_eq_some_iff.1 e).1
 have hkb:=h.sr.lt.2.2.2
 obtain ⟨g1,g2,g3,g4,g5⟩:=h.hb
 refine ⟨hs,(hA.block _ (lt h.h1) (by omega)).trans h.h1,(hA.block _ (lt h.h2) (by omega)).trans h.h2,(hA.block _ (lt h.h3) (by omega)).trans h.h3,⟨h.ow.1,?_⟩,h.hb⟩
 rcases h.ow.2 with e|⟨g,cap,cur,hv,hg,hh,r⟩
 · exact .inl e
 · exact .inr ⟨g,cap,cur,hv,hg,(hA.block g (lt hh) (by omega)).trans hh,r⟩
theorem AsIn.push (h:AsIn w B Bo b1 b2 b3 W H s a n c cb pb mb fb lb kb m nt nk far bl oth v xs)(hg:w.grownBy w' v.ownBlock)(ho:OwnZ w' Bo v' xs') :
 AsIn (w'.setCell ⟨b1,0,none⟩ v') B Bo b1 b2 b3 W H s a n c cb pb mb fb lb kb m nt nk far bl oth v' xs'/\Alt (AsS kb b1 Bo w) w (w'.setCell ⟨b1,0,none⟩ v'):=by
 have lt:∀ {k o},w.heap[k]?=some o->k<w.heap.size:=fun e=>(Array.getElem?_eq_some_iff.1 e).1
 obtain ⟨g1,g2,g3,g4,g5⟩:=h.hb
 have hkb:=h.sr.lt.2.2.2
 have hown:∀ k,v.ownBlock=some k->Bo<=k/\IntBlk w k:=fun k hk=>by
  refine ⟨(World.ownsRow.lt h.ow k hk).1,?_⟩
  rcases h.ow.2 with ⟨e,_⟩|⟨g,cap,cur,hv,_,hh,_⟩
  · rw [e] at hk;cases hk
  · rw [hv] at hk
    injection hk with hk
    have hk:g=k:=hk
    subst hk
    exact ⟨cur,_,hh⟩
 have n2:v.ownBlock≠some b2:=zbb h.ow h.h2 (by decide)
 have n3:v.ownBlock≠some b3:=zbb h.ow h.h3 (by decide)
 have n1:v.ownBlock≠some b1:=zbb h.ow h.h1 (by decide)
 have hset:∀ k,k≠b1->(w'.setCell ⟨b1,0,none⟩ v').heap[k]?=w'.heap[k]?:=fun k hk=>Below.heap_setCell _ ⟨b1,0,none⟩ _ k hk
 have h1':w'.heap[b1]?=some (.cells #[v] 26 (0,0)):=(hg.block b1 (lt h.h1) (fun e=>n1 e.symm)).trans h.h1
 have hA:Alt (AsS kb b1 Bo w) w (w'.setCell ⟨b1,0,none⟩ v'):=by
  have h0:Alt (AsS kb b1 Bo w) w w':=(Alt.refl _ w).grownO hg (fun k hk _=>.inr (.inr (hown k hk)))
  exact ⟨h0.os,h0.tape,h0.output,by simpa [World.setCell] using h0.size,fun k hk hn=>(hset k (fun e=>hn (.inr (.inl e)))).trans (h0.block k hk hn)⟩
 have hB:Below B w (w'.setCell ⟨b1,0,none⟩ v'):=((zX B w).grown hg h.sr.hB (fun k hk=>by have:=(hown k hk).1;omega)).setCell (p:=⟨b1,0,none⟩) (by show B<=b1;omega) _
 refine ⟨⟨h.sr.below hB,?_,((hset b2 (fun e=>g5 e.symm)).trans (hg.block b2 (lt h.h2) (fun e=>n2 e.symm))).trans h.h2,((hset b3 (by omega)).trans (hg.block b3 (lt h.h3) (fun e=>n3 e.symm))).trans h.h3,⟨ho.1,?_⟩,h.hb⟩,hA⟩
 · simp only [World.setCell,Array.getElem?_modify,if_true,h1',Option.map_some]
   rfl
 · rcases ho.2 with e|⟨g,cap,cur,hv,hgb,hh,r⟩
   · exact .inl e
   · refine .inr ⟨g,cap,cur,hv,hgb,(hset g (fun e=>?_)).trans hh,r⟩
     rw [e,h1'] at hh
     injection hh with hh
     injection hh with _ hh _
     exact absurd hh (by decide)
end
theorem AsS.not {kb b1 Bo b:Nat}{A:World}{cs:Array Value}{t:TypeId}{fr:Nat × Nat}(h:A.heap[b]?=some (.cells cs t fr))(ht:t≠3)(hk:b≠kb)(h1:b≠b1):¬ AsS kb b1 Bo A b:=by
 rintro (e|e|⟨_,cs',fr',e⟩)
 · exact hk e
 · exact h1 e
 · rw [h] at e
   injection e with e
   injection e with _ e _
   exact ht e
end Go.Proofs.YtknnnbpgkfaapaaGreat.Vm
namespace Go.Proofs.YtknnnbpgkfaapaaGreat.Vm
open Go Go.RowKit Go.Maps
def AsSays (B Bo b1 b2 b3:Nat)(W H:Int)(s:ByteArray)(a:Option Addr)(n c cb pb mb fb lb kb m nt:Nat)(far bl:List Int)(oth:List (List Int))(k:Nat):Prop :=
 ∀ (p nk:Nat) (x:Int) (y:List Int × Int) (w:World) (v:Value) (xs:List Int),p+k=6->wfI x->AsIn w B Bo b1 b2 b3 W H s a n c cb pb mb fb lb kb m nt nk far bl oth v xs->nk+k*3906<=100000->xs.length<=100-k ->
   pathS W H (zaa s) far bl oth k x=some y ->
   Calls Tryz.prog 92 #[atV p x,.pointer (some ⟨b1,0,none⟩),.pointer (some ⟨b2,0,none⟩),.pointer (some ⟨b3,0,none⟩)] w fun e w'=>e=.returned (.tuple #[])/\∃ v',AsIn w' B Bo b1 b2 b3 W H s a n c cb pb mb fb lb kb m nt (nk+k*3906) far bl oth v' (xs++(x :: y.1))/\Alt (AsS kb b1 Bo w) w w'
set_option maxHeartbeats 1000000 in
theorem assemble_zero (B Bo b1 b2 b3:Nat)(W H:Int)(s:ByteArray)(a:Option Addr)(n c cb pb mb fb lb kb m nt:Nat)(far bl:List Int)(oth:List (List Int)):AsSays B Bo b1 b2 b3 W H s a n c cb pb mb fb lb kb m nt far bl oth 0:=by
 intro p nk x y w v xs hp hx hI hnk hxs hy
 obtain rfl:p=6:=by omega
 have hy:y=([],0):=by
  have:some (([]:List Int),(0:Int))=some y:=hy
  injection this with this
  exact this.symm
 subst hy
 obtain ⟨w0,hw0⟩:∃ w0,w0=w.alloc (atO 6 x):=⟨_,rfl⟩
 have hb0:Below w.heap.size w w0:=by rw [hw0];exact (zX _ _).alloc (zL _) _
 have hz0:w0.heap.size=w.heap.size+1:=by rw [hw0];simp
 have a0:w0.heap[w.heap.size]?=some (atO 6 x):=by rw [hw0];show (w.heap.push _)[w.heap.size]?=_;rw [Array.getElem?_push,if_pos rfl]
 have hI0:=hI.calls hb0
 obtain ⟨wA,hwA⟩:∃ wA,wA=w0.alloc (.cells #[.int .i64 x] 3):=⟨_,rfl⟩
 have hbA:Below w0.heap.size w0 wA:=by rw [hwA];exact (zX _ _).alloc (zL _) _
 have hIA:=hI0.calls hbA
 have c1:w.cell? ⟨b1,0,none⟩=some v:=zae hI.h1 rfl
 have x1:w0.cell? ⟨w.heap.size,1,none⟩=some (.int .i64 x):=zae a0 rfl
 have hrow:RowZ .i64 wA wA.heap.size (some ⟨w0.heap.size,0,none⟩) 1 1 [x]:=by
  rw [hwA];exact (ownZ_lit w0 x (zL _)).rowAt rfl
 have hlt1:b1<w.heap.size:=(Array.getElem?_eq_some_iff.1 hI.h1).1
 have hlt2:b2<w.heap.size:=(Array.getElem?_eq_some_iff.1 hI.h2).1
 have hlt3:b3<w.heap.size:=(Array.getElem?_eq_some_iff.1 hI.h3).1
 have HBB:=qz hI.hb
 have hkb:kb<B:=hI.sr.lt.2.2.2
 have hBo:Bo<=wA.heap.size:=by
  obtain ⟨_,_,g3,_⟩:=hI.hb
  have:=hbA.size
  omega
 rw [hz0] at hrow
 have HIA:=qz hIA
 have HFR:Hid (∀ V,wA.grownBy V v.ownBlock->V.heap[b1]?=some (.cells #[v] 26 (0,0))/\V.heap[w.heap.size]?=some (atO 6 x)):=fun V hg=>by
  refine ⟨(hg.block b1 (by have:=hbA.size;omega) (fun e=>zbb hIA.ow hIA.h1 (by decide) e.symm)).trans hIA.h1,?_⟩
  have aA:=(hbA.block w.heap.size (by omega)).trans a0
  exact (hg.block w.heap.size (by have:=hbA.size;omega) (fun e=>zbb hIA.ow aA (by decide) e.symm)).trans aA
 have HB0:=qz (hb0.trans (hbA.mono (by omega)))
 have HROW:=qz hrow
 have HWA:=qz (show wA=(w.alloc (atO 6 x)).alloc (.cells #[.int .i64 x] 3) by rw [hwA,hw0])
 rw [hw0] at x1
 rw [HWA.out] at hBo
 have HWS:=qz (show w.heap.size<wA.heap.size by have:=hbA.size;omega)
 clear hI hI0 hIA hb0 hbA hw0 hwA a0 hrow
 have HOW:=qz HIA.out.ow
 rw [HWA.out] at HOW HROW
 go_enter Tryz.func92,Tryz.ntmps92
 go_wp2_with (at_builtin;refine wpList_append_g rfl (.tmp 5) (.tmp 8) rfl rfl HOW.out rfl HROW.out (by omega) hBo ?_;intro va vn vc w1 ho1 hg1x;have hg1:wA.grownBy w1 v.ownBlock:=(by rw [HWA.out];exact hg1x);clear hg1x;obtain ⟨e1,e2⟩:=HFR.out w1 hg1;have d1:w1.cell? ⟨b1,0,none⟩=some v:=zae e1 rfl;have d2:=frozen_heap (i:=0) e1;have e3:=(Below.heap_setCell w1 ⟨b1,0,none⟩ (.slice va vn vc) w.heap.size (show w.heap.size≠b1 by omega)).trans e2;have d3:(w1.setCell ⟨b1,0,none⟩ (.slice va vn vc)).cell? ⟨w.heap.size,0,none⟩=some (.int .i64 6):=zae e3 rfl;have d4:w1.cell? ⟨w.heap.size,0,none⟩=some (.int .i64 6):=zae e2 rfl)
 obtain ⟨hA1,hA2⟩:=HIA.out.push hg1 ho1
 have HF:=qz hA1
 have HF2:=qz (asS_trans (Alt.ofBelow HB0.out) hA2)
 clear hA1 hA2 hg1 ho1 e1 e2 e3
 go_end0
 first|exact ⟨rfl,_,HF.out,HF2.out⟩|exact ⟨rfl,⟨_,HF.out⟩,HF2.out⟩
set_option maxHeartbeats 2000000 in
theorem assemble_succ (B Bo b1 b2 b3:Nat)(W H:Int)(s:ByteArray)(a:Option Addr)(n c cb pb mb fb lb kb m nt:Nat)(far bl:List Int)(oth:List (List Int))(k:Nat)(hC:ChSays W H s a n c cb pb mb fb lb kb m nt far bl oth (k+1))(hs:s.size<=1000000)
 (hR:AsSays B Bo b1 b2 b3 W H s a n c cb pb mb fb lb kb m nt far bl oth k):AsSays B Bo b1 b2 b3 W H s a n c cb pb mb fb lb kb m nt far bl oth (k+1):=by
 intro p nk x y w v xs hp hx hI hnk hxs hy
 obtain ⟨t,r,y2,he,hnx,way,hgo⟩:=pathS_next hy
 obtain ⟨l,z⟩:=y
 simp only [] at he
 subst he
 have htb:=goesS_nat hgo
 have hwt:wfI t:=WalkArith.wf_i64 (by rw [zag] at htb;omega)
 obtain ⟨P1,hP1⟩:∃ P1,P1=p+1:=⟨_,rfl⟩
 have ew:IntKind.i64.wrap ((p:Int)+1)=(P1:Int):=by simp only [IntKind.wrap_i64];omega
 have HPK:Hid (P1+k=6):=by unfold Hid;omega
 have hp6:p<6:=by omega
 have hk6:cntK (k+1)<=3906:=cntK_le (by omega)
 have HC:=qz fun V nk' hS hb=>hC p nk' B x V hp hx hS hb
 have HR:=qz fun V nk' v' xs' hI hb hx=>hR P1 nk' t (r,y2) V v' xs' HPK.out hwt hI hb hx hnx
 have HVAL:Hid (rstV (rstOf (pathS W H (zaa s) far bl oth (k+1) x))=.agg #[.bool true,.int .i64 t,.int .i64 z]):=by unfold Hid;rw [hy];rfl
 have hxl:(xs++[x]).length<=100-k:=by rw [List.length_append,List.length_singleton];omega
 have HXL:=qz hxl
 clear hC hR hgo htb hnx hy hP1 hx hwt hxl
 obtain ⟨w0,hw0⟩:∃ w0,w0=w.alloc (atO p x):=⟨_,rfl⟩
 have hb0:Below w.heap.size w w0:=by rw [hw0];exact (zX _ _).alloc (zL _) _
 have hz0:w0.heap.size=w.heap.size+1:=by rw [hw0];simp
 have a0:w0.heap[w.heap.size]?=some (atO p x):=by rw [hw0];show (w.heap.push _)[w.heap.size]?=_;rw [Array.getElem?_push,if_pos rfl]
 have hI0:=hI.calls hb0
 obtain ⟨wA,hwA⟩:∃ wA,wA=w0.alloc (.cells #[.int .i64 x] 3):=⟨_,rfl⟩
 have hbA:Below w0.heap.size w0 wA:=by rw [hwA];exact (zX _ _).alloc (zL _) _
 have hIA:=hI0.calls hbA
 have c1:w.cell? ⟨b1,0,none⟩=some v:=zae hI.h1 rfl
 have x1:w0.cell? ⟨w.heap.size,1,none⟩=some (.int .i64 x):=zae a0 rfl
 have hrow:RowZ .i64 wA wA.heap.size (some ⟨w0.heap.size,0,none⟩) 1 1 [x]:=by
  rw [hwA];exact (ownZ_lit w0 x (zL _)).rowAt rfl
 have hlt1:b1<w.heap.size:=(Array.getElem?_eq_some_iff.1 hI.h1).1
 have hlt2:b2<w.heap.size:=(Array.getElem?_eq_some_iff.1 hI.h2).1
 have hlt3:b3<w.heap.size:=(Array.getElem?_eq_some_iff.1 hI.h3).1
 have HBB:=qz hI.hb
 have hkb:kb<B:=hI.sr.lt.2.2.2
 have hBo:Bo<=wA.heap.size:=by
  obtain ⟨_,_,g3,_⟩:=hI.hb
  have:=hbA.size
  omega
 rw [hz0] at hrow
 have HIA:=qz hIA
 have HFR:Hid (∀ V,wA.grownBy V v.ownBlock->V.heap[b1]?=some (.cells #[v] 26 (0,0))/\V.heap[w.heap.size]?=some (atO p x)):=fun V hg=>by
  refine ⟨(hg.block b1 (by have:=hbA.size;omega) (fun e=>zbb hIA.ow hIA.h1 (by decide) e.symm)).trans hIA.h1,?_⟩
  have aA:=(hbA.block w.heap.size (by omega)).trans a0
  exact (hg.block w.heap.size (by have:=hbA.size;omega) (fun e=>zbb hIA.ow aA (by decide) e.symm)).trans aA
 have HB0:=qz (hb0.trans (hbA.mono (by omega)))
 have HROW:=qz hrow
 have HWA:=qz (show wA=(w.alloc (atO p x)).alloc (.cells #[.int .i64 x] 3) by rw [hwA,hw0])
 rw [hw0] at x1
 rw [HWA.out] at hBo
 have HWS:=qz (show w.heap.size<wA.heap.size by have:=hbA.size;omega)
 clear hI hI0 hIA hb0 hbA hw0 hwA a0 hrow
 have HOW:=qz HIA.out.ow
 rw [HWA.out] at HOW HROW
 go_enter Tryz.func92,Tryz.ntmps92
 go_wp2_with (at_builtin;refine wpList_append_g rfl (.tmp 5) (.tmp 8) rfl rfl HOW.out rfl HROW.out (by omega) hBo ?_;intro va vn vc w1 ho1 hg1x;have hg1:wA.grownBy w1 v.ownBlock:=(by rw [HWA.out];exact hg1x);clear hg1x;obtain ⟨e1,e2⟩:=HFR.out w1 hg1;have d1:w1.cell? ⟨b1,0,none⟩=some v:=zae e1 rfl;have d2:=frozen_heap (i:=0) e1;have e3:=(Below.heap_setCell w1 ⟨b1,0,none⟩ (.slice va vn vc) w.heap.size (show w.heap.size≠b1 by omega)).trans e2;have d3:(w1.setCell ⟨b1,0,none⟩ (.slice va vn vc)).cell? ⟨w.heap.size,0,none⟩=some (.int .i64 (p:Int)):=zae e3 rfl;have d4:w1.cell? ⟨w.heap.size,0,none⟩=some (.int .i64 (p:Int)):=zae e2 rfl)
 obtain ⟨hA1,hA2⟩:=HIA.out.push hg1 ho1
 have HF:=qz hA1
 have HF2:=qz (asS_trans (Alt.ofBelow HB0.out) hA2)
 have hWS:=HWS.out
 have hs1:=hg1.size
 have hl0:w.heap.size<(w1.setCell ⟨b1,0,none⟩ (.slice va vn vc)).heap.size:=by simp only [World.setCell,Array.size_modify];omega
 have HBD:=qz (show ∀ b,b<w.heap.size->b<(w1.setCell ⟨b1,0,none⟩ (.slice va vn vc)).heap.size from fun b hb=>by omega)
 clear hA1 hA2 hg1 ho1 e1 e2 hs1 hWS
 generalize hw2:w1.setCell ⟨b1,0,none⟩ (.slice va vn vc)=w2 at HF HF2 e3 hl0 HBD ⊢
 clear hw2 d4 d3 d2 d1 c1 x1
 have hI2:=HF.out
 have k0:Alt (AsS kb b1 Bo w2) w2 w2:=Alt.refl _ _
 have HKS:Hid (∀ V,Alt (AsS kb b1 Bo w2) w2 V->(Alt (AsS kb b1 Bo w2) w2 V/\V.cell? ⟨b2,0,none⟩=some (.func (.func 92) #[] #[.pointer (some ⟨b1,0,none⟩),.pointer (some ⟨b2,0,none⟩),.pointer (some ⟨b3,0,none⟩)])/\V.cell? ⟨w.heap.size,0,none⟩=some (.int .i64 (p:Int))/\V.cell? ⟨w.heap.size,1,none⟩=some (.int .i64 x)/\V.cell? ⟨b3,0,none⟩=some (.int .i64 W)/\V.cell? ⟨b3,1,none⟩=some (.int .i64 H)/\V.cell? ⟨b3,2,none⟩=some (.string s)/\V.cell? ⟨b3,3,none⟩=some (.slice a n c)/\V.cell? ⟨b3,4,none⟩=some (.map (some cb))/\V.cell? ⟨b3,5,none⟩=some (.map (some pb))/\V.cell? ⟨b3,6,none⟩=some (.map (some mb))/\V.cell? ⟨b3,7,none⟩=some (.map (some fb))/\V.cell? ⟨b3,8,none⟩=some (.slice (some ⟨lb,0,none⟩) s.size s.size)/\V.cell? ⟨b3,9,none⟩=some (.map (some kb)))):=fun V hV=>by
  have hl3:=HBD.out b3 hlt3
  have hl2:=HBD.out b2 hlt2
  obtain ⟨g1,g2,g3,g4,g5⟩:=HBB.out
  have n3:¬ AsS kb b1 Bo w2 b3:=AsS.not hI2.h3 (by decide) (by omega) (by omega)
  have n2:¬ AsS kb b1 Bo w2 b2:=AsS.not hI2.h2 (by decide) (by omega) (fun e=>g5 e.symm)
  have n0:¬ AsS kb b1 Bo w2 w.heap.size:=AsS.not e3 (by decide) (by omega) (by omega)
  exact ⟨hV,zae ((hV.block _ hl2 n2).trans hI2.h2) rfl,zae ((hV.block _ hl0 n0).trans e3) rfl,zae ((hV.block _ hl0 n0).trans e3) rfl,zae ((hV.block _ hl3 n3).trans hI2.h3) rfl,zae ((hV.block _ hl3 n3).trans hI2.h3) rfl,zae ((hV.block _ hl3 n3).trans hI2.h3) rfl,zae ((hV.block _ hl3 n3).trans hI2.h3) rfl,zae ((hV.block _ hl3 n3).trans hI2.h3) rfl,zae ((hV.block _ hl3 n3).trans hI2.h3) rfl,zae ((hV.block _ hl3 n3).trans hI2.h3) rfl,zae ((hV.block _ hl3 n3).trans hI2.h3) rfl,zae ((hV.block _ hl3 n3).trans hI2.h3) rfl,zae ((hV.block _ hl3 n3).trans hI2.h3) rfl⟩
 have i0:=hI2
 have HC2:Hid (∀ V,AsIn V B Bo b1 b2 b3 W H s a n c cb pb mb fb lb kb m nt nk far bl oth (.slice va vn vc) (xs++[x])->Alt (AsS kb b1 Bo w2) w2 V->Calls Tryz.prog 91 #[srV W H s a n c cb pb mb fb lb kb,atV p x] V fun e V'=>e=.returned (.agg #[.bool true,.int .i64 t,.int .i64 z])/\AsIn V' B Bo b1 b2 b3 W H s a n c cb pb mb fb lb kb m nt (nk+3906) far bl oth (.slice va vn vc) (xs++[x])/\Alt (AsS kb b1 Bo w2) w2 V'):=fun V hV hA =>
  (HC.out V nk hV.sr (by omega)).mono fun e V' ⟨he,hs,ha⟩=>⟨by rw [he,HVAL.out],hV.known ha (hs.less (by omega)),asS_trans hA (asS_kb ha)⟩
 have HR2:Hid (∀ V,AsIn V B Bo b1 b2 b3 W H s a n c cb pb mb fb lb kb m nt (nk+3906) far bl oth (.slice va vn vc) (xs++[x])->Alt (AsS kb b1 Bo w2) w2 V->Calls Tryz.prog 92 #[atV P1 t,.pointer (some ⟨b1,0,none⟩),.pointer (some ⟨b2,0,none⟩),.pointer (some ⟨b3,0,none⟩)] V fun e V'=>e=.returned (.tuple #[])/\∃ v2,AsIn V' B Bo b1 b2 b3 W H s a n c cb pb mb fb lb kb m nt (nk+(k+1)*3906) far bl oth v2 (xs++x :: t :: r)/\Alt (AsS kb b1 Bo w2) w2 V'):=fun V hV hA =>
  (HR.out V (nk+3906) (.slice va vn vc) (xs++[x]) hV (by omega) HXL.out).mono fun e V' ⟨he,v2,h2,ha⟩=>⟨he,v2,by
   rw [List.append_assoc,show nk+3906+k*3906=nk+(k+1)*3906 by omega] at h2
   exact h2,asS_trans hA ha⟩
 clear hI2
 have hfld:=field_rst1 true t z
 go_region_held3 (fun V=>Alt (AsS kb b1 Bo w2) w2 V/\V.cell? ⟨b2,0,none⟩=some (.func (.func 92) #[] #[.pointer (some ⟨b1,0,none⟩),.pointer (some ⟨b2,0,none⟩),.pointer (some ⟨b3,0,none⟩)])/\V.cell? ⟨w.heap.size,0,none⟩=some (.int .i64 (p:Int))/\V.cell? ⟨w.heap.size,1,none⟩=some (.int .i64 x)/\V.cell? ⟨b3,0,none⟩=some (.int .i64 W)/\V.cell? ⟨b3,1,none⟩=some (.int .i64 H)/\V.cell? ⟨b3,2,none⟩=some (.string s)/\V.cell? ⟨b3,3,none⟩=some (.slice a n c)/\V.cell? ⟨b3,4,none⟩=some (.map (some cb))/\V.cell? ⟨b3,5,none⟩=some (.map (some pb))/\V.cell? ⟨b3,6,none⟩=some (.map (some mb))/\V.cell? ⟨b3,7,none⟩=some (.map (some fb))/\V.cell? ⟨b3,8,none⟩=some (.slice (some ⟨lb,0,none⟩) s.size s.size)/\V.cell? ⟨b3,9,none⟩=some (.map (some kb)))
  (first|exact HKS.out _ (by assumption)|exact HKS.out _ (Alt.drew (by assumption)))
  (first
   | (go_at_call 91;refine (HC2.out _ (by first|exact i0|exact i0.calls (Below.drew (zX _ _))) (by first|exact k0|exact Alt.drew k0)).mono ?_;rintro e wa ⟨rfl,ia,ka⟩)
   | (go_at_call 92;refine (HR2.out _ (by first|exact ia|exact ia.calls (Below.drew (zX _ _))) (by first|exact ka|exact Alt.drew ka)).mono ?_;rintro e wb ⟨rfl,v2,ib,kb2⟩))
 have HFF:=qz (asS_trans HF2.out kb2)
 have HIB:=qz ib
 clear kb2 ib ia ka k0 i0
 go_wp2_with fail
 go_end0
 first|exact ⟨rfl,_,HIB.out,HFF.out⟩|exact ⟨rfl,⟨_,HIB.out⟩,HFF.out⟩
end Go.Proofs.YtknnnbpgkfaapaaGreat.Vm
namespace Go.Proofs.YtknnnbpgkfaapaaGreat.Vm
open Go Go.RowKit Go.Maps
theorem ch_all (W H:Int)(s:ByteArray)(a:Option Addr)(n c cb pb mb fb lb kb m nt:Nat)(far bl:List Int)(oth:List (List Int))(hok:Okay W H s)(hfar:∀ i,far.getD i 0<=1000000):∀ k,ChSays W H s a n c cb pb mb fb lb kb m nt far bl oth k
 | 0=>cheapest_zero W H s a n c cb pb mb fb lb kb m nt far bl oth
 | k+1=>cheapest_succ W H s a n c cb pb mb fb lb kb m nt far bl oth hok hfar k (ch_all W H s a n c cb pb mb fb lb kb m nt far bl oth hok hfar k)
theorem as_all (B Bo b1 b2 b3:Nat)(W H:Int)(s:ByteArray)(a:Option Addr)(n c cb pb mb fb lb kb m nt:Nat)(far bl:List Int)(oth:List (List Int))(hok:Okay W H s)(hfar:∀ i,far.getD i 0<=1000000):∀ k,AsSays B Bo b1 b2 b3 W H s a n c cb pb mb fb lb kb m nt far bl oth k
 | 0=>assemble_zero B Bo b1 b2 b3 W H s a n c cb pb mb fb lb kb m nt far bl oth
 | k+1=>assemble_succ B Bo b1 b2 b3 W H s a n c cb pb mb fb lb kb m nt far bl oth k (ch_all W H s a n c cb pb mb fb lb kb m nt far bl oth hok hfar (k+1)) (by have:=hok.le;omega) (as_all B Bo b1 b2 b3 W H s a n c cb pb mb fb lb kb m nt far bl oth hok hfar k)
abbrev zeros7:Obj:=.cells #[.int .i64 0,.int .i64 0,.int .i64 0,.int .i64 0,.int .i64 0,.int .i64 0,.int .i64 0] 3
theorem make_seven (w:World):(Instr.makeSlice 26 (.int .i64 0) (.int .i64 7)).run Tryz.prog w=.ok (.slice (some ⟨w.heap.size,0,none⟩) 0 7) (w.alloc zeros7):=by kernel_rfl
theorem ownZ_seven (w:World):OwnZ (w.alloc zeros7) w.heap.size (.slice (some ⟨w.heap.size,0,none⟩) 0 7) []:=by
 refine ⟨rfl,.inr ⟨w.heap.size,7,#[.int .i64 0,.int .i64 0,.int .i64 0,.int .i64 0,.int .i64 0,.int .i64 0,.int .i64 0],rfl,zL _,?_,Nat.zero_le _,by unfold maxLen;omega,rfl,rfl⟩⟩
 show (w.heap.push _)[w.heap.size]?=_
 rw [Array.getElem?_push,if_pos rfl]
def PlPost (w:World)(W H:Int)(s:ByteArray)(fb mf:Nat)(bl:List Int)(r:Option (List Int))(e:Ending)(w':World):Prop :=
 ∃ a n c l b,e=.returned (.tuple #[.slice a n c,.bool b])/\PathOut r l b/\RowZ .i64 w' w'.heap.size a n c l/\FldIn w' fb mf W H s bl/\Alt (fun k=>k=fb) w w'
theorem plPost_no {w w':World}{W H:Int}{s:ByteArray}{fb mf:Nat}{bl:List Int}{r:Option (List Int)}(hr:r=none)(hF:FldIn w' fb mf W H s bl)(hA:Alt (fun k=>k=fb) w w'):PlPost w W H s fb mf bl r (.returned (.tuple #[.slice none 0 0,.bool false])) w' :=
 ⟨none,0,0,[],false,rfl,.inl ⟨hr,rfl,rfl⟩,⟨rfl,zL _,by simp [maxLen],fun h=>absurd h (by omega)⟩,hF,hA⟩
set_option maxHeartbeats 2000000 in
theorem plPath_any (W H fr to:Int)(s:ByteArray)(a:Option Addr)(n c cb pb mb fb m nt mf B:Nat)(bl:List Int)(oth:List (List Int))(w:World)(hok:Okay W H s)(hr:RowZ .i64 w B a n c bl)(hB:B<=w.heap.size)(hw:WfZ bl)(hn:n<=100000)
 (hS:ShutIn w cb m bl) (hT:TrafIn w pb mb nt oth) (hF:FldIn w fb mf W H s bl) (hm:mf<=1000000) (hne:fb≠cb/\fb≠pb/\fb≠mb) (hfr:wfI fr) (hto:wfI to) :
 Calls Tryz.prog 67 #[plV W H s a n c cb pb mb fb,.int .i64 fr,.int .i64 to] w (PlPost w W H s fb (mf+1) bl (pathG W H (zaa s) bl oth fr to)):=by
 have hle:=hok.le
 obtain ⟨w0,hw0⟩:∃ w0,w0=w.alloc (plO W H s a n c cb pb mb fb):=⟨_,rfl⟩
 have hb0:Below w.heap.size w w0:=by rw [hw0];exact (zX _ _).alloc (zL _) _
 have hz0:w0.heap.size=w.heap.size+1:=by rw [hw0];simp
 have hp0:w0.heap[w.heap.size]?=some (plO W H s a n c cb pb mb fb):=by rw [hw0];show (w.heap.push _)[w.heap.size]?=_;rw [Array.getElem?_push,if_pos rfl]
 have g0:w0.cell? ⟨w.heap.size,0,none⟩=some (.int .i64 W):=zae hp0 rfl
 have g1:w0.cell? ⟨w.heap.size,1,none⟩=some (.int .i64 H):=zae hp0 rfl
 have g2:w0.cell? ⟨w.heap.size,2,none⟩=some (.string s):=zae hp0 rfl
 have HFL:=qz (zcd W H fr s w0 (by unfold maxLen;omega))
 have hfb:=hF.lt
 have HB0:=qz hb0
 have HP0:=qz hp0
 have HF0:=qz (hF.calls hb0)
 have HS0:=qz (hS.keepB hb0)
 have HT0:=qz (hT.calls hb0)
 have HR0:=qz (hr.below (hb0.mono hB))
 have HW:=qz hw
 have HOK:=qz hok
 have HNE:=qz hne
 have HFR:=qz hfr
 have HTO:=qz hto
 have HW0:=qz hw0
 rw [hw0] at g0 g1 g2
 clear hS hT hF hr hw hok hb0 hp0 hw0 hne hfr hto
 cases hff:zac (zaa s) fr with
 | false =>
   have HE:Hid (pathG W H (zaa s) bl oth fr to=none):=by unfold Hid pathG;rw [if_neg (fun h=>by rw [hff] at h;cases h.2)]
   rw [hff] at HFL
   clear hff
   go_enter Tryz.func67,Tryz.ntmps67
   go_wp2_with fail
   rw [<- HW0.out]
   refine HFL.out.mono ?_
   rintro e w1 ⟨rfl,hb1⟩
   have HFN:=qz ((HF0.out.calls hb1).less (Nat.le_succ mf))
   have HAN:=qz (Alt.ofBelow (S:=fun k=>k=fb) (HB0.out.trans (hb1.mono HB0.out.size)))
   clear hb1
   go_wp2_with fail
   go_ret2
   exact plPost_no HE.out HFN.out HAN.out
 | true =>
   rw [hff] at HFL
   have HFF:=qz hff
   clear hff
   go_enter Tryz.func67,Tryz.ntmps67
   go_wp2_with fail
   rw [<- HW0.out]
   refine HFL.out.mono ?_
   rintro e w1 ⟨rfl,hb1⟩
   have hs1:=hb1.size
   have hp1:=(hb1.block w.heap.size (by omega)).trans HP0.out
   have p0:w1.cell? ⟨w.heap.size,0,none⟩=some (.int .i64 W):=zae hp1 rfl
   have p1:w1.cell? ⟨w.heap.size,1,none⟩=some (.int .i64 H):=zae hp1 rfl
   have p2:w1.cell? ⟨w.heap.size,2,none⟩=some (.string s):=zae hp1 rfl
   have p3:w1.cell? ⟨w.heap.size,3,none⟩=some (.slice a n c):=zae hp1 rfl
   have p4:w1.cell? ⟨w.heap.size,4,none⟩=some (.map (some cb)):=zae hp1 rfl
   have p5:w1.cell? ⟨w.heap.size,5,none⟩=some (.map (some pb)):=zae hp1 rfl
   have p6:w1.cell? ⟨w.heap.size,6,none⟩=some (.map (some mb)):=zae hp1 rfl
   have p7:w1.cell? ⟨w.heap.size,7,none⟩=some (.map (some fb)):=zae hp1 rfl
   have HFD:=qz (plField_any W H to s a n c cb pb mb fb mf B bl w1 HOK.out (HR0.out.below (hb1.mono (by omega))) (by omega) HW.out hn (HF0.out.calls hb1) hm HTO.out)
   have HB1:=qz (HB0.out.trans (hb1.mono HB0.out.size))
   have HS1:=qz (HS0.out.keepB hb1)
   have HT1:=qz (HT0.out.calls hb1)
   have HP1:=qz hp1
   clear hb1 hp1
   go_wp2_with fail
   refine HFD.out.mono ?_
   rintro e w3 ⟨hcase,hF3,hA3⟩
   have hz3:=hA3.size
   have HF3:=qz hF3
   have HA3:=qz ((Alt.ofBelow HB1.out).trans hA3 (fun k hk _=>hk))
   rcases hcase with ⟨hft,rfl⟩|⟨hft,lb,rfl,hrow⟩
   · have HE:Hid (pathG W H (zaa s) bl oth fr to=none):=by unfold Hid pathG;rw [if_neg (fun h=>by rw [hft] at h;cases h.1)]
     clear hft hA3 hF3
     go_wp2_with fail
     go_ret2
     exact plPost_no HE.out HF3.out HA3.out
   · have hin:=zaq hft
     rw [zag] at hin
     have hfar:∀ i,(fieldG W H (zaa s) bl to).getD i 0<=1000000:=fun i=>by
      have:=(fieldG_bounds (W:=W) (H:=H) (bl:=bl) (to:=to) (cells:=zaa s) (by rw [zag];omega) (by rw [zag];omega) i).1
      omega
     have HPG:Hid (pathG W H (zaa s) bl oth fr to=(pathS W H (zaa s) (fieldG W H (zaa s) bl to) bl oth 6 fr).map fun x=>fr :: x.1):=by unfold Hid pathG;rw [if_pos ⟨hft,HFF.out⟩]
     obtain ⟨far,hfd⟩:∃ far,fieldG W H (zaa s) bl to=far:=⟨_,rfl⟩
     rw [hfd] at hrow hfar HPG
     have hcbl:cb<w1.heap.size:=HS1.out.lt
     have hpbl:pb<w1.heap.size:=HT1.out.1.lt
     have hmbl:mb<w1.heap.size:=HT1.out.2.1.lt
     obtain ⟨n1,n2,n3⟩:=HNE.out
     have hS3:=HS1.out.keep (hA3.block cb hcbl (fun e=>n1 e.symm))
     have hT3:=HT1.out.alt hA3 (fun e=>n2 e.symm) (fun e=>n3 e.symm)
     have hp3:=(hA3.block w.heap.size (by omega) (by show ¬ w.heap.size=fb;omega)).trans HP1.out
     have p0:w3.cell? ⟨w.heap.size,0,none⟩=some (.int .i64 W):=zae hp3 rfl
     have p1:w3.cell? ⟨w.heap.size,1,none⟩=some (.int .i64 H):=zae hp3 rfl
     have p2:w3.cell? ⟨w.heap.size,2,none⟩=some (.string s):=zae hp3 rfl
     have p3:w3.cell? ⟨w.heap.size,3,none⟩=some (.slice a n c):=zae hp3 rfl
     have p4:w3.cell? ⟨w.heap.size,4,none⟩=some (.map (some cb)):=zae hp3 rfl
     have p5:w3.cell? ⟨w.heap.size,5,none⟩=some (.map (some pb)):=zae hp3 rfl
     have p6:w3.cell? ⟨w.heap.size,6,none⟩=some (.map (some mb)):=zae hp3 rfl
     have p7:w3.cell? ⟨w.heap.size,7,none⟩=some (.map (some fb)):=zae hp3 rfl
     have mk:=make_setN 148 w3
     obtain ⟨w4,hw4⟩:∃ w4,w4=w3.alloc (.map #[] 0):=⟨_,rfl⟩
     have hb4:Below w3.heap.size w3 w4:=by rw [hw4];exact (zX _ _).alloc (zL _) _
     have hz4:w4.heap.size=w3.heap.size+1:=by rw [hw4];simp
     have hk4:KIn knownM w4 w3.heap.size 0 (fun _=>none):=by rw [hw4];exact kIn_new knownM w3 (fun _=>rfl)
     have hSR:SrIn w4 (w3.heap.size+1) W H s cb pb mb lb w3.heap.size m nt 0 far bl oth :=
      ⟨hS3.keepB hb4,hT3.calls hb4,(hrow.below hb4).mono (by omega),knIn_new hk4,⟨by omega,by omega,by omega⟩,⟨by omega,by omega,by omega,by omega⟩,by omega,hk4.isMap⟩
     obtain ⟨w5,hw5⟩:∃ w5,w5=w4.alloc (srO W H s a n c cb pb mb fb lb w3.heap.size):=⟨_,rfl⟩
     have hb5:Below w4.heap.size w4 w5:=by rw [hw5];exact (zX _ _).alloc (zL _) _
     have hz5:w5.heap.size=w3.heap.size+2:=by rw [hw5];simp [hz4]
     have h35:w5.heap[w3.heap.size+1]?=some (srO W H s a n c cb pb mb fb lb w3.heap.size):=by rw [hw5,<- hz4];show (w4.heap.push _)[w4.heap.size]?=_;rw [Array.getElem?_push,if_pos rfl]
     obtain ⟨w6,hw6⟩:∃ w6,w6=w5.alloc (.cells #[.int .i64 0,.int .i64 fr] 144):=⟨_,rfl⟩
     have hb6:Below w5.heap.size w5 w6:=by rw [hw6];exact (zX _ _).alloc (zL _) _
     have hz6:w6.heap.size=w3.heap.size+3:=by rw [hw6];simp [hz5]
     have h46:w6.heap[w3.heap.size+1+1]?=some (.cells #[.int .i64 0,.int .i64 fr] 144):=by rw [hw6,show w3.heap.size+1+1=w5.heap.size by omega];show (w5.heap.push _)[w5.heap.size]?=_;rw [Array.getElem?_push,if_pos rfl]
     have h36:=(hb6.block (w3.heap.size+1) (by omega)).trans h35
     have s0:w6.cell? ⟨w3.heap.size+1,0,none⟩=some (.int .i64 W):=zae h36 rfl
     have s1:w6.cell? ⟨w3.heap.size+1,1,none⟩=some (.int .i64 H):=zae h36 rfl
     have s2:w6.cell? ⟨w3.heap.size+1,2,none⟩=some (.string s):=zae h36 rfl
     have s3:w6.cell? ⟨w3.heap.size+1,3,none⟩=some (.slice a n c):=zae h36 rfl
     have s4:w6.cell? ⟨w3.heap.size+1,4,none⟩=some (.map (some cb)):=zae h36 rfl
     have s5:w6.cell? ⟨w3.heap.size+1,5,none⟩=some (.map (some pb)):=zae h36 rfl
     have s6:w6.cell? ⟨w3.heap.size+1,6,none⟩=some (.map (some mb)):=zae h36 rfl
     have s7:w6.cell? ⟨w3.heap.size+1,7,none⟩=some (.map (some fb)):=zae h36 rfl
     have s8:w6.cell? ⟨w3.heap.size+1,8,none⟩=some (.slice (some ⟨lb,0,none⟩) s.size s.size):=zae h36 rfl
     have s9:w6.cell? ⟨w3.heap.size+1,9,none⟩=some (.map (some w3.heap.size)):=zae h36 rfl
     have u0:w6.cell? ⟨w3.heap.size+1+1,0,none⟩=some (.int .i64 0):=zae h46 rfl
     have u1:w6.cell? ⟨w3.heap.size+1+1,1,none⟩=some (.int .i64 fr):=zae h46 rfl
     have HS6:=qz ((hSR.below (hb5.mono (by omega))).below (hb6.mono (by omega)))
     have HB6:=qz (hb4.trans ((hb5.mono (by omega)).trans (hb6.mono (by omega))))
     have HCH:Hid (Calls Tryz.prog 91 #[srV W H s a n c cb pb mb fb lb w3.heap.size,.agg #[.int .i64 0,.int .i64 fr]] w6 fun e w'=>e=.returned (rstV (rstOf (pathS W H (zaa s) far bl oth 6 fr)))/\SrIn w' (w3.heap.size+1) W H s cb pb mb lb w3.heap.size m nt (0+cntK 6) far bl oth/\Alt (fun k=>k=w3.heap.size) w6 w') :=
      ch_all W H s a n c cb pb mb fb lb w3.heap.size m nt far bl oth HOK.out hfar 6 0 0 (w3.heap.size+1) fr w6 rfl HFR.out HS6.out (by decide)
     have HAS:=qz fun Bo b1 b2 V v y hI hy=>as_all (w3.heap.size+1) Bo b1 b2 (w3.heap.size+1) W H s a n c cb pb mb fb lb w3.heap.size m nt far bl oth HOK.out hfar 6 0 3906 fr y V v [] rfl HFR.out hI (by decide) (by simp) hy
     have HW6:Hid (w6=((w3.alloc (.map #[] 0)).alloc (srO W H s a n c cb pb mb fb lb w3.heap.size)).alloc (.cells #[.int .i64 0,.int .i64 fr] 144)):=by unfold Hid;rw [hw6,hw5,hw4]
     have HH36:=qz h36
     have HH46:=qz h46
     have HZ6:=qz hz6
     rw [HW6.out] at s0 s1 s2 s3 s4 s5 s6 s7 s8 s9 u0 u1
     clear hfd hft hin hfar hS3 hT3 hp3 hb4 hb5 hb6 hw4 hw5 hw6 hk4 hSR h35 h36 h46 hA3 hF3 hrow n1 n2 n3 hz4 hz5 hz6
     obtain ⟨R,hRR⟩:∃ R,pathS W H (zaa s) far bl oth 6 fr=R:=⟨_,rfl⟩
     rw [hRR] at HCH HPG
     cases R with
     | none =>
       have hfl:=field_rst0 false 0 0
       go_wp2_with fail
       rw [<- HW6.out]
       refine HCH.out.mono ?_
       rintro e w7 ⟨rfl,hs7,ha7⟩
       have hb7:Below w3.heap.size w3 w7:=HB6.out.trans (ha7.below (fun k hk=>by omega) (by have:=HZ6.out;omega))
       have HFN:=qz (HF3.out.calls hb7)
       have HAN:=qz (HA3.out.calls (hb7.mono (by omega)))
       clear hs7 ha7 hb7
       simp only [rstOf]
       go_wp2_with fail
       go_ret2
       exact plPost_no HPG.out HFN.out HAN.out
     | some y =>
       obtain ⟨l,z⟩:=y
       have HRR:=qz hRR
       obtain ⟨h0,hh0⟩:∃ h0,l.headD 0=h0:=⟨_,rfl⟩
       have hfl:=field_rst0 true h0 z
       go_wp2_with fail
       rw [<- HW6.out]
       refine HCH.out.mono ?_
       rintro e w7 ⟨rfl,hs7,ha7⟩
       have hz6:=HZ6.out
       have hz7:=ha7.size
       have hb7:Below w3.heap.size w3 w7:=HB6.out.trans (ha7.below (fun k hk=>by omega) (by omega))
       have h37:=(ha7.block (w3.heap.size+1) (by omega) (by show ¬ w3.heap.size+1=w3.heap.size;omega)).trans HH36.out
       have h47:=(ha7.block (w3.heap.size+1+1) (by omega) (by show ¬ w3.heap.size+1+1=w3.heap.size;omega)).trans HH46.out
       have m7:=make_seven w7
       obtain ⟨w8,hw8⟩:∃ w8,w8=w7.alloc zeros7:=⟨_,rfl⟩
       have hb8:Below w7.heap.size w7 w8:=by rw [hw8];exact (zX _ _).alloc (zL _) _
       have hz8:w8.heap.size=w7.heap.size+1:=by rw [hw8];simp
       have ho8:OwnZ w8 w7.heap.size (.slice (some ⟨w7.heap.size,0,none⟩) 0 7) []:=by rw [hw8];exact ownZ_seven w7
       obtain ⟨w9,hw9⟩:∃ w9,w9=w8.alloc (.cells #[.slice (some ⟨w7.heap.size,0,none⟩) 0 7] 26):=⟨_,rfl⟩
       have hb9:Below w8.heap.size w8 w9:=by rw [hw9];exact (zX _ _).alloc (zL _) _
       have hz9:w9.heap.size=w7.heap.size+2:=by rw [hw9];simp [hz8]
       have h19:w9.heap[w7.heap.size+1]?=some (.cells #[.slice (some ⟨w7.heap.size,0,none⟩) 0 7] 26 (0,0)):=by rw [hw9,<- hz8];show (w8.heap.push _)[w8.heap.size]?=_;rw [Array.getElem?_push,if_pos rfl]
       obtain ⟨w10,hw10⟩:∃ w10,w10=w9.alloc (.cells #[(.func (.func 92) #[] #[.pointer (some ⟨w7.heap.size+1,0,none⟩),.pointer (some ⟨w7.heap.size+1+1,0,none⟩),.pointer (some ⟨w3.heap.size+1,0,none⟩)])] 154):=⟨_,rfl⟩
       have hb10:Below w9.heap.size w9 w10:=by rw [hw10];exact (zX _ _).alloc (zL _) _
       have hz10:w10.heap.size=w7.heap.size+3:=by rw [hw10];simp [hz9]
       have h2x:w10.heap[w7.heap.size+1+1]?=some (.cells #[(.func (.func 92) #[] #[.pointer (some ⟨w7.heap.size+1,0,none⟩),.pointer (some ⟨w7.heap.size+1+1,0,none⟩),.pointer (some ⟨w3.heap.size+1,0,none⟩)])] 154 (0,0)):=by rw [hw10,show w7.heap.size+1+1=w9.heap.size by omega];show (w9.heap.push _)[w9.heap.size]?=_;rw [Array.getElem?_push,if_pos rfl]
       have hb710:Below w7.heap.size w7 w10:=hb8.trans ((hb9.mono (by omega)).trans (hb10.mono (by omega)))
       have hAS:AsIn w10 (w3.heap.size+1) w7.heap.size (w7.heap.size+1) (w7.heap.size+1+1) (w3.heap.size+1) W H s a n c cb pb mb fb lb w3.heap.size m nt 3906 far bl oth (.slice (some ⟨w7.heap.size,0,none⟩) 0 7) [] :=
        ⟨hs7.below (hb710.mono (by omega)),(hb10.block _ (by omega)).trans h19,h2x,(hb710.block _ (by omega)).trans h37,(ho8.calls hb9).calls hb10,⟨by omega,by omega,by omega,by omega,by omega⟩⟩
       have HCA:=qz (HAS.out w7.heap.size (w7.heap.size+1) (w7.heap.size+1+1) w10 _ (l,z) hAS HRR.out)
       have HW10:Hid (w10=((w7.alloc zeros7).alloc (.cells #[.slice (some ⟨w7.heap.size,0,none⟩) 0 7] 26)).alloc (.cells #[(.func (.func 92) #[] #[.pointer (some ⟨w7.heap.size+1,0,none⟩),.pointer (some ⟨w7.heap.size+1+1,0,none⟩),.pointer (some ⟨w3.heap.size+1,0,none⟩)])] 154)):=by unfold Hid;rw [hw10,hw9,hw8]
       have f0:w10.cell? ⟨w7.heap.size+1+1,0,none⟩=some (.func (.func 92) #[] #[.pointer (some ⟨w7.heap.size+1,0,none⟩),.pointer (some ⟨w7.heap.size+1+1,0,none⟩),.pointer (some ⟨w3.heap.size+1,0,none⟩)]):=zae h2x rfl
       have h410:=(hb710.block (w3.heap.size+1+1) (by omega)).trans h47
       have f1:w10.cell? ⟨w3.heap.size+1+1,0,none⟩=some (.int .i64 0):=zae h410 rfl
       have f2:w10.cell? ⟨w3.heap.size+1+1,1,none⟩=some (.int .i64 fr):=zae h410 rfl
       have HB10:=qz (hb7.trans (hb710.mono (by omega)))
       have HZ10:=qz hz10
       rw [HW10.out] at f0 f1 f2
       simp only [rstOf]
       rw [hh0]
       clear hs7 ha7 hb7 h37 h47 hw8 hb8 hz8 ho8 hw9 hb9 hz9 h19 hw10 hb10 hz10 h2x hb710 hAS h410 hh0 hRR hz6
       go_wp2_with fail
       rw [<- HW10.out]
       refine HCA.out.mono ?_
       rintro e w11 ⟨rfl,v',hI11,hA11⟩
       obtain ⟨av,cv,rfl,hrow⟩:=hI11.ow.row
       obtain ⟨N,hN⟩:∃ N,([]++fr :: l).length=N:=⟨_,rfl⟩
       have hh1:=hI11.h1
       rw [hN] at hh1 hrow
       have hrow:RowZ .i64 w11 w11.heap.size av N cv (fr :: l):=hrow
       have c11:w11.cell? ⟨w7.heap.size+1,0,none⟩=some (.slice av N cv):=zae hh1 rfl
       have hz6:=HZ6.out
       have hz10:=HZ10.out
       have hb11:Below w3.heap.size w3 w11:=HB10.out.trans (hA11.below (fun k hk=>by rcases hk with e|e|⟨e,_⟩ <;> omega) (by omega))
       have HROW:=qz hrow
       have HFN:=qz (HF3.out.calls hb11)
       have HAN:=qz (HA3.out.calls (hb11.mono (by omega)))
       clear hI11 hA11 hrow hN hb11 hh1 hz6 hz10
       go_wp2_with fail
       go_ret2
       exact ⟨av,N,cv,fr :: l,true,rfl,.inr ⟨HPG.out,rfl⟩,HROW.out,HFN.out,HAN.out⟩
end Go.Proofs.YtknnnbpgkfaapaaGreat.Vm
namespace Go.Proofs.YtknnnbpgkfaapaaGreat.Vm
open Go Go.RowKit Go.Maps
end Go.Proofs.YtknnnbpgkfaapaaGreat.Vm
