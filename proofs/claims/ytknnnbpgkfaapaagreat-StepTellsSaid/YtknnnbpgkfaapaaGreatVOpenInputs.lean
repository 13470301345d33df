import Derived.Test.YtknnnbpgkfaapaaGreatVOpens
import Derived.Test.YtknnnbpgkfaapaaGreatVApplyHead
set_option maxRecDepth 100000
set_option linter.unusedSimpArgs false
set_option linter.unusedVariables false
namespace Go.Proofs.YtknnnbpgkfaapaaGreat.Vm
open Go Go.ChangeShapes Go.WideShapes Go.ChangeAt Go.RowKit Go.Deep
def inpL (x:Inp):List Value:=[.int .i64 x.k,.int .i64 x.a,.int .i64 x.b,.int .i64 x.c]
theorem cellsInp:Tryz.prog.cellsOf 44=4:=by kernel_rfl
theorem inp_of_trod {H:Type}{enc:TypeId × Value->H}{W:World}{base:Nat}{sp:Nat->Bool}{held:Bool}{e:TypeId}{n:Nat}{cs:List Value}{z:DataW H × List MemPlace}{o0 o1 o2 o3:Field}
 (he:Tryz.prog.underlying e=some (.struct #[o0,o1,o2,o3])) (hone:oneCellFields Tryz.prog #[o0,o1,o2,o3]=true) (hI:o0.type=3/\o1.type=3/\o2.type=3/\o3.type=3)
 (hc:cs.length=4) (h:DataW.trod enc Tryz.prog W base sp held n e cs=some z):∃ r:Inp,cs=inpL r:=by
 obtain ⟨ys,n',_,_,_,hyl,hf⟩:=DataW.trod_struct he h
 have hyl5:ys.length=4:=hyl
 obtain ⟨c0,c1,c2,c3,rfl⟩:∃ c0 c1 c2 c3,cs=[c0,c1,c2,c3]:=by
  match cs,hc with
  | [c0,c1,c2,c3],_=>exact ⟨c0,c1,c2,c3,rfl⟩
 obtain ⟨p0,k0⟩:=hone_of hone 0 o0 rfl
 obtain ⟨p1,k1⟩:=hone_of hone 1 o1 rfl
 obtain ⟨p2,k2⟩:=hone_of hone 2 o2 rfl
 obtain ⟨p3,k3⟩:=hone_of hone 3 o3 rfl
 obtain ⟨i0,i1,i2,i3⟩:=hI
 have h0:=hf 0 o0 rfl
 have h1:=hf 1 o1 rfl
 have h2:=hf 2 o2 rfl
 have h3:=hf 3 o3 rfl
 rw [p0,k0,i0,List.getElem?_eq_getElem (by omega)] at h0
 rw [p1,k1,i1,List.getElem?_eq_getElem (by omega)] at h1
 rw [p2,k2,i2,List.getElem?_eq_getElem (by omega)] at h2
 rw [p3,k3,i3,List.getElem?_eq_getElem (by omega)] at h3
 obtain ⟨x0,e0,_,_⟩:=DataW.trod_int Tryz.underlying3 h0
 obtain ⟨x1,e1,_,_⟩:=DataW.trod_int Tryz.underlying3 h1
 obtain ⟨x2,e2,_,_⟩:=DataW.trod_int Tryz.underlying3 h2
 obtain ⟨x3,e3,_,_⟩:=DataW.trod_int Tryz.underlying3 h3
 simp at e0 e1 e2 e3
 subst e0 e1 e2 e3
 exact ⟨⟨x0,x1,x2,x3⟩,rfl⟩
theorem rowI_of_trod {H:Type}{enc:TypeId × Value->H}{W:World}{m:Nat}{c:Value}{x:DataW H × List MemPlace}
 (h:DataW.trod enc Tryz.prog W 0 (fun _=>true) true m 35 [c]=some x):∃ a n k l,c=.slice a n k/\RowI W W.heap.size a n k l:=by
 rcases open_slice Tryz.underlying35 h with ⟨hcs,_⟩|⟨a,len,cap,mm,n,D,Pl,hcs,_,hl,hm,hmm,_,hi⟩
 · simp at hcs
   exact ⟨none,0,0,[],hcs,rfl,Nat.le_refl _,by simp [maxLen],fun h=>absurd h (by omega)⟩
 · simp at hcs
   have hmm:mm=cap:=by simpa using hmm
   subst hmm
   have hex:∀ i,∃ r:Inp,i<len->(∀ j,j<4->W.cell? (a.add (i*4+j))=(inpL r)[j]?):=fun i=>by
    by_cases hil:i<len
    · obtain ⟨cs',hc',ht'⟩:=hi i (by omega)
      rw [cellsInp] at hc'
      obtain ⟨_,hcl,hat⟩:=World.cells?_some hc'
      obtain ⟨r,rfl⟩:=inp_of_trod Tryz.underlying44 (by kernel_rfl) ⟨rfl,rfl,rfl,rfl⟩ hcl ht'
      exact ⟨r,fun _=>fun j hj=>by rw [<- Go.Deep.add_add];exact hat j hj⟩
    · exact ⟨zx,fun h=>absurd h hil⟩
   obtain ⟨rs,hrl,hrs⟩:∃ rs:List Inp,rs.length=len/\∀ i,i<len->(∀ j,j<4->W.cell? (a.add (i*4+j))=(inpL (rs.getD i zx))[j]?):=by
    refine ⟨(List.range len).map fun i=>Classical.choose (hex i),by simp,fun i hil=>?_⟩
    have hget:((List.range len).map fun i=>Classical.choose (hex i)).getD i zx=Classical.choose (hex i):=by simp [List.getD,hil]
    rw [hget]
    exact Classical.choose_spec (hex i) hil
   refine ⟨some a,len,mm,rs,hcs,hrl,hl,hm,fun hn=>?_⟩
   obtain ⟨b,off,spot⟩:=a
   have h0:=hrs 0 hn 0 (by omega)
   have hspot:spot=none:=by simpa [Addr.add] using World.cell?_spot (h0.trans (rfl:(inpL (rs.getD 0 zx))[0]?=some (.int .i64 (rs.getD 0 zx).k)))
   subst hspot
   have hc:∀ i,i<len->∀ j,j<4->W.cell? ⟨b,off+i*4+j,none⟩=(inpL (rs.getD i zx))[j]?:=fun i hi j hj=>by
    have:=hrs i hi j hj
    rwa [Row.add,<- Nat.add_assoc] at this
   refine ⟨b,off,rfl,?_,fun i hi=>⟨hc i hi 0 (by omega),hc i hi 1 (by omega),hc i hi 2 (by omega),hc i hi 3 (by omega)⟩⟩
   exact World.block_lt_of_cell? W ⟨b,off+0*4+0,none⟩ ((hc 0 hn 0 (by omega)).trans (rfl:(inpL (rs.getD 0 zx))[0]?=some (.int .i64 (rs.getD 0 zx).k)))
def RowLI (w:World)(B:Nat)(a:Option Addr)(n c:Nat)(ls:List (List Inp)):Prop :=
 ls.length=n/\n<=c/\c<=maxLen /\
 (0<n->∃ b off,a=some ⟨b,off,none⟩/\b<B/\∀ i,i<n->∃ ai ni ci,w.cell? ⟨b,off+i,none⟩=some (.slice ai ni ci)/\RowI w B ai ni ci (ls.getD i []))
theorem RowLI.below {w w':World}{B n c:Nat}{a:Option Addr}{ls:List (List Inp)}(h:RowLI w B a n c ls)(hb:Below B w w'):RowLI w' B a n c ls:=by
 obtain ⟨h1,h2,h3,h4⟩:=h
 refine ⟨h1,h2,h3,fun hn=>?_⟩
 obtain ⟨b,off,e,hB,hc⟩:=h4 hn
 refine ⟨b,off,e,hB,fun i hi=>?_⟩
 obtain ⟨ai,ni,ci,h5,h6⟩:=hc i hi
 exact ⟨ai,ni,ci,(hb.cell (p:=⟨b,off+i,none⟩) hB).trans h5,h6.below hb⟩
theorem RowLI.mono {w:World}{B B' n c:Nat}{a:Option Addr}{ls:List (List Inp)}(h:RowLI w B a n c ls)(hB:B<=B'):RowLI w B' a n c ls:=by
 obtain ⟨h1,h2,h3,h4⟩:=h
 refine ⟨h1,h2,h3,fun hn=>?_⟩
 obtain ⟨b,off,e,hb,hc⟩:=h4 hn
 refine ⟨b,off,e,by omega,fun i hi=>?_⟩
 obtain ⟨ai,ni,ci,h5,h6⟩:=hc i hi
 exact ⟨ai,ni,ci,h5,h6.mono hB⟩
theorem RowLI.cells {w:World}{B n c:Nat}{a:Option Addr}{ls:List (List Inp)}(h:RowLI w B a n c ls)(hn:0<n):∃ b off,a=some ⟨b,off,none⟩/\b<B/\∀ i,i<n->∃ ai ni ci,w.cell? ⟨b,off+i,none⟩=some (.slice ai ni ci)/\RowI w B ai ni ci (ls.getD i []):=h.2.2.2 hn
theorem cellsInps:Tryz.prog.cellsOf 35=1:=by kernel_rfl
theorem open_rowsInp {H:Type}{enc:TypeId × Value->H}{W:World}{b0:Nat}{v:Value}{d:DataW H}{ps:List MemPlace}
 (hv:Value.okWide Tryz.prog W .any b0 29 v) (h:DataW.Trod enc Tryz.prog W 0 (fun _=>true) true 29 v d ps):∃ a n k ls,v=.slice a n k/\RowLI W W.heap.size a n k ls:=by
 obtain ⟨a0,n0,k0,rfl⟩:=okWide_slice Tryz.underlying29 hv
 obtain ⟨fuel,hf⟩:=h
 rcases open_slice Tryz.underlying29 hf with ⟨hcs,_⟩|⟨a,len,cap,mm,n,D,Pl,hcs,_,hl,hm,hmm,_,hi⟩
 · simp [Value.cells] at hcs
   obtain ⟨rfl,rfl,rfl⟩:=hcs
   exact ⟨none,0,0,[],rfl,rfl,Nat.le_refl _,by simp [maxLen],fun h=>absurd h (by omega)⟩
 · simp [Value.cells] at hcs
   obtain ⟨rfl,rfl,rfl⟩:=hcs
   have hmm:mm=k0:=by simpa using hmm
   subst hmm
   have hex:∀ i,∃ r:List Inp,i<n0->∃ ai ni ci,W.cell? (a.add i)=some (.slice ai ni ci)/\RowI W W.heap.size ai ni ci r:=fun i=>by
    by_cases hil:i<n0
    · obtain ⟨cs',hc',ht'⟩:=hi i (by omega)
      rw [cellsInps] at hc'
      obtain ⟨_,hcl,hat⟩:=World.cells?_some hc'
      match cs',hcl,hat,ht' with
      | [c],_,hat,ht' =>
        obtain ⟨ai,ni,ci,r,rfl,hr⟩:=rowI_of_trod ht'
        refine ⟨r,fun _=>⟨ai,ni,ci,?_,hr⟩⟩
        have:=hat 0 (by omega)
        simpa [Addr.add] using this
    · exact ⟨[],fun h=>absurd h hil⟩
   obtain ⟨rs,hrl,hrs⟩:∃ rs:List (List Inp),rs.length=n0/\∀ i,i<n0->∃ ai ni ci,W.cell? (a.add i)=some (.slice ai ni ci)/\RowI W W.heap.size ai ni ci (rs.getD i []):=by
    refine ⟨(List.range n0).map fun i=>Classical.choose (hex i),by simp,fun i hil=>?_⟩
    have hget:((List.range n0).map fun i=>Classical.choose (hex i)).getD i []=Classical.choose (hex i):=by simp [List.getD,hil]
    rw [hget]
    exact Classical.choose_spec (hex i) hil
   refine ⟨some a,n0,mm,rs,rfl,hrl,hl,hm,fun hn=>?_⟩
   obtain ⟨b,off,spot⟩:=a
   obtain ⟨_,_,_,h0,_⟩:=hrs 0 hn
   have hspot:spot=none:=by simpa [Addr.add] using World.cell?_spot h0
   subst hspot
   refine ⟨b,off,rfl,by simpa [Addr.add] using World.block_lt_of_cell? W _ h0,fun i hi=>?_⟩
   obtain ⟨ai,ni,ci,h1,h2⟩:=hrs i hi
   rw [Row.add] at h1
   exact ⟨ai,ni,ci,h1,h2⟩
end Go.Proofs.YtknnnbpgkfaapaaGreat.Vm
