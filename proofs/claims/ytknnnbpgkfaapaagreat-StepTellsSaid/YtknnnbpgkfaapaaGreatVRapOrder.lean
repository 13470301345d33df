import Derived.Test.YtknnnbpgkfaapaaGreatQ
import Derived.Test.YtknnnbpgkfaapaaGreatVRefRobot6
import Derived.Test.YtknnnbpgkfaapaaGreatVApplyHead
import Derived.Test.YtknnnbpgkfaapaaGreatVRefFinds
import Derived.Test.YtknnnbpgkfaapaaGreatVInChecksB
import Derived.Lib.AppendZeros
set_option maxRecDepth 100000
set_option linter.unusedSimpArgs false
set_option linter.unusedVariables false
namespace Go.Proofs.YtknnnbpgkfaapaaGreat.Vm
open Go Go.RowKit
theorem rap_err {w w5:World}{B b:Nat}{h:Sh}{s:St}(hin:StIn w w.heap.size h s)(hb:Below w.heap.size w w5)(hB:w.heap.size<=b)(v0 v1 v2 v3:Value)(o:Obj) :
 Fine ((((((w5.setCell ⟨b,0,none⟩ v0).setCell ⟨b,1,none⟩ v1).setCell ⟨b,2,none⟩ v2).setCell ⟨b,3,none⟩ v3)).alloc o) h s w.heap.size h s/\Below w.heap.size w ((((((w5.setCell ⟨b,0,none⟩ v0).setCell ⟨b,1,none⟩ v1).setCell ⟨b,2,none⟩ v2).setCell ⟨b,3,none⟩ v3)).alloc o):=by
 have hb4:=zah hb hB v0 v1 v2 v3
 exact ⟨.inl ⟨rfl,rfl⟩,hb4.alloc hb4.size o⟩
set_option maxHeartbeats 4000000 in
theorem rap_none (W H:Int)(g:ByteArray)(h:Sh)(s:St)(x:Inp)(w:World)(hin:StIn w w.heap.size h s)(hn1:h.n1<=100000)(hn2:h.n2<=100000)(hn3:h.n3<=100000)(hk:¬ (1<=x.k/\x.k<=6)) :
 Calls Tryz.prog 47 #[zam W H g,shV h,inpV x] w fun e w'=>∃ h',e=.returned (.tuple #[shV h',.int .i64 3])/\Fine w' h s w.heap.size h' s/\Below w.heap.size w w':=by
 obtain ⟨w4,hw4,hB4,hz4,hg4,hs4,hx4,hq4,hf4⟩:=gsxz_head w W H g h x
 have HCP:=qz (rcopy_any h s w.heap.size w4 (hin.below hB4) (by omega) hn1 hn2 hn3)
 have HW:=qz hw4
 have HB4:=qz hB4
 have HS4:=qz hs4
 have HX4:=qz hx4
 have HQ4:=qz hq4
 have HF4:=qz hf4
 have HIN:=qz hin
 have k1:(x.k==1)=false:=by simp;omega
 have k2:(x.k==2)=false:=by simp;omega
 have k3:(x.k==3)=false:=by simp;omega
 have k4:(x.k==4)=false:=by simp;omega
 have k5:(x.k==5)=false:=by simp;omega
 have k6:(x.k==6)=false:=by simp;omega
 obtain ⟨t,a1,n1,c1,a2,n2,c2,a3,n3,c3⟩:=h
 obtain ⟨xk,xa,xb,xc⟩:=x
 obtain ⟨s0,s1,s2,s3⟩:=hs4
 obtain ⟨x0,x1,x2,x3⟩:=hx4
 simp only [] at s0 s1 s2 s3 x0 x1 x2 x3 k1 k2 k3 k4 k5 k6
 clear hin hw4 hB4 hg4 hq4 hf4 hk
 go_enter Tryz.func47,Tryz.ntmps47
 go_wp2_with fail
 rw [<- HW.out]
 refine HCP.out.mono ?_
 rintro e w5 ⟨h1,rfl,hc5,hb5⟩
 have hz5:=hb5.size
 obtain ⟨s0',s1',s2',s3'⟩:=HS4.out.below hb5 (by omega)
 obtain ⟨x0',x1',x2',x3'⟩:=HX4.out.below hb5 (by omega)
 obtain ⟨q0,q1,q2,q3⟩:=HQ4.out.below hb5 (by omega)
 simp only [] at s0' s1' s2' s3' x0' x1' x2' x3' q0 q1 q2 q3
 have f0:=(hb5.frozen (p:=⟨w.heap.size+1+1+1,0,none⟩) (show w.heap.size+1+1+1<w4.heap.size by omega)).trans (HF4.out 0)
 have f1:=(hb5.frozen (p:=⟨w.heap.size+1+1+1,1,none⟩) (show w.heap.size+1+1+1<w4.heap.size by omega)).trans (HF4.out 1)
 have f2:=(hb5.frozen (p:=⟨w.heap.size+1+1+1,2,none⟩) (show w.heap.size+1+1+1<w4.heap.size by omega)).trans (HF4.out 2)
 have f3:=(hb5.frozen (p:=⟨w.heap.size+1+1+1,3,none⟩) (show w.heap.size+1+1+1<w4.heap.size by omega)).trans (HF4.out 3)
 have hl1:w.heap.size+1<w5.heap.size:=by omega
 have hl2:w.heap.size+1+1<w5.heap.size:=by omega
 have hl3:w.heap.size+1+1+1<w5.heap.size:=by omega
 obtain ⟨t',b1,m1,d1,b2,m2,d2,b3,m3,d3⟩:=h1
 have HR:=qz (rap_err (B:=0) (b:=w.heap.size+1+1+1) HIN.out (HB4.out.trans (hb5.mono HB4.out.size)) (by omega) (.int .i64 t) (.slice a1 n1 c1) (.slice a2 n2 c2) (.slice a3 n3 c3) (shO ⟨t',b1,m1,d1,b2,m2,d2,b3,m3,d3⟩))
 have HZ4:=qz hz4
 clear s0 s1 s2 s3 x0 x1 x2 x3 hb5 hc5 HCP hz4
 go_wp2_with fail
 refine bodyPost_ret (v:=.tuple #[shV ⟨t,a1,n1,c1,a2,n2,c2,a3,n3,c3⟩,.int .i64 3]) (by simp [results,Tryz.results47,go_sem,q0,q1,q2,q3,hl3]) rfl ⟨_,rfl,?_⟩
 exact HR.out
theorem rap_err0 {w w5:World}{b:Nat}{h:Sh}{s:St}(hin:StIn w w.heap.size h s)(hb:Below w.heap.size w w5)(hB:w.heap.size<=b)(v0 v1 v2 v3:Value) :
 Fine (((((w5.setCell ⟨b,0,none⟩ v0).setCell ⟨b,1,none⟩ v1).setCell ⟨b,2,none⟩ v2).setCell ⟨b,3,none⟩ v3)) h s w.heap.size h s/\Below w.heap.size w (((((w5.setCell ⟨b,0,none⟩ v0).setCell ⟨b,1,none⟩ v1).setCell ⟨b,2,none⟩ v2).setCell ⟨b,3,none⟩ v3)) :=
 ⟨.inl ⟨rfl,rfl⟩,zah hb hB v0 v1 v2 v3⟩
theorem copy0_append {w:World}{B:Nat}{h:Sh}{s:St}(m:Copy0 w B h s)(t:Rec){ad:Addr}(hc:∀ j u,(recs [t])[j]?=some u->w.cell? (ad.add j)=some u)(hlen:s.ts.length<=90000)(hB:B<=w.heap.size)(ty:TypeId) :
 ∃ a' c' w',(Builtin.append_ #[25,25] ty #[.slice h.a2 h.n2 h.c2,.slice (some ad) 1 1]).run Tryz.prog w=.ok (.slice a' (h.n2+1) c') w' /\
   Copy0 w' B ⟨h.t,h.a1,h.n1,h.c1,a',h.n2+1,c',h.a3,h.n3,h.c3⟩ ⟨s.tick,s.rs,s.ts++[t],s.bl⟩/\(∀ b,StB w b->StB w' b/\w'.heap[b]?=w.heap[b]?)/\Below B w w':=by
 rcases m.ts with ho|⟨hnil,a,hv⟩
 · obtain ⟨v',w',hrun,hown,hg⟩:=run_append_t ty ho hc rfl (by simp;omega) hB
   obtain ⟨a',c',rfl⟩:=hown.slice
   have hl:(s.ts++[t]).length=h.n2+1:=by rw [List.length_append,m.n2];rfl
   rw [hl] at hown hrun
   have hsb:∀ b,StB w b->StB w' b/\w'.heap[b]?=w.heap[b]?:=fun b ⟨cs,hb⟩=>by
    have e:=hg.block b (Array.getElem?_eq_some_iff.1 hb).1 (zbb ho hb (by decide)).symm
    exact ⟨⟨cs,e.trans hb⟩,e⟩
   refine ⟨a',c',w',hrun,⟨m.tick,m.rs.imp (fun h1=>World.ownsRow.kept h1 hg (zbu ho h1 (by decide))) id,.inl hown,m.bl.imp (fun h1=>World.ownsRow.kept h1 hg (zbu ho h1 (by decide))) id,m.n1,hl.symm,m.n3⟩,hsb,(zX _ _).grown hg hB (fun k hk=>(World.ownsRow.lt ho k hk).1)⟩
 · injection hv with e1 e2 e3
   obtain ⟨v',w',hrun,hown,hg⟩:∃ v' w',(Builtin.append_ #[25,25] ty #[.slice h.a2 h.n2 h.c2,.slice (some ad) 1 1]).run Tryz.prog w=.ok v' w'/\OwnR w' B 48 v' [t]/\Below w.heap.size w w':=by
    rw [e2,e3]
    obtain ⟨i0,hi0,hz0,hz1,hz2⟩:=info_parts info_task
    cases h.a2 with
    | none =>
      obtain ⟨v',w',hrun,hown,hg⟩:=run_append_t ty (ownR_nil w B 48) hc rfl (by simp) hB
      exact ⟨v',w',hrun,hown,⟨hg.os,hg.tape,hg.output,hg.size,fun k hk=>hg.block k hk (by simp [Value.ownBlock])⟩⟩
    | some ad0 =>
      have hrun:=run_append_grow (P:=Tryz.prog) (w:=w) 25 ty 48 i0 _ Tryz.underlying25 hi0 hz0 ad0 0 0 [] (by simp) (by simp) ad 1 1 (recs [t]) (by rw [zbj,hz1];rfl) hc (by omega) (by omega) (growslice_fits (by omega) (by rw [hz2];omega))
      rw [Nat.zero_add] at hrun
      refine ⟨_,_,hrun,?_,((zX _ _).drew).alloc (zL _) _⟩
      refine ⟨zbj [t],.inr ⟨w.heap.size,_,_,rfl,hB,heap_alloc_new w.drew _,grownCap_ge w 1 0 _,grownCap_le_maxLen w 1 0 _ (by unfold maxLen;omega),?_,?_⟩⟩
      · have:=grownCap_ge w 1 0 48
        simp [Builtin.zeroCells,Value.cells,zbj]
        omega
      · rw [<- zbj]
        simp only [Array.toList_append]
        exact List.take_left' (by simp)
   obtain ⟨a',c',rfl⟩:=hown.slice
   have hl:(s.ts++[t]).length=h.n2+1:=by rw [hnil,e2];rfl
   have hl1:([t]:List Rec).length=h.n2+1:=by rw [e2];rfl
   rw [hl1] at hown hrun
   exact ⟨a',c',w',hrun,⟨m.tick,m.rs.calls hg,.inl (by rw [hnil];exact hown),m.bl.calls hg,m.n1,hl.symm,m.n3⟩,fun b hb=>⟨hb.calls hg,by obtain ⟨cs,hb⟩:=hb;exact hg.block b (Array.getElem?_eq_some_iff.1 hb).1⟩,hg.mono hB⟩
end Go.Proofs.YtknnnbpgkfaapaaGreat.Vm
namespace Go.Proofs.YtknnnbpgkfaapaaGreat.Vm
open Go Go.RowKit
theorem low_app (l:List Int)(c a:Int):lowZ (l++[c]) a=lowZ l a+if c<a then 1 else 0:=by
 unfold lowZ
 rw [List.countP_append,List.countP_singleton]
 simp
theorem ins_app {l:List Int}{c a:Int}(h:¬ c<a):insZ (l++[c]) a=insZ l a++[c]:=by
 have h1:lowZ (l++[c]) a=lowZ l a:=by rw [low_app,if_neg h,Nat.add_zero]
 have h2:=low_le l a
 unfold insZ
 rw [h1,List.take_append_of_le_length h2,List.drop_append_of_le_length h2]
 simp
theorem ins_all {l:List Int}{a:Int}(h:lowZ l a=l.length):insZ l a=l++[a]:=by
 unfold insZ
 rw [h,List.take_length,List.drop_length]
theorem take_z {l:List Int}{k:Nat}(h:k<l.length):l.take (k+1)=l.take k++[l.getD k 0]:=by
 rw [List.take_succ_eq_append_getElem h]
 simp [List.getD,h]
def outB (bl:List Int)(a:Int)(k:Nat):List Int:=if lowZ (bl.take k) a=k then bl.take k else insZ (bl.take k) a
def outC (bl:List Int)(a:Int)(k:Nat):List Int:=(bl.take k).filter (fun y=>decide (y≠a))
theorem outC_more {bl:List Int}{a:Int}{k:Nat}(hk:k<bl.length)(h:bl.getD k 0≠a):outC bl a (k+1)=outC bl a k++[bl.getD k 0]:=by
 unfold outC
 rw [take_z hk,List.filter_append,List.filter_cons_of_pos (by simpa using h)]
 rfl
theorem outC_same {bl:List Int}{a:Int}{k:Nat}(hk:k<bl.length)(h:bl.getD k 0=a):outC bl a (k+1)=outC bl a k:=by
 unfold outC
 rw [take_z hk,List.filter_append,List.filter_cons_of_neg (by simpa using h)]
 simp
theorem outC_len (bl:List Int)(a:Int)(k:Nat):(outC bl a k).length<=k :=
 Nat.le_trans (List.length_filter_le _ _) (by rw [List.length_take];omega)
theorem outC_all {bl:List Int}{a:Int}{n:Nat}(hn:bl.length=n)(hp:bl.Pairwise (·<·))(hm:a∈bl):outC bl a n=delZ bl a:=by
 unfold outC
 rw [del_filter hp hm,List.take_of_length_le (by omega)]
theorem low_take {bl:List Int}{a:Int}{k:Nat}(hp:bl.Pairwise (·<·))(hk:k<bl.length)(h:bl.getD k 0<a):lowZ (bl.take (k+1)) a=k+1:=by
 have hl:(bl.take (k+1)).length=k+1:=by rw [List.length_take];omega
 unfold lowZ
 conv=>rhs;rw [<- hl]
 rw [List.countP_eq_length]
 intro y hy
 obtain ⟨i,hi,rfl⟩:=List.mem_iff_getElem.1 hy
 rw [hl] at hi
 rw [List.getElem_take]
 have hk':bl.getD k 0=bl[k]:=by simp [List.getD,hk]
 rw [hk'] at h
 simp only [decide_eq_true_eq]
 rcases Nat.lt_or_ge i k with h1|h1
 · have:=List.pairwise_iff_getElem.1 hp i k (by omega) hk h1
   omega
 · have:i=k:=by omega
   subst this
   exact h
theorem low_not {bl:List Int}{a:Int}{k:Nat}(hk:k<bl.length)(h:¬ bl.getD k 0<a):lowZ (bl.take (k+1)) a≠k+1:=by
 rw [take_z hk,low_app,if_neg h]
 have:=low_le (bl.take k) a
 rw [List.length_take] at this
 omega
theorem outB_lt {bl:List Int}{a:Int}{k:Nat}(hp:bl.Pairwise (·<·))(hk:k<bl.length)(h:bl.getD k 0<a):outB bl a (k+1)=outB bl a k++[bl.getD k 0]:=by
 have h1:lowZ (bl.take k) a=k:=by
  have h2:=low_take hp hk h
  rw [take_z hk,low_app,if_pos h] at h2
  omega
 unfold outB
 rw [if_pos (low_take hp hk h),if_pos h1,take_z hk]
theorem outB_in {bl:List Int}{a:Int}{k:Nat}(hp:bl.Pairwise (·<·))(hk:k<bl.length)(h:a<bl.getD k 0)(h0:k=0\/∃ j,k=j+1/\bl.getD j 0<a):outB bl a (k+1)=(outB bl a k++[a])++[bl.getD k 0]:=by
 have h1:lowZ (bl.take k) a=k:=by
  rcases h0 with rfl|⟨j,rfl,hj⟩
  · simp [lowZ]
  · exact low_take hp (by omega) hj
 unfold outB
 rw [if_neg (low_not hk (by omega)),if_pos h1,take_z hk,ins_app (by omega),ins_all (by rw [h1,List.length_take];omega)]
theorem outB_gt {bl:List Int}{a:Int}{j:Nat}(hk:j+1<bl.length)(h:a<bl.getD (j+1) 0)(h0:¬ bl.getD j 0<a):outB bl a (j+1+1)=outB bl a (j+1)++[bl.getD (j+1) 0]:=by
 unfold outB
 rw [if_neg (low_not hk (by omega)),if_neg (low_not (by omega) h0),take_z hk,ins_app (by omega)]
theorem outB_len (bl:List Int)(a:Int)(k:Nat):(outB bl a k).length<=k+1:=by
 unfold outB
 split
 · rw [List.length_take];omega
 · unfold insZ
   have:=low_le (bl.take k) a
   simp [List.length_take]
   omega
theorem outB_all {bl:List Int}{a:Int}{n:Nat}(hn:bl.length=n):((outB bl a n).length=n/\outB bl a n++[a]=insZ bl a)\/((outB bl a n).length≠n/\outB bl a n=insZ bl a):=by
 have ht:bl.take n=bl:=List.take_of_length_le (by omega)
 unfold outB
 rw [ht]
 split
 · rename_i h
   exact .inl ⟨hn,(ins_all (by rw [h,hn])).symm⟩
 · refine .inr ⟨?_,rfl⟩
   have:=low_le bl a
   unfold insZ
   simp
   omega
structure Outs (w8 wr:World)(b:Nat)(h:Sh)(l:List Int):Prop where
 st:StAt wr b h
 fz:wr.frozen? ⟨b,3,none⟩=false
 own:OwnZ wr (b+1) (.slice h.a3 h.n3 h.c3) l
 bel:Below b w8 wr
 lt:b<wr.heap.size
theorem stAt_set3 {V:World}{b n' c':Nat}{a':Option Addr}{h:Sh}(s:StAt V b h):StAt (V.setCell ⟨b,3,none⟩ (.slice a' n' c')) b ⟨h.t,h.a1,h.n1,h.c1,h.a2,h.n2,h.c2,a',n',c'⟩:=by
 obtain ⟨h0,h1,h2,h3⟩:=s
 refine ⟨?_,?_,?_,?_⟩ <;> simp [go_sem,h0,h1,h2,h3]
theorem Outs.keep {w8 wr V:World}{b:Nat}{h:Sh}{l:List Int}(o:Outs w8 wr b h l)(hb:Below wr.heap.size wr V):Outs w8 V b h l :=
 ⟨o.st.below hb o.lt,(hb.frozen (p:=⟨b,3,none⟩) o.lt).trans o.fz,zbp o.own hb (fun k hk=>(World.ownsRow.lt o.own k hk).2),o.bel.trans (hb.mono (Nat.le_of_lt o.lt)),Nat.lt_of_lt_of_le o.lt hb.size⟩
theorem Outs.push {w8 wr V:World}{b m' c':Nat}{a':Option Addr}{h:Sh}{l l':List Int}(o:Outs w8 wr b h l)(hb:Below (b+1) wr V)(hown:OwnZ V (b+1) (.slice a' m' c') l'):Outs w8 (V.setCell ⟨b,3,none⟩ (.slice a' m' c')) b ⟨h.t,h.a1,h.n1,h.c1,h.a2,h.n2,h.c2,a',m',c'⟩ l':=by
 refine ⟨stAt_set3 (o.st.below hb (by omega)),?_,ownsRow_setCell_below hown (a:=⟨b,3,none⟩) (show b<b+1 by omega) _,(o.bel.trans (hb.mono (by omega))).setCell (p:=⟨b,3,none⟩) (zL _) _,?_⟩
 · rw [World.frozen?_setCell]
   exact (hb.frozen (p:=⟨b,3,none⟩) (show b<b+1 by omega)).trans o.fz
 · have:=hb.size
   have:=o.lt
   simp [World.setCell]
   omega
theorem Outs.start {w8:World}{b:Nat}{h:Sh}(hs:StAt w8 b h)(hf:w8.frozen? ⟨b,3,none⟩=false)(hlt:b<w8.heap.size):Outs w8 (w8.setCell ⟨b,3,none⟩ (.slice none 0 0)) b ⟨h.t,h.a1,h.n1,h.c1,h.a2,h.n2,h.c2,none,0,0⟩ [] :=
 ⟨stAt_set3 hs,by rw [World.frozen?_setCell];exact hf,World.ownsRow_nil _ _ _ _,(zX _ _).setCell (p:=⟨b,3,none⟩) (zL _) _,by simpa [World.setCell] using hlt⟩
theorem OwnZ.len {w:World}{B m c:Nat}{a:Option Addr}{l:List Int}(h:OwnZ w B (.slice a m c) l):m=l.length:=by
 obtain ⟨a',c',e,_⟩:=h.row
 injection e with _ e
theorem one_rowZ (w:World)(y:Int)(t:TypeId):RowZ .i64 (w.alloc (.cells #[.int .i64 y] t)) (w.heap.size+1) (some ⟨w.heap.size,0,none⟩) 1 1 [y]:=by
 refine ⟨rfl,zL _,by unfold maxLen;omega,fun _=>⟨w.heap.size,0,rfl,by omega,fun i hi=>?_⟩⟩
 obtain rfl:i=0:=by omega
 simp
theorem run_push {w:World}(ty:TypeId){B av m cv}{l:List Int}(hown:OwnZ w B (.slice av m cv) l){ad:Addr}{y:Int}{B2:Nat}(hr:RowZ .i64 w B2 (some ad) 1 1 [y])(hlen:l.length<=900000)(hB:B<=w.heap.size) :
 ∃ a' m' c' w',(Builtin.append_ #[26,26] ty #[.slice av m cv,.slice (some ad) 1 1]).run Tryz.prog w=.ok (.slice a' m' c') w'/\OwnZ w' B (.slice a' m' c') (l++[y])/\Below B w w':=by
 obtain ⟨v',w',hrun,hown',hb⟩:=run_append_z ty hown hr (by omega) hB
 obtain ⟨a',c',rfl,_⟩:=hown'.row
 exact ⟨a',_,c',w',hrun,hown',hb⟩
theorem step_push {ops:Array Oper}{o:Oper}{a:Act}{w:World}{K:Act->World->Prop}{Q:Exit->Act->World->Prop}{E:Prop}(hgd:o.guard=none)(s x:Operand)
 (ho:o.op=.call { callee:=.builtin .append,args:=#[s,x],argTypes:=#[26,26] })
 {B:Nat} {av:Option Addr} {m cv:Nat} {out:List Int} (hs:a.eval s=.slice av m cv) (hown:OwnZ w B (.slice av m cv) out) {ad:Addr} {B2:Nat} {y:Int} (hx:a.eval x=.slice (some ad) 1 1) (hr:RowZ .i64 w B2 (some ad) 1 1 [y])
 (hlen:out.length<=900000) (hB:B<=w.heap.size) (h:∀ a' m' c' w',OwnZ w' B (.slice a' m' c') (out++[y])->Below B w w'->K (a.put o.dst (.slice a' m' c')) w') :
 if Region.wanted o (yielded ops a.tmps)=true then Oper.wp Tryz.prog o a w K Q else E :=
 step_append_z hgd s x ho hs hown hx hr (by omega) hB fun v' w' h1 h2=>by
  obtain ⟨a',c',rfl,_⟩:=h1.row
  exact h a' _ c' w' h1 h2
set_option maxHeartbeats 4000000 in
theorem rap_order (W H:Int)(g:ByteArray)(h:Sh)(s:St)(x:Inp)(w:World)(hg:g.size<=maxLen)(hin:StIn w w.heap.size h s)(hn1:h.n1<=90000)(hn2:h.n2<=90000)(hn3:h.n3<=90000)(hk:x.k=1) :
 Calls Tryz.prog 47 #[zam W H g,shV h,inpV x] w fun e w'=>∃ h',e=.returned (.tuple #[shV h',.int .i64 (codeO (zac (zaa g)) s x)])/\Fine w' h s w.heap.size h' (if codeO (zac (zaa g)) s x=0 then turnO s x else s)/\Below w.heap.size w w':=by
 obtain ⟨w4,hw4,hB4,hz4,hg4,hs4,hx4,hq4,hf4⟩:=gsxz_head w W H g h x
 have HCP:=qz (rcopy_any h s w.heap.size w4 (hin.below hB4) (by omega) (by omega) (by omega) (by omega))
 obtain ⟨code,hcode⟩:∃ code,codeO (zac (zaa g)) s x=code:=⟨_,rfl⟩
 obtain ⟨res,hres⟩:∃ res,(if codeO (zac (zaa g)) s x=0 then turnO s x else s)=res:=⟨_,rfl⟩
 rw [hres,hcode]
 rw [hcode] at hres
 have HR0:Hid (code=0->res=turnO s x):=fun h=>by rw [<- hres,if_pos h]
 have HR1:Hid (code≠0->res=s):=fun h=>by rw [<- hres,if_neg h]
 clear hres
 have HFL:=qz fun (c:Int) (V:World)=>zaw W H c g V hg
 have HC1:Hid (_->code=1):=fun h=>hcode.symm.trans (codeO_1 h)
 have HC5:Hid (_->_->_->code=5):=fun h h2 h3=>hcode.symm.trans (codeO_5 h h2 h3)
 have HCN:Hid (_->_->_->_->code=_):=fun h h2 h3 h4=>hcode.symm.trans (codeO_n h h2 h3 h4)
 have HFD:=qz fun (V:World) (hV:Below w.heap.size w V)=>rfind_any h s.ts x.a w.heap.size V (hin.ts.below hV) hV.size
 have HTO:Hid (turnO s x=⟨s.tick,s.rs,s.ts++[⟨x.a,x.b,x.c,1,-1⟩],s.bl⟩):=rfl
 clear hcode
 have HQB4:Hid (StB w4 (w.heap.size+1+1+1)):=by
  obtain ⟨u,hu,hbu,zu,_⟩:=gsx_head w W H g h x
  refine ⟨#[.int .i64 0,.slice none 0 0,.slice none 0 0,.slice none 0 0],?_⟩
  rw [hw4,<- hu,show w.heap.size+1+1+1=u.heap.size by omega]
  exact heap_alloc_new u _
 have HW:=qz hw4
 have HB4:=qz hB4
 have HG4:=qz hg4
 have HS4:=qz hs4
 have HX4:=qz hx4
 have HQ4:=qz hq4
 have HF4:=qz hf4
 have HIN:=qz hin
 have HN1:=qz hin.rs.1
 have HN2:=qz hin.ts.1
 have hnm1:=hin.rs.len
 have hnm2:=hin.ts.len
 unfold maxLen at hnm1 hnm2
 obtain ⟨t,a1,n1,c1,a2,n2,c2,a3,n3,c3⟩:=h
 obtain ⟨xk,xa,xb,xc⟩:=x
 obtain ⟨s0,s1,s2,s3⟩:=hs4
 obtain ⟨x0,x1,x2,x3⟩:=hx4
 simp only [] at s0 s1 s2 s3 x0 x1 x2 x3 hk hn1 hn2 hn3 HN1 HN2 hnm1 hnm2 HC1 HC5 HCN HFD HTO
 subst hk
 clear hin hw4 hB4 hg4 hq4 hf4 hg
 go_enter Tryz.func47,Tryz.ntmps47
 go_wp2_with fail
 rw [<- HW.out]
 refine HCP.out.mono ?_
 rintro e w5 ⟨h1,rfl,hc5,hb5⟩
 have hz5:=hb5.size
 have HW5:=qz (HB4.out.trans (hb5.mono HB4.out.size))
 have HG5:=qz (HG4.out.below hb5 (by omega))
 have HS5:=qz (HS4.out.below hb5 (by omega))
 have HX5:=qz (HX4.out.below hb5 (by omega))
 have HQ5:=qz (HQ4.out.below hb5 (by omega))
 have HF5:Hid (∀ i,w5.frozen? ⟨w.heap.size+1+1+1,i,none⟩=false):=fun i=>(hb5.frozen (p:=⟨w.heap.size+1+1+1,i,none⟩) (show w.heap.size+1+1+1<w4.heap.size by omega)).trans (HF4.out i)
 have HZ4:=qz hz4
 have hl0:w.heap.size<w5.heap.size:=by omega
 have hl1:w.heap.size+1<w5.heap.size:=by omega
 have hl2:w.heap.size+1+1<w5.heap.size:=by omega
 have hl3:w.heap.size+1+1+1<w5.heap.size:=by omega
 have hba:Below w5.heap.size w5 (w5.alloc (shO h1)):=(zX _ _).alloc (zL _) _
 obtain ⟨w6,hw6⟩:∃ w6,w6=w5.alloc (shO h1):=⟨_,rfl⟩
 have hz6:w6.heap.size=w5.heap.size+1:=by rw [hw6];simp
 have hob:StB w6 w5.heap.size:=⟨_,by rw [hw6];exact heap_alloc_new w5 _⟩
 have hoa:StAt w6 w5.heap.size h1:=by rw [hw6];exact zbo w5 h1
 have hof:∀ i,w6.frozen? ⟨w5.heap.size,i,none⟩=false:=fun i=>by rw [hw6];simp
 rw [<- hw6] at hba
 have HW6:=qz hw6
 have HBW6:=qz (HW5.out.trans (hba.mono HW5.out.size))
 have HC6:=qz (hc5.calls hba)
 have HOB:=qz hob
 have HOA:=qz hoa
 have HOF:=qz hof
 have HG6:=qz (HG5.out.below hba (by omega))
 have HS6:=qz (HS5.out.below hba (by omega))
 have HX6:=qz (HX5.out.below hba (by omega))
 have HQ6:=qz (HQ5.out.below hba (by omega))
 have HF6:Hid (∀ i,w6.frozen? ⟨w.heap.size+1+1+1,i,none⟩=false):=fun i=>(hba.frozen (p:=⟨w.heap.size+1+1+1,i,none⟩) (show w.heap.size+1+1+1<w5.heap.size by omega)).trans (HF5.out i)
 have HZ6:=qz hz6
 have HZ5:Hid (w4.heap.size<=w5.heap.size):=hz5
 have HQB:=qz ((HQB4.out.calls hb5).calls hba)
 obtain ⟨g0,g1,g2⟩:=id HG5.out
 obtain ⟨x0',x1',x2',x3'⟩:=id HX5.out
 obtain ⟨s0',s1',s2',s3'⟩:=id HS5.out
 obtain ⟨q0,q1,q2,q3⟩:=id HQ5.out
 have f0:=HF5.out 0
 have f1:=HF5.out 1
 have f2:=HF5.out 2
 have f3:=HF5.out 3
 obtain ⟨t',b1,m1,d1,b2,m2,d2,b3,m3,d3⟩:=h1
 simp only [] at x0' x1' x2' x3' s0' s1' s2' s3' q0 q1 q2 q3
 clear s0 s1 s2 s3 x0 x1 x2 x3 hb5 hc5 HCP hz4 hz5 hba hw6 hob hoa hof hz6
 obtain ⟨fb,hfb⟩:∃ fb,zac (zaa g) xb=fb:=⟨_,rfl⟩
 obtain ⟨fc,hfc⟩:∃ fc,zac (zaa g) xc=fc:=⟨_,rfl⟩
 have HFB:=qz fun V=>HFL.out xb V
 have HFC:=qz fun V=>HFL.out xc V
 rw [hfb] at HFB
 rw [hfc] at HFC
 rw [hfb,hfc] at HC5 HCN
 clear hfb hfc HFL
 have hsp:(xa<1)\/(1<=xa/\2147483647<xa)\/(1<=xa/\xa<=2147483647):=by omega
 rcases hsp with h1|⟨h1,h2⟩|⟨h1,h2⟩
 · have hc1:=HC1.out (.inl (by omega))
   have HRES:=qz (HR1.out (by omega))
   subst hc1
   clear HR0 HR1 HC1 HC5 HCN HFB HFC HFD
   have HRR:=qz (rap_err (B:=0) HIN.out HW5.out (show w.heap.size<=w.heap.size+1+1+1 by omega) (.int .i64 t) (.slice a1 n1 c1) (.slice a2 n2 c2) (.slice a3 n3 c3) (shO ⟨t',b1,m1,d1,b2,m2,d2,b3,m3,d3⟩))
   go_wp2_with fail
   refine bodyPost_ret (v:=.tuple #[shV ⟨t,a1,n1,c1,a2,n2,c2,a3,n3,c3⟩,.int .i64 1]) (by simp [results,Tryz.results47,go_sem,q0,q1,q2,q3,hl3]) rfl ⟨_,by first|rfl|trivial,?_⟩
   rw [HRES.out]
   exact HRR.out
 · have hc1:=HC1.out (.inl (by omega))
   have HRES:=qz (HR1.out (by omega))
   subst hc1
   clear HR0 HR1 HC1 HC5 HCN HFB HFC HFD
   have h1':¬ xa<1:=by omega
   have HRR:=qz (rap_err (B:=0) HIN.out HW5.out (show w.heap.size<=w.heap.size+1+1+1 by omega) (.int .i64 t) (.slice a1 n1 c1) (.slice a2 n2 c2) (.slice a3 n3 c3) (shO ⟨t',b1,m1,d1,b2,m2,d2,b3,m3,d3⟩))
   go_wp2_with fail
   refine bodyPost_ret (v:=.tuple #[shV ⟨t,a1,n1,c1,a2,n2,c2,a3,n3,c3⟩,.int .i64 1]) (by simp [results,Tryz.results47,go_sem,q0,q1,q2,q3,hl3]) rfl ⟨_,by first|rfl|trivial,?_⟩
   rw [HRES.out]
   exact HRR.out
 have h1':¬ xa<1:=by omega
 have h2':¬ 2147483647<xa:=by omega
 have HH1:Hid (1<=xa/\xa<=2147483647):=⟨h1,h2⟩
 by_cases h3:xb=xc
 · have hc1:=HC1.out (.inr h3)
   have HRES:=qz (HR1.out (by omega))
   subst hc1
   have e3:(xb==xc)=true:=by simpa using h3
   clear HR0 HR1 HC1 HC5 HCN HFB HFC HFD h3
   have HRR:=qz (rap_err (B:=0) HIN.out HW5.out (show w.heap.size<=w.heap.size+1+1+1 by omega) (.int .i64 t) (.slice a1 n1 c1) (.slice a2 n2 c2) (.slice a3 n3 c3) (shO ⟨t',b1,m1,d1,b2,m2,d2,b3,m3,d3⟩))
   go_wp2_with fail
   refine bodyPost_ret (v:=.tuple #[shV ⟨t,a1,n1,c1,a2,n2,c2,a3,n3,c3⟩,.int .i64 1]) (by simp [results,Tryz.results47,go_sem,q0,q1,q2,q3,hl3]) rfl ⟨_,by first|rfl|trivial,?_⟩
   rw [HRES.out]
   exact HRR.out
 have e3:(xb==xc)=false:=by simpa using h3
 have HH3:Hid (xb≠xc):=h3
 clear h3 HC1
 go_wp2_with fail
 rw [<- HW6.out]
 refine (HFB.out _).mono ?_
 rintro e w7 ⟨rfl,hb7⟩
 have HB7:=qz hb7
 clear g0 g1 g2 x0' x1' x2' x3' s0' s1' s2' s3' q0 q1 q2 q3 f0 f1 f2 f3
 have HW7:=qz (HBW6.out.trans (HB7.out.mono HBW6.out.size))
 have HC7:=qz (HC6.out.calls HB7.out)
 have HOB7:=qz (HOB.out.calls HB7.out)
 have HQB7:=qz (HQB.out.calls HB7.out)
 obtain ⟨g0,g1,g2⟩:=HG6.out.below HB7.out (show w.heap.size<w6.heap.size by have:=HZ6.out;omega)
 obtain ⟨x0',x1',x2',x3'⟩:=HX6.out.below HB7.out (show w.heap.size+1+1<w6.heap.size by have:=HZ6.out;omega)
 obtain ⟨s0',s1',s2',s3'⟩:=HS6.out.below HB7.out (show w.heap.size+1<w6.heap.size by have:=HZ6.out;omega)
 obtain ⟨q0,q1,q2,q3⟩:=HQ6.out.below HB7.out (show w.heap.size+1+1+1<w6.heap.size by have:=HZ6.out;omega)
 obtain ⟨o0,o1,o2,o3⟩:=HOA.out.below HB7.out (show w5.heap.size<w6.heap.size by have:=HZ6.out;omega)
 have f0:=(HB7.out.frozen (p:=⟨w.heap.size+1+1+1,0,none⟩) (show w.heap.size+1+1+1<w6.heap.size by have:=HZ6.out;omega)).trans (HF6.out 0)
 have f1:=(HB7.out.frozen (p:=⟨w.heap.size+1+1+1,1,none⟩) (show w.heap.size+1+1+1<w6.heap.size by have:=HZ6.out;omega)).trans (HF6.out 1)
 have f2:=(HB7.out.frozen (p:=⟨w.heap.size+1+1+1,2,none⟩) (show w.heap.size+1+1+1<w6.heap.size by have:=HZ6.out;omega)).trans (HF6.out 2)
 have f3:=(HB7.out.frozen (p:=⟨w.heap.size+1+1+1,3,none⟩) (show w.heap.size+1+1+1<w6.heap.size by have:=HZ6.out;omega)).trans (HF6.out 3)
 simp only [] at x0' x1' x2' x3' s0' s1' s2' s3' q0 q1 q2 q3 o0 o1 o2 o3
 clear hb7 HFB
 cases fb
 · have hc5:=HC5.out HH1.out HH3.out (.inl rfl)
   have HRES:=qz (HR1.out (by omega))
   subst hc5
   clear HR0 HR1 HC5 HCN HFC HFD
   have HRR:=qz (rap_err0 HIN.out HW7.out (show w.heap.size<=w.heap.size+1+1+1 by omega) (.int .i64 t) (.slice a1 n1 c1) (.slice a2 n2 c2) (.slice a3 n3 c3))
   go_wp2_with fail
   refine bodyPost_ret (v:=.tuple #[shV ⟨t,a1,n1,c1,a2,n2,c2,a3,n3,c3⟩,.int .i64 5]) (by simp [results,Tryz.results47,go_sem,q0,q1,q2,q3]) rfl ⟨_,by first|rfl|trivial,?_⟩
   rw [HRES.out]
   exact HRR.out
 go_wp2_with fail
 refine (HFC.out _).mono ?_
 rintro e w8 ⟨rfl,hb8⟩
 have HB8:=qz (HB7.out.trans (hb8.mono HB7.out.size))
 clear g0 g1 g2 x0' x1' x2' x3' s0' s1' s2' s3' q0 q1 q2 q3 f0 f1 f2 f3 o0 o1 o2 o3
 have HW8:=qz (HBW6.out.trans (HB8.out.mono HBW6.out.size))
 have HC8:=qz (HC6.out.calls HB8.out)
 have HOB8:=qz (HOB.out.calls HB8.out)
 have HQB8:=qz (HQB.out.calls HB8.out)
 obtain ⟨g0,g1,g2⟩:=HG6.out.below HB8.out (show w.heap.size<w6.heap.size by have:=HZ6.out;omega)
 obtain ⟨x0',x1',x2',x3'⟩:=HX6.out.below HB8.out (show w.heap.size+1+1<w6.heap.size by have:=HZ6.out;omega)
 obtain ⟨s0',s1',s2',s3'⟩:=HS6.out.below HB8.out (show w.heap.size+1<w6.heap.size by have:=HZ6.out;omega)
 obtain ⟨q0,q1,q2,q3⟩:=HQ6.out.below HB8.out (show w.heap.size+1+1+1<w6.heap.size by have:=HZ6.out;omega)
 obtain ⟨o0,o1,o2,o3⟩:=HOA.out.below HB8.out (show w5.heap.size<w6.heap.size by have:=HZ6.out;omega)
 have f0:=(HB8.out.frozen (p:=⟨w.heap.size+1+1+1,0,none⟩) (show w.heap.size+1+1+1<w6.heap.size by have:=HZ6.out;omega)).trans (HF6.out 0)
 have f1:=(HB8.out.frozen (p:=⟨w.heap.size+1+1+1,1,none⟩) (show w.heap.size+1+1+1<w6.heap.size by have:=HZ6.out;omega)).trans (HF6.out 1)
 have f2:=(HB8.out.frozen (p:=⟨w.heap.size+1+1+1,2,none⟩) (show w.heap.size+1+1+1<w6.heap.size by have:=HZ6.out;omega)).trans (HF6.out 2)
 have f3:=(HB8.out.frozen (p:=⟨w.heap.size+1+1+1,3,none⟩) (show w.heap.size+1+1+1<w6.heap.size by have:=HZ6.out;omega)).trans (HF6.out 3)
 simp only [] at x0' x1' x2' x3' s0' s1' s2' s3' q0 q1 q2 q3 o0 o1 o2 o3
 clear hb8 HFC
 cases fc
 · have hc5:=HC5.out HH1.out HH3.out (.inr rfl)
   have HRES:=qz (HR1.out (by omega))
   subst hc5
   clear HR0 HR1 HC5 HCN HFD
   have HRR:=qz (rap_err0 HIN.out HW8.out (show w.heap.size<=w.heap.size+1+1+1 by omega) (.int .i64 t) (.slice a1 n1 c1) (.slice a2 n2 c2) (.slice a3 n3 c3))
   go_wp2_with fail
   refine bodyPost_ret (v:=.tuple #[shV ⟨t,a1,n1,c1,a2,n2,c2,a3,n3,c3⟩,.int .i64 5]) (by simp [results,Tryz.results47,go_sem,q0,q1,q2,q3]) rfl ⟨_,by first|rfl|trivial,?_⟩
   rw [HRES.out]
   exact HRR.out
 have hcn:=HCN.out HH1.out HH3.out (by trivial) (by trivial)
 rw [HN2.out] at hcn
 have HCO:=qz hcn
 clear HC5 HCN hcn
 go_wp2_with fail
 refine (HFD.out _ HW8.out).mono ?_
 rintro e w9 ⟨rfl,hb9⟩
 have HB9:=qz (HB8.out.trans (hb9.mono HB8.out.size))
 clear g0 g1 g2 x0' x1' x2' x3' s0' s1' s2' s3' q0 q1 q2 q3 f0 f1 f2 f3 o0 o1 o2 o3
 have HW9:=qz (HBW6.out.trans (HB9.out.mono HBW6.out.size))
 have HC9:=qz (HC6.out.calls HB9.out)
 have HOB9:=qz (HOB.out.calls HB9.out)
 have HQB9:=qz (HQB.out.calls HB9.out)
 obtain ⟨g0,g1,g2⟩:=HG6.out.below HB9.out (show w.heap.size<w6.heap.size by have:=HZ6.out;omega)
 obtain ⟨x0',x1',x2',x3'⟩:=HX6.out.below HB9.out (show w.heap.size+1+1<w6.heap.size by have:=HZ6.out;omega)
 obtain ⟨s0',s1',s2',s3'⟩:=HS6.out.below HB9.out (show w.heap.size+1<w6.heap.size by have:=HZ6.out;omega)
 obtain ⟨q0,q1,q2,q3⟩:=HQ6.out.below HB9.out (show w.heap.size+1+1+1<w6.heap.size by have:=HZ6.out;omega)
 obtain ⟨o0,o1,o2,o3⟩:=HOA.out.below HB9.out (show w5.heap.size<w6.heap.size by have:=HZ6.out;omega)
 have f0:=(HB9.out.frozen (p:=⟨w.heap.size+1+1+1,0,none⟩) (show w.heap.size+1+1+1<w6.heap.size by have:=HZ6.out;omega)).trans (HF6.out 0)
 have f1:=(HB9.out.frozen (p:=⟨w.heap.size+1+1+1,1,none⟩) (show w.heap.size+1+1+1<w6.heap.size by have:=HZ6.out;omega)).trans (HF6.out 1)
 have f2:=(HB9.out.frozen (p:=⟨w.heap.size+1+1+1,2,none⟩) (show w.heap.size+1+1+1<w6.heap.size by have:=HZ6.out;omega)).trans (HF6.out 2)
 have f3:=(HB9.out.frozen (p:=⟨w.heap.size+1+1+1,3,none⟩) (show w.heap.size+1+1+1<w6.heap.size by have:=HZ6.out;omega)).trans (HF6.out 3)
 simp only [] at x0' x1' x2' x3' s0' s1' s2' s3' q0 q1 q2 q3 o0 o1 o2 o3
 clear hb9 HFD
 generalize zat s.ts xa=fd at HCO
 by_cases h4:0<=fd
 · have hc6:code=6:=by have:=HCO.out;rw [if_pos h4] at this;exact this
   have HRES:=qz (HR1.out (by omega))
   subst hc6
   clear HR0 HR1 HCO
   have HRR:=qz (rap_err0 HIN.out HW9.out (show w.heap.size<=w.heap.size+1+1+1 by omega) (.int .i64 t) (.slice a1 n1 c1) (.slice a2 n2 c2) (.slice a3 n3 c3))
   go_wp2_with fail
   refine bodyPost_ret (v:=.tuple #[shV ⟨t,a1,n1,c1,a2,n2,c2,a3,n3,c3⟩,.int .i64 6]) (by simp [results,Tryz.results47,go_sem,q0,q1,q2,q3]) rfl ⟨_,by first|rfl|trivial,?_⟩
   rw [HRES.out]
   exact HRR.out
 by_cases h5:1000<=n2
 · have hc6:code=4:=by have:=HCO.out;rw [if_neg h4,if_pos h5] at this;exact this
   have HRES:=qz (HR1.out (by omega))
   subst hc6
   have h5':(1000:Int)<=(n2:Int):=by omega
   clear HR0 HR1 HCO h5
   have HRR:=qz (rap_err0 HIN.out HW9.out (show w.heap.size<=w.heap.size+1+1+1 by omega) (.int .i64 t) (.slice a1 n1 c1) (.slice a2 n2 c2) (.slice a3 n3 c3))
   go_wp2_with fail
   refine bodyPost_ret (v:=.tuple #[shV ⟨t,a1,n1,c1,a2,n2,c2,a3,n3,c3⟩,.int .i64 4]) (by simp [results,Tryz.results47,go_sem,q0,q1,q2,q3]) rfl ⟨_,by first|rfl|trivial,?_⟩
   rw [HRES.out]
   exact HRR.out
 have hc6:code=0:=by have:=HCO.out;rw [if_neg h4,if_neg h5] at this;exact this
 have HRES:=qz ((HR0.out hc6).trans HTO.out)
 subst hc6
 have h5':¬ (1000:Int)<=(n2:Int):=by omega
 obtain ⟨o,ho⟩:∃ o,o=Obj.cells #[.int .i64 xa,.int .i64 xb,.int .i64 xc,.int .i64 1,.int .i64 (-1)] 48:=⟨_,rfl⟩
 have hbo:Below w9.heap.size w9 (w9.alloc o):=(zX _ _).alloc (zL _) _
 obtain ⟨a',c',w10,hrun,hc10,hsb,hb10⟩:=copy0_append (HC9.out.calls hbo) ⟨xa,xb,xc,1,-1⟩ (ad:=⟨w9.heap.size,0,none⟩) (by rw [ho];exact rec_cells6 w9 ⟨xa,xb,xc,1,-1⟩ 48) (by have:=HN2.out;omega) (by have e1:=hbo.size;have e2:=HB9.out.size;have e3:=HZ6.out;have e4:=HZ5.out;omega) 25
 have hrun':(Builtin.append_ #[25,25] 25 #[.slice b2 m2 d2,.slice (some ⟨w9.heap.size,0,none⟩) 1 1]).run Tryz.prog (w9.alloc o)=.ok (.slice a' (m2+1) c') w10:=hrun
 have hB9:=HW9.out.trans (hbo.mono HW9.out.size)
 have hB10:=hB9.trans (hb10.mono HB4.out.size)
 obtain ⟨hob10,eob⟩:=hsb w5.heap.size (HOB9.out.calls hbo)
 obtain ⟨hqb10,eqb⟩:=hsb (w.heap.size+1+1+1) (HQB9.out.calls hbo)
 have hl59:w5.heap.size<w9.heap.size:=by have:=HB9.out.size;have:=HZ6.out;omega
 have hl39:w.heap.size+1+1+1<w9.heap.size:=by omega
 have hce:∀ i,w10.cell? ⟨w5.heap.size,i,none⟩=w9.cell? ⟨w5.heap.size,i,none⟩:=fun i=>(World.cell?_of_block (w:=w9.alloc o) (a:=⟨w5.heap.size,i,none⟩) eob).trans (World.cell?_alloc_lt w9 o ⟨w5.heap.size,i,none⟩ hl59)
 have hcq:∀ i,w10.cell? ⟨w.heap.size+1+1+1,i,none⟩=w9.cell? ⟨w.heap.size+1+1+1,i,none⟩:=fun i=>(World.cell?_of_block (w:=w9.alloc o) (a:=⟨w.heap.size+1+1+1,i,none⟩) eqb).trans (World.cell?_alloc_lt w9 o ⟨w.heap.size+1+1+1,i,none⟩ hl39)
 have hff:∀ b,StB w10 b->∀ i,w10.frozen? ⟨b,i,none⟩=false:=fun b ⟨cs,hb⟩ i=>frozen_of_row w10 b i cs _ hb
 have r0:=(hce 0).trans o0
 have r1:=(hce 1).trans o1
 have r2:=(hce 2).trans o2
 have r3:=(hce 3).trans o3
 have v0:=hff _ hob10 2
 have z0:=(hcq 0).trans q0
 have z1:=(hcq 1).trans q1
 have z2:=(hcq 2).trans q2
 have z3:=(hcq 3).trans q3
 have y0:=hff _ hqb10 0
 have y1:=hff _ hqb10 1
 have y2:=hff _ hqb10 2
 have y3:=hff _ hqb10 3
 have hne:w.heap.size+1+1+1≠w5.heap.size:=by omega
 have hne':w5.heap.size≠w.heap.size+1+1+1:=by omega
 obtain ⟨M1,_⟩:=hc10.setB (i:=2) (u:=.slice a' (m2+1) c') hob10
 have S1:=hqb10.set (i:=2) (u:=.slice a' (m2+1) c') hne
 have M2:=M1.setB4 S1 (.int .i64 t') (.slice b1 m1 d1) (.slice a' (m2+1) c') (.slice b3 m3 d3)
 have HFIN:=qz (And.intro (show Fine _ ⟨t,a1,n1,c1,a2,n2,c2,a3,n3,c3⟩ s w.heap.size _ _ from .inr (M2.mono (by have:=HZ4.out;omega))) (zah (hB10.setCell (p:=⟨w5.heap.size,2,none⟩) (by show w.heap.size<=w5.heap.size;omega) (.slice a' (m2+1) c')) (show w.heap.size<=w.heap.size+1+1+1 by omega) (.int .i64 t') (.slice b1 m1 d1) (.slice a' (m2+1) c') (.slice b3 m3 d3)))
 rw [ho] at hrun'
 clear HR0 HR1 HCO h5 hrun hc10 hsb hb10 hbo hB9 hB10 hob10 eob hqb10 eqb hce hcq hff M1 S1 M2 ho
 go_wp2_with (at_builtin;refine Lib.wpList_append_run _ rfl _ _ _ _ rfl _ _ rfl rfl _ _ hrun' ?_)
 refine bodyPost_ret (v:=.tuple #[shV ⟨t',b1,m1,d1,a',m2+1,c',b3,m3,d3⟩,.int .i64 0]) (by simp [results,Tryz.results47,go_sem,z0,z1,z2,z3]) rfl ⟨⟨t',b1,m1,d1,a',m2+1,c',b3,m3,d3⟩,by first|rfl|trivial,?_⟩
 rw [HRES.out]
 exact HFIN.out
end Go.Proofs.YtknnnbpgkfaapaaGreat.Vm
namespace Go.Proofs.YtknnnbpgkfaapaaGreat.Vm
open Go Go.RowKit
theorem isr_two {s:St}{a:Int}{n:Nat}(hn:n=s.rs.length)(h:IsR s a):0<=a/\a<(n:Int):=by
 unfold IsR at h
 omega
theorem not_isr {s:St}{a:Int}{n:Nat}(hn:n=s.rs.length)(h:¬ IsR s a):a<0\/0<=a/\(n:Int)<=a:=by
 unfold IsR at h
 omega
set_option maxHeartbeats 4000000 in
theorem rap_robot2 (W H:Int)(g:ByteArray)(h:Sh)(s:St)(x:Inp)(w:World)(hg:g.size<=maxLen)(hin:StIn w w.heap.size h s)(hn1:h.n1<=90000)(hn2:h.n2<=90000)(hn3:h.n3<=90000)(hfd:IsR s x.a->(s.rs.getD x.a.toNat zr).b=1->0<=zat s.ts (s.rs.getD x.a.toNat zr).c)(hk:x.k=2) :
 Calls Tryz.prog 47 #[zam W H g,shV h,inpV x] w fun e w'=>∃ h',e=.returned (.tuple #[shV h',.int .i64 (codeF s x)])/\Fine w' h s w.heap.size h' (if codeF s x=0 then turnF s x else s)/\Below w.heap.size w w':=by
 obtain ⟨w4,hw4,hB4,hz4,hg4,hs4,hx4,hq4,hf4⟩:=gsxz_head w W H g h x
 have HCP:=qz (rcopy_any h s w.heap.size w4 (hin.below hB4) (by omega) (by omega) (by omega) (by omega))
 have HRB:=qz fun (ho:Sh) (V:World) (hV:Below w.heap.size w V) (B:Nat) (hc:Copy0 V B ho s) (hB:B<=V.heap.size) (hr:IsR s x.a)=>rrobot2_any ho h s x B V ((hin.below hV).mono hV.size) hc hB hk hr (hfd hr)
 obtain ⟨code,hcode⟩:∃ code,codeF s x=code:=⟨_,rfl⟩
 have HC5:Hid (_->code=5):=fun h=>hcode.symm.trans (codeF_no (s:=s) (x:=x) h)
 obtain ⟨res,hres⟩:∃ res,(if codeF s x=0 then turnF s x else s)=res:=⟨_,rfl⟩
 have HR1:Hid (code=5->res=s):=fun h=>by rw [<- hres,hcode,if_neg (by omega)]
 rw [hres,hcode] at HRB
 rw [hres,hcode]
 clear hcode hres
 have HQB4:Hid (StB w4 (w.heap.size+1+1+1)):=by
  obtain ⟨u,hu,hbu,zu,_⟩:=gsx_head w W H g h x
  refine ⟨#[.int .i64 0,.slice none 0 0,.slice none 0 0,.slice none 0 0],?_⟩
  rw [hw4,<- hu,show w.heap.size+1+1+1=u.heap.size by omega]
  exact heap_alloc_new u _
 have HW:=qz hw4
 have HB4:=qz hB4
 have HG4:=qz hg4
 have HS4:=qz hs4
 have HX4:=qz hx4
 have HQ4:=qz hq4
 have HF4:=qz hf4
 have HIN:=qz hin
 have HN1:=qz hin.rs.1
 have HN2:=qz hin.ts.1
 have hnm1:=hin.rs.len
 have hnm2:=hin.ts.len
 unfold maxLen at hnm1 hnm2
 obtain ⟨t,a1,n1,c1,a2,n2,c2,a3,n3,c3⟩:=h
 obtain ⟨xk,xa,xb,xc⟩:=x
 obtain ⟨s0,s1,s2,s3⟩:=hs4
 obtain ⟨x0,x1,x2,x3⟩:=hx4
 simp only [] at s0 s1 s2 s3 x0 x1 x2 x3 hk hn1 hn2 hn3 HN1 HN2 hnm1 hnm2 HC5 HRB
 subst hk
 clear hin hw4 hB4 hg4 hq4 hf4 hg
 go_enter Tryz.func47,Tryz.ntmps47
 go_wp2_with fail
 rw [<- HW.out]
 refine HCP.out.mono ?_
 rintro e w5 ⟨h1,rfl,hc5,hb5⟩
 have hz5:=hb5.size
 have HW5:=qz (HB4.out.trans (hb5.mono HB4.out.size))
 have HG5:=qz (HG4.out.below hb5 (by omega))
 have HS5:=qz (HS4.out.below hb5 (by omega))
 have HX5:=qz (HX4.out.below hb5 (by omega))
 have HQ5:=qz (HQ4.out.below hb5 (by omega))
 have HF5:Hid (∀ i,w5.frozen? ⟨w.heap.size+1+1+1,i,none⟩=false):=fun i=>(hb5.frozen (p:=⟨w.heap.size+1+1+1,i,none⟩) (show w.heap.size+1+1+1<w4.heap.size by omega)).trans (HF4.out i)
 have HZ4:=qz hz4
 have hl0:w.heap.size<w5.heap.size:=by omega
 have hl1:w.heap.size+1<w5.heap.size:=by omega
 have hl2:w.heap.size+1+1<w5.heap.size:=by omega
 have hl3:w.heap.size+1+1+1<w5.heap.size:=by omega
 have hba:Below w5.heap.size w5 (w5.alloc (shO h1)):=(zX _ _).alloc (zL _) _
 obtain ⟨w6,hw6⟩:∃ w6,w6=w5.alloc (shO h1):=⟨_,rfl⟩
 have hz6:w6.heap.size=w5.heap.size+1:=by rw [hw6];simp
 have hob:StB w6 w5.heap.size:=⟨_,by rw [hw6];exact heap_alloc_new w5 _⟩
 have hoa:StAt w6 w5.heap.size h1:=by rw [hw6];exact zbo w5 h1
 have hof:∀ i,w6.frozen? ⟨w5.heap.size,i,none⟩=false:=fun i=>by rw [hw6];simp
 rw [<- hw6] at hba
 have HW6:=qz hw6
 have HBW6:=qz (HW5.out.trans (hba.mono HW5.out.size))
 have HC6:=qz (hc5.calls hba)
 have HOB:=qz hob
 have HOA:=qz hoa
 have HOF:=qz hof
 have HG6:=qz (HG5.out.below hba (by omega))
 have HS6:=qz (HS5.out.below hba (by omega))
 have HX6:=qz (HX5.out.below hba (by omega))
 have HQ6:=qz (HQ5.out.below hba (by omega))
 have HF6:Hid (∀ i,w6.frozen? ⟨w.heap.size+1+1+1,i,none⟩=false):=fun i=>(hba.frozen (p:=⟨w.heap.size+1+1+1,i,none⟩) (show w.heap.size+1+1+1<w5.heap.size by omega)).trans (HF5.out i)
 have HZ6:=qz hz6
 have HZ5:Hid (w4.heap.size<=w5.heap.size):=hz5
 have HQB:=qz ((HQB4.out.calls hb5).calls hba)
 obtain ⟨g0,g1,g2⟩:=id HG5.out
 obtain ⟨x0',x1',x2',x3'⟩:=id HX5.out
 obtain ⟨s0',s1',s2',s3'⟩:=id HS5.out
 obtain ⟨q0,q1,q2,q3⟩:=id HQ5.out
 have f0:=HF5.out 0
 have f1:=HF5.out 1
 have f2:=HF5.out 2
 have f3:=HF5.out 3
 obtain ⟨t',b1,m1,d1,b2,m2,d2,b3,m3,d3⟩:=h1
 simp only [] at x0' x1' x2' x3' s0' s1' s2' s3' q0 q1 q2 q3
 clear s0 s1 s2 s3 x0 x1 x2 x3 hb5 hc5 HCP hz4 hz5 hba hw6 hob hoa hof hz6
 by_cases hr:IsR s xa
 · obtain ⟨hr1,hr2⟩:=isr_two HN1.out.symm hr
   have h1':¬ xa<0:=by omega
   have h2':¬ (n1:Int)<=xa:=by omega
   have HRC:=qz (HRB.out ⟨t',b1,m1,d1,b2,m2,d2,b3,m3,d3⟩ w6 HBW6.out w4.heap.size HC6.out (by have:=HZ6.out;have:=HZ5.out;omega) hr)
   clear HRB HC5 HR1 hr
   go_wp2_with fail
   rw [<- HW6.out]
   refine HRC.out.mono ?_
   rintro e w7 ⟨h2,rfl,hfine,hb7⟩
   obtain ⟨q0,q1,q2,q3⟩:=HQ6.out.below hb7 (by have:=HZ4.out;omega)
   have hfz:∀ i,w7.frozen? ⟨w.heap.size+1+1+1,i,none⟩=false:=fun i=>(hb7.frozen (p:=⟨w.heap.size+1+1+1,i,none⟩) (show w.heap.size+1+1+1<w4.heap.size by have:=HZ4.out;omega)).trans (HF6.out i)
   have hqb:StB w7 (w.heap.size+1+1+1):=by
    obtain ⟨cs,hcs⟩:=HQB.out
    exact ⟨cs,(hb7.block _ (show w.heap.size+1+1+1<w4.heap.size by have:=HZ4.out;omega)).trans hcs⟩
   obtain ⟨u0,e1,k1,y1,e2,k2,y2,e3,k3,y3⟩:=h2
   simp only [] at q0 q1 q2 q3
   have f0:=hfz 0
   have f1:=hfz 1
   have f2:=hfz 2
   have f3:=hfz 3
   have hl7:w.heap.size+1+1+1<w7.heap.size:=by have:=hb7.size;have:=HZ6.out;omega
   have hb47:=HBW6.out.trans (hb7.mono (show w.heap.size<=w4.heap.size by have:=HZ4.out;omega))
   have HFIN:=qz (And.intro ((hfine.set4 hqb (.int .i64 u0) (.slice e1 k1 y1) (.slice e2 k2 y2) (.slice e3 k3 y3)).mono (show w.heap.size<=w4.heap.size by have:=HZ4.out;omega)) (zah hb47 (show w.heap.size<=w.heap.size+1+1+1 by omega) (.int .i64 u0) (.slice e1 k1 y1) (.slice e2 k2 y2) (.slice e3 k3 y3)))
   clear hfine hqb hfz hb7 hb47 g0 g1 g2 x0' x1' x2' x3' s0' s1' s2' s3'
   go_wp2_with fail
   refine bodyPost_ret (v:=.tuple #[shV ⟨u0,e1,k1,y1,e2,k2,y2,e3,k3,y3⟩,.int .i64 code]) (by simp [results,Tryz.results47,go_sem,q0,q1,q2,q3,hl7]) rfl ⟨⟨u0,e1,k1,y1,e2,k2,y2,e3,k3,y3⟩,by first|rfl|trivial,?_⟩
   exact HFIN.out
 · have hc5:=HC5.out hr
   have HRES:=qz (HR1.out hc5)
   subst hc5
   have hrr:=not_isr HN1.out.symm hr
   clear HR1 HC5 HRB hr
   have HRR:=qz (rap_err (B:=0) HIN.out HW5.out (show w.heap.size<=w.heap.size+1+1+1 by omega) (.int .i64 t) (.slice a1 n1 c1) (.slice a2 n2 c2) (.slice a3 n3 c3) (shO ⟨t',b1,m1,d1,b2,m2,d2,b3,m3,d3⟩))
   rcases hrr with h1|⟨h1,h2⟩
   · go_wp2_with fail
     refine bodyPost_ret (v:=.tuple #[shV ⟨t,a1,n1,c1,a2,n2,c2,a3,n3,c3⟩,.int .i64 5]) (by simp [results,Tryz.results47,go_sem,q0,q1,q2,q3,hl3]) rfl ⟨_,by first|rfl|trivial,?_⟩
     rw [HRES.out]
     exact HRR.out
   · have h1':¬ xa<0:=by omega
     go_wp2_with fail
     refine bodyPost_ret (v:=.tuple #[shV ⟨t,a1,n1,c1,a2,n2,c2,a3,n3,c3⟩,.int .i64 5]) (by simp [results,Tryz.results47,go_sem,q0,q1,q2,q3,hl3]) rfl ⟨_,by first|rfl|trivial,?_⟩
     rw [HRES.out]
     exact HRR.out
set_option maxHeartbeats 4000000 in
theorem rap_robot3 (W H:Int)(g:ByteArray)(h:Sh)(s:St)(x:Inp)(w:World)(hg:g.size<=maxLen)(hin:StIn w w.heap.size h s)(hn1:h.n1<=90000)(hn2:h.n2<=90000)(hn3:h.n3<=90000)(hk:x.k=3) :
 Calls Tryz.prog 47 #[zam W H g,shV h,inpV x] w fun e w'=>∃ h',e=.returned (.tuple #[shV h',.int .i64 (codeR s x)])/\Fine w' h s w.heap.size h' (if codeR s x=0 then turnR s x else s)/\Below w.heap.size w w':=by
 obtain ⟨w4,hw4,hB4,hz4,hg4,hs4,hx4,hq4,hf4⟩:=gsxz_head w W H g h x
 have HCP:=qz (rcopy_any h s w.heap.size w4 (hin.below hB4) (by omega) (by omega) (by omega) (by omega))
 have HRB:=qz fun (ho:Sh) (V:World) (hV:Below w.heap.size w V) (B:Nat) (hc:Copy0 V B ho s) (hB:B<=V.heap.size) (hr:IsR s x.a)=>rrobot3_any ho h s x B V ((hin.below hV).mono hV.size) hc hB hk hr
 obtain ⟨code,hcode⟩:∃ code,codeR s x=code:=⟨_,rfl⟩
 have HC5:Hid (_->code=5):=fun h=>hcode.symm.trans (codeR_no (s:=s) (x:=x) h)
 obtain ⟨res,hres⟩:∃ res,(if codeR s x=0 then turnR s x else s)=res:=⟨_,rfl⟩
 have HR1:Hid (code=5->res=s):=fun h=>by rw [<- hres,hcode,if_neg (by omega)]
 rw [hres,hcode] at HRB
 rw [hres,hcode]
 clear hcode hres
 have HQB4:Hid (StB w4 (w.heap.size+1+1+1)):=by
  obtain ⟨u,hu,hbu,zu,_⟩:=gsx_head w W H g h x
  refine ⟨#[.int .i64 0,.slice none 0 0,.slice none 0 0,.slice none 0 0],?_⟩
  rw [hw4,<- hu,show w.heap.size+1+1+1=u.heap.size by omega]
  exact heap_alloc_new u _
 have HW:=qz hw4
 have HB4:=qz hB4
 have HG4:=qz hg4
 have HS4:=qz hs4
 have HX4:=qz hx4
 have HQ4:=qz hq4
 have HF4:=qz hf4
 have HIN:=qz hin
 have HN1:=qz hin.rs.1
 have HN2:=qz hin.ts.1
 have hnm1:=hin.rs.len
 have hnm2:=hin.ts.len
 unfold maxLen at hnm1 hnm2
 obtain ⟨t,a1,n1,c1,a2,n2,c2,a3,n3,c3⟩:=h
 obtain ⟨xk,xa,xb,xc⟩:=x
 obtain ⟨s0,s1,s2,s3⟩:=hs4
 obtain ⟨x0,x1,x2,x3⟩:=hx4
 simp only [] at s0 s1 s2 s3 x0 x1 x2 x3 hk hn1 hn2 hn3 HN1 HN2 hnm1 hnm2 HC5 HRB
 subst hk
 clear hin hw4 hB4 hg4 hq4 hf4 hg
 go_enter Tryz.func47,Tryz.ntmps47
 go_wp2_with fail
 rw [<- HW.out]
 refine HCP.out.mono ?_
 rintro e w5 ⟨h1,rfl,hc5,hb5⟩
 have hz5:=hb5.size
 have HW5:=qz (HB4.out.trans (hb5.mono HB4.out.size))
 have HG5:=qz (HG4.out.below hb5 (by omega))
 have HS5:=qz (HS4.out.below hb5 (by omega))
 have HX5:=qz (HX4.out.below hb5 (by omega))
 have HQ5:=qz (HQ4.out.below hb5 (by omega))
 have HF5:Hid (∀ i,w5.frozen? ⟨w.heap.size+1+1+1,i,none⟩=false):=fun i=>(hb5.frozen (p:=⟨w.heap.size+1+1+1,i,none⟩) (show w.heap.size+1+1+1<w4.heap.size by omega)).trans (HF4.out i)
 have HZ4:=qz hz4
 have hl0:w.heap.size<w5.heap.size:=by omega
 have hl1:w.heap.size+1<w5.heap.size:=by omega
 have hl2:w.heap.size+1+1<w5.heap.size:=by omega
 have hl3:w.heap.size+1+1+1<w5.heap.size:=by omega
 have hba:Below w5.heap.size w5 (w5.alloc (shO h1)):=(zX _ _).alloc (zL _) _
 obtain ⟨w6,hw6⟩:∃ w6,w6=w5.alloc (shO h1):=⟨_,rfl⟩
 have hz6:w6.heap.size=w5.heap.size+1:=by rw [hw6];simp
 have hob:StB w6 w5.heap.size:=⟨_,by rw [hw6];exact heap_alloc_new w5 _⟩
 have hoa:StAt w6 w5.heap.size h1:=by rw [hw6];exact zbo w5 h1
 have hof:∀ i,w6.frozen? ⟨w5.heap.size,i,none⟩=false:=fun i=>by rw [hw6];simp
 rw [<- hw6] at hba
 have HW6:=qz hw6
 have HBW6:=qz (HW5.out.trans (hba.mono HW5.out.size))
 have HC6:=qz (hc5.calls hba)
 have HOB:=qz hob
 have HOA:=qz hoa
 have HOF:=qz hof
 have HG6:=qz (HG5.out.below hba (by omega))
 have HS6:=qz (HS5.out.below hba (by omega))
 have HX6:=qz (HX5.out.below hba (by omega))
 have HQ6:=qz (HQ5.out.below hba (by omega))
 have HF6:Hid (∀ i,w6.frozen? ⟨w.heap.size+1+1+1,i,none⟩=false):=fun i=>(hba.frozen (p:=⟨w.heap.size+1+1+1,i,none⟩) (show w.heap.size+1+1+1<w5.heap.size by omega)).trans (HF5.out i)
 have HZ6:=qz hz6
 have HZ5:Hid (w4.heap.size<=w5.heap.size):=hz5
 have HQB:=qz ((HQB4.out.calls hb5).calls hba)
 obtain ⟨g0,g1,g2⟩:=id HG5.out
 obtain ⟨x0',x1',x2',x3'⟩:=id HX5.out
 obtain ⟨s0',s1',s2',s3'⟩:=id HS5.out
 obtain ⟨q0,q1,q2,q3⟩:=id HQ5.out
 have f0:=HF5.out 0
 have f1:=HF5.out 1
 have f2:=HF5.out 2
 have f3:=HF5.out 3
 obtain ⟨t',b1,m1,d1,b2,m2,d2,b3,m3,d3⟩:=h1
 simp only [] at x0' x1' x2' x3' s0' s1' s2' s3' q0 q1 q2 q3
 clear s0 s1 s2 s3 x0 x1 x2 x3 hb5 hc5 HCP hz4 hz5 hba hw6 hob hoa hof hz6
 by_cases hr:IsR s xa
 · obtain ⟨hr1,hr2⟩:=isr_two HN1.out.symm hr
   have h1':¬ xa<0:=by omega
   have h2':¬ (n1:Int)<=xa:=by omega
   have HRC:=qz (HRB.out ⟨t',b1,m1,d1,b2,m2,d2,b3,m3,d3⟩ w6 HBW6.out w4.heap.size HC6.out (by have:=HZ6.out;have:=HZ5.out;omega) hr)
   clear HRB HC5 HR1 hr
   go_wp2_with fail
   rw [<- HW6.out]
   refine HRC.out.mono ?_
   rintro e w7 ⟨h2,rfl,hfine,hb7⟩
   obtain ⟨q0,q1,q2,q3⟩:=HQ6.out.below hb7 (by have:=HZ4.out;omega)
   have hfz:∀ i,w7.frozen? ⟨w.heap.size+1+1+1,i,none⟩=false:=fun i=>(hb7.frozen (p:=⟨w.heap.size+1+1+1,i,none⟩) (show w.heap.size+1+1+1<w4.heap.size by have:=HZ4.out;omega)).trans (HF6.out i)
   have hqb:StB w7 (w.heap.size+1+1+1):=by
    obtain ⟨cs,hcs⟩:=HQB.out
    exact ⟨cs,(hb7.block _ (show w.heap.size+1+1+1<w4.heap.size by have:=HZ4.out;omega)).trans hcs⟩
   obtain ⟨u0,e1,k1,y1,e2,k2,y2,e3,k3,y3⟩:=h2
   simp only [] at q0 q1 q2 q3
   have f0:=hfz 0
   have f1:=hfz 1
   have f2:=hfz 2
   have f3:=hfz 3
   have hl7:w.heap.size+1+1+1<w7.heap.size:=by have:=hb7.size;have:=HZ6.out;omega
   have hb47:=HBW6.out.trans (hb7.mono (show w.heap.size<=w4.heap.size by have:=HZ4.out;omega))
   have HFIN:=qz (And.intro ((hfine.set4 hqb (.int .i64 u0) (.slice e1 k1 y1) (.slice e2 k2 y2) (.slice e3 k3 y3)).mono (show w.heap.size<=w4.heap.size by have:=HZ4.out;omega)) (zah hb47 (show w.heap.size<=w.heap.size+1+1+1 by omega) (.int .i64 u0) (.slice e1 k1 y1) (.slice e2 k2 y2) (.slice e3 k3 y3)))
   clear hfine hqb hfz hb7 hb47 g0 g1 g2 x0' x1' x2' x3' s0' s1' s2' s3'
   go_wp2_with fail
   refine bodyPost_ret (v:=.tuple #[shV ⟨u0,e1,k1,y1,e2,k2,y2,e3,k3,y3⟩,.int .i64 code]) (by simp [results,Tryz.results47,go_sem,q0,q1,q2,q3,hl7]) rfl ⟨⟨u0,e1,k1,y1,e2,k2,y2,e3,k3,y3⟩,by first|rfl|trivial,?_⟩
   exact HFIN.out
 · have hc5:=HC5.out hr
   have HRES:=qz (HR1.out hc5)
   subst hc5
   have hrr:=not_isr HN1.out.symm hr
   clear HR1 HC5 HRB hr
   have HRR:=qz (rap_err (B:=0) HIN.out HW5.out (show w.heap.size<=w.heap.size+1+1+1 by omega) (.int .i64 t) (.slice a1 n1 c1) (.slice a2 n2 c2) (.slice a3 n3 c3) (shO ⟨t',b1,m1,d1,b2,m2,d2,b3,m3,d3⟩))
   rcases hrr with h1|⟨h1,h2⟩
   · go_wp2_with fail
     refine bodyPost_ret (v:=.tuple #[shV ⟨t,a1,n1,c1,a2,n2,c2,a3,n3,c3⟩,.int .i64 5]) (by simp [results,Tryz.results47,go_sem,q0,q1,q2,q3,hl3]) rfl ⟨_,by first|rfl|trivial,?_⟩
     rw [HRES.out]
     exact HRR.out
   · have h1':¬ xa<0:=by omega
     go_wp2_with fail
     refine bodyPost_ret (v:=.tuple #[shV ⟨t,a1,n1,c1,a2,n2,c2,a3,n3,c3⟩,.int .i64 5]) (by simp [results,Tryz.results47,go_sem,q0,q1,q2,q3,hl3]) rfl ⟨_,by first|rfl|trivial,?_⟩
     rw [HRES.out]
     exact HRR.out
set_option maxHeartbeats 4000000 in
theorem rap_robot4 (W H:Int)(g:ByteArray)(h:Sh)(s:St)(x:Inp)(w:World)(hg:g.size<=maxLen)(hin:StIn w w.heap.size h s)(hn1:h.n1<=90000)(hn2:h.n2<=90000)(hn3:h.n3<=90000)(hk:x.k=4) :
 Calls Tryz.prog 47 #[zam W H g,shV h,inpV x] w fun e w'=>∃ h',e=.returned (.tuple #[shV h',.int .i64 (codeH s x)])/\Fine w' h s w.heap.size h' (if codeH s x=0 then turnH s x else s)/\Below w.heap.size w w':=by
 obtain ⟨w4,hw4,hB4,hz4,hg4,hs4,hx4,hq4,hf4⟩:=gsxz_head w W H g h x
 have HCP:=qz (rcopy_any h s w.heap.size w4 (hin.below hB4) (by omega) (by omega) (by omega) (by omega))
 have HRB:=qz fun (ho:Sh) (V:World) (hV:Below w.heap.size w V) (B:Nat) (hc:Copy0 V B ho s) (hB:B<=V.heap.size) (hr:IsR s x.a)=>rrobot4_any ho h s x B V ((hin.below hV).mono hV.size) hc hB hk hr
 obtain ⟨code,hcode⟩:∃ code,codeH s x=code:=⟨_,rfl⟩
 have HC5:Hid (_->code=5):=fun h=>hcode.symm.trans (codeH_no (s:=s) (x:=x) h)
 obtain ⟨res,hres⟩:∃ res,(if codeH s x=0 then turnH s x else s)=res:=⟨_,rfl⟩
 have HR1:Hid (code=5->res=s):=fun h=>by rw [<- hres,hcode,if_neg (by omega)]
 rw [hres,hcode] at HRB
 rw [hres,hcode]
 clear hcode hres
 have HQB4:Hid (StB w4 (w.heap.size+1+1+1)):=by
  obtain ⟨u,hu,hbu,zu,_⟩:=gsx_head w W H g h x
  refine ⟨#[.int .i64 0,.slice none 0 0,.slice none 0 0,.slice none 0 0],?_⟩
  rw [hw4,<- hu,show w.heap.size+1+1+1=u.heap.size by omega]
  exact heap_alloc_new u _
 have HW:=qz hw4
 have HB4:=qz hB4
 have HG4:=qz hg4
 have HS4:=qz hs4
 have HX4:=qz hx4
 have HQ4:=qz hq4
 have HF4:=qz hf4
 have HIN:=qz hin
 have HN1:=qz hin.rs.1
 have HN2:=qz hin.ts.1
 have hnm1:=hin.rs.len
 have hnm2:=hin.ts.len
 unfold maxLen at hnm1 hnm2
 obtain ⟨t,a1,n1,c1,a2,n2,c2,a3,n3,c3⟩:=h
 obtain ⟨xk,xa,xb,xc⟩:=x
 obtain ⟨s0,s1,s2,s3⟩:=hs4
 obtain ⟨x0,x1,x2,x3⟩:=hx4
 simp only [] at s0 s1 s2 s3 x0 x1 x2 x3 hk hn1 hn2 hn3 HN1 HN2 hnm1 hnm2 HC5 HRB
 subst hk
 clear hin hw4 hB4 hg4 hq4 hf4 hg
 go_enter Tryz.func47,Tryz.ntmps47
 go_wp2_with fail
 rw [<- HW.out]
 refine HCP.out.mono ?_
 rintro e w5 ⟨h1,rfl,hc5,hb5⟩
 have hz5:=hb5.size
 have HW5:=qz (HB4.out.trans (hb5.mono HB4.out.size))
 have HG5:=qz (HG4.out.below hb5 (by omega))
 have HS5:=qz (HS4.out.below hb5 (by omega))
 have HX5:=qz (HX4.out.below hb5 (by omega))
 have HQ5:=qz (HQ4.out.below hb5 (by omega))
 have HF5:Hid (∀ i,w5.frozen? ⟨w.heap.size+1+1+1,i,none⟩=false):=fun i=>(hb5.frozen (p:=⟨w.heap.size+1+1+1,i,none⟩) (show w.heap.size+1+1+1<w4.heap.size by omega)).trans (HF4.out i)
 have HZ4:=qz hz4
 have hl0:w.heap.size<w5.heap.size:=by omega
 have hl1:w.heap.size+1<w5.heap.size:=by omega
 have hl2:w.heap.size+1+1<w5.heap.size:=by omega
 have hl3:w.heap.size+1+1+1<w5.heap.size:=by omega
 have hba:Below w5.heap.size w5 (w5.alloc (shO h1)):=(zX _ _).alloc (zL _) _
 obtain ⟨w6,hw6⟩:∃ w6,w6=w5.alloc (shO h1):=⟨_,rfl⟩
 have hz6:w6.heap.size=w5.heap.size+1:=by rw [hw6];simp
 have hob:StB w6 w5.heap.size:=⟨_,by rw [hw6];exact heap_alloc_new w5 _⟩
 have hoa:StAt w6 w5.heap.size h1:=by rw [hw6];exact zbo w5 h1
 have hof:∀ i,w6.frozen? ⟨w5.heap.size,i,none⟩=false:=fun i=>by rw [hw6];simp
 rw [<- hw6] at hba
 have HW6:=qz hw6
 have HBW6:=qz (HW5.out.trans (hba.mono HW5.out.size))
 have HC6:=qz (hc5.calls hba)
 have HOB:=qz hob
 have HOA:=qz hoa
 have HOF:=qz hof
 have HG6:=qz (HG5.out.below hba (by omega))
 have HS6:=qz (HS5.out.below hba (by omega))
 have HX6:=qz (HX5.out.below hba (by omega))
 have HQ6:=qz (HQ5.out.below hba (by omega))
 have HF6:Hid (∀ i,w6.frozen? ⟨w.heap.size+1+1+1,i,none⟩=false):=fun i=>(hba.frozen (p:=⟨w.heap.size+1+1+1,i,none⟩) (show w.heap.size+1+1+1<w5.heap.size by omega)).trans (HF5.out i)
 have HZ6:=qz hz6
 have HZ5:Hid (w4.heap.size<=w5.heap.size):=hz5
 have HQB:=qz ((HQB4.out.calls hb5).calls hba)
 obtain ⟨g0,g1,g2⟩:=id HG5.out
 obtain ⟨x0',x1',x2',x3'⟩:=id HX5.out
 obtain ⟨s0',s1',s2',s3'⟩:=id HS5.out
 obtain ⟨q0,q1,q2,q3⟩:=id HQ5.out
 have f0:=HF5.out 0
 have f1:=HF5.out 1
 have f2:=HF5.out 2
 have f3:=HF5.out 3
 obtain ⟨t',b1,m1,d1,b2,m2,d2,b3,m3,d3⟩:=h1
 simp only [] at x0' x1' x2' x3' s0' s1' s2' s3' q0 q1 q2 q3
 clear s0 s1 s2 s3 x0 x1 x2 x3 hb5 hc5 HCP hz4 hz5 hba hw6 hob hoa hof hz6
 by_cases hr:IsR s xa
 · obtain ⟨hr1,hr2⟩:=isr_two HN1.out.symm hr
   have h1':¬ xa<0:=by omega
   have h2':¬ (n1:Int)<=xa:=by omega
   have HRC:=qz (HRB.out ⟨t',b1,m1,d1,b2,m2,d2,b3,m3,d3⟩ w6 HBW6.out w4.heap.size HC6.out (by have:=HZ6.out;have:=HZ5.out;omega) hr)
   clear HRB HC5 HR1 hr
   go_wp2_with fail
   rw [<- HW6.out]
   refine HRC.out.mono ?_
   rintro e w7 ⟨h2,rfl,hfine,hb7⟩
   obtain ⟨q0,q1,q2,q3⟩:=HQ6.out.below hb7 (by have:=HZ4.out;omega)
   have hfz:∀ i,w7.frozen? ⟨w.heap.size+1+1+1,i,none⟩=false:=fun i=>(hb7.frozen (p:=⟨w.heap.size+1+1+1,i,none⟩) (show w.heap.size+1+1+1<w4.heap.size by have:=HZ4.out;omega)).trans (HF6.out i)
   have hqb:StB w7 (w.heap.size+1+1+1):=by
    obtain ⟨cs,hcs⟩:=HQB.out
    exact ⟨cs,(hb7.block _ (show w.heap.size+1+1+1<w4.heap.size by have:=HZ4.out;omega)).trans hcs⟩
   obtain ⟨u0,e1,k1,y1,e2,k2,y2,e3,k3,y3⟩:=h2
   simp only [] at q0 q1 q2 q3
   have f0:=hfz 0
   have f1:=hfz 1
   have f2:=hfz 2
   have f3:=hfz 3
   have hl7:w.heap.size+1+1+1<w7.heap.size:=by have:=hb7.size;have:=HZ6.out;omega
   have hb47:=HBW6.out.trans (hb7.mono (show w.heap.size<=w4.heap.size by have:=HZ4.out;omega))
   have HFIN:=qz (And.intro ((hfine.set4 hqb (.int .i64 u0) (.slice e1 k1 y1) (.slice e2 k2 y2) (.slice e3 k3 y3)).mono (show w.heap.size<=w4.heap.size by have:=HZ4.out;omega)) (zah hb47 (show w.heap.size<=w.heap.size+1+1+1 by omega) (.int .i64 u0) (.slice e1 k1 y1) (.slice e2 k2 y2) (.slice e3 k3 y3)))
   clear hfine hqb hfz hb7 hb47 g0 g1 g2 x0' x1' x2' x3' s0' s1' s2' s3'
   go_wp2_with fail
   refine bodyPost_ret (v:=.tuple #[shV ⟨u0,e1,k1,y1,e2,k2,y2,e3,k3,y3⟩,.int .i64 code]) (by simp [results,Tryz.results47,go_sem,q0,q1,q2,q3,hl7]) rfl ⟨⟨u0,e1,k1,y1,e2,k2,y2,e3,k3,y3⟩,by first|rfl|trivial,?_⟩
   exact HFIN.out
 · have hc5:=HC5.out hr
   have HRES:=qz (HR1.out hc5)
   subst hc5
   have hrr:=not_isr HN1.out.symm hr
   clear HR1 HC5 HRB hr
   have HRR:=qz (rap_err (B:=0) HIN.out HW5.out (show w.heap.size<=w.heap.size+1+1+1 by omega) (.int .i64 t) (.slice a1 n1 c1) (.slice a2 n2 c2) (.slice a3 n3 c3) (shO ⟨t',b1,m1,d1,b2,m2,d2,b3,m3,d3⟩))
   rcases hrr with h1|⟨h1,h2⟩
   · go_wp2_with fail
     refine bodyPost_ret (v:=.tuple #[shV ⟨t,a1,n1,c1,a2,n2,c2,a3,n3,c3⟩,.int .i64 5]) (by simp [results,Tryz.results47,go_sem,q0,q1,q2,q3,hl3]) rfl ⟨_,by first|rfl|trivial,?_⟩
     rw [HRES.out]
     exact HRR.out
   · have h1':¬ xa<0:=by omega
     go_wp2_with fail
     refine bodyPost_ret (v:=.tuple #[shV ⟨t,a1,n1,c1,a2,n2,c2,a3,n3,c3⟩,.int .i64 5]) (by simp [results,Tryz.results47,go_sem,q0,q1,q2,q3,hl3]) rfl ⟨_,by first|rfl|trivial,?_⟩
     rw [HRES.out]
     exact HRR.out
end Go.Proofs.YtknnnbpgkfaapaaGreat.Vm
