import Derived.Test.YtknnnbpgkfaapaaGreatQ
import Derived.Test.YtknnnbpgkfaapaaGreatVLeadMath
import Derived.Test.YtknnnbpgkfaapaaGreatVSets
import Derived.Test.YtknnnbpgkfaapaaGreatVIters
import Derived.Test.YtknnnbpgkfaapaaGreatVIntsZ
set_option maxRecDepth 100000
set_option linter.unusedSimpArgs false
set_option linter.unusedVariables false
namespace Go.Proofs.YtknnnbpgkfaapaaGreat.Vm
open Go Go.RowKit Go.Maps
set_option maxHeartbeats 400000 in
theorem origin_any (W H:Int)(s:ByteArray)(cell way:Nat)(w:World)(hW:1<=W)(hW2:W<=256)(hc:cell<=1000000)(hw:1<=way/\way<=4) :
 Calls Tryz.prog 134 #[zam W H s,.int .i64 (cell:Nat),.int .i64 (way:Nat)] w fun e w'=>e=.returned (.int .i64 (zca W cell way))/\Below w.heap.size w w':=by
 have hB:Below w.heap.size w (w.alloc (zar W H s)):=(zX _ _).alloc (zL _) _
 have hcase:way=1\/way=2\/way=3\/way=4:=by omega
 clear hw
 rcases hcase with rfl|rfl|rfl|rfl
 all_goals
  go_enter Tryz.func134,Tryz.ntmps134
  go_wp2
  go_ret
  exact ⟨by simp [zca],hB⟩
theorem pair_eq {R:Int × Bool}{a:Int}{b:Bool}(h:R=(a,b)):Ending.returned (.tuple #[.int .i64 a,.bool b])=.returned (.tuple #[.int .i64 R.1,.bool R.2]):=by rw [h]
set_option maxHeartbeats 400000 in
theorem lead_any (W H:Int)(s:ByteArray)(bl:List Int)(cell way gb cb mb m:Nat)(A:World)(h:Okay W H s)(hc:cell<s.size)(hw:1<=way/\way<=4)
 (hg:GridAt A gb W H s) (hcl:A.cell? ⟨cb,0,none⟩=some (.map (some mb))) (hm:ShutIn A mb m bl) (hgb:gb<A.heap.size) (hcb:cb<A.heap.size) :
 Calls Tryz.prog 133 #[.int .i64 (cell:Nat),.int .i64 (way:Nat),.pointer (some ⟨gb,0,none⟩),.pointer (some ⟨cb,0,none⟩)] A fun e w' =>
  e=.returned (.tuple #[.int .i64 (leadS W H (zaa s) bl cell way).1,.bool (leadS W H (zaa s) bl cell way).2])/\Below A.heap.size A w':=by
 have hle:=h.le
 have HO:=qz fun A=>origin_any W H s cell way A h.w1 h.w2 (by omega) hw
 have HG:=qz fun A=>goes_any W H (zca W cell way) way s A h
 have hwf:(Lit.int .i64 (cell:Nat)).wf=true:=WalkArith.wf_i64 (by omega)
 have hle2:leadS W H (zaa s) bl cell way=(zca W cell way,(zak W H (zaa s) (zca W cell way) way).2 && !decide ((cell:Int)∈bl)):=rfl
 have HM:=qz hm
 have HGA:=qz hg
 obtain ⟨g1,g2,g3⟩:=hg
 obtain ⟨to,ok,hR⟩:∃ to ok,zak W H (zaa s) (zca W cell way) way=(to,ok):=⟨_,_,rfl⟩
 rw [hR] at hle2
 have hg2:=HG.out
 rw [hR] at hg2
 simp only [] at hg2 hle2
 have HG2:=qz hg2
 generalize zca W cell way=og at HO HG2 hle2
 clear hg2 HG hR hm h hw
 cases ok
 · have HE:=qz hle2
   clear hle2
   go_enter Tryz.func133,Tryz.ntmps133
   go_wp2_with fail
   refine (HO.out _).mono ?_
   rintro e w1 ⟨rfl,hb1⟩
   obtain ⟨q1,q2,q3⟩:=HGA.out.below hb1 hgb
   go_wp2_with fail
   refine (HG2.out _).mono ?_
   rintro e w2 ⟨rfl,hb2⟩
   have hb:=hb1.trans (hb2.mono hb1.size)
   go_wp2_with fail
   go_ret2
   exact ⟨pair_eq (by rw [HE.out];rfl),hb⟩
 · have HE:=qz hle2
   clear hle2
   go_enter Tryz.func133,Tryz.ntmps133
   go_wp2_with fail
   refine (HO.out _).mono ?_
   rintro e w1 ⟨rfl,hb1⟩
   obtain ⟨q1,q2,q3⟩:=HGA.out.below hb1 hgb
   go_wp2_with fail
   refine (HG2.out _).mono ?_
   rintro e w2 ⟨rfl,hb2⟩
   have hb:=hb1.trans (hb2.mono hb1.size)
   have hc2:=(hb.cell (p:=⟨cb,0,none⟩) hcb).trans hcl
   have hm2:ShutIn w2 mb m bl:=HM.out.keep (hb.block mb HM.out.lt)
   have HH:=qz (has_any mb m bl cell w2 hm2 hwf)
   clear q1 q2 q3 hm2
   go_wp2_with fail
   refine HH.out.mono ?_
   rintro e w3 ⟨rfl,hb3⟩
   have hb4:=hb.trans (hb3.mono hb.size)
   go_wp2_with fail
   go_ret2
   exact ⟨pair_eq (by rw [HE.out];simp),hb4⟩
set_option maxHeartbeats 400000 in
theorem from_any (W H:Int)(s:ByteArray)(bl:List Int)(cell way gb cb mb m:Nat)(A:World)(h:Okay W H s)
 (hg:GridAt A gb W H s) (hcl:A.cell? ⟨cb,0,none⟩=some (.map (some mb))) (hm:ShutIn A mb m bl) (hcb:cb<A.heap.size) :
 Calls Tryz.prog 147 #[.int .i64 (cell:Nat),.int .i64 (way:Nat),.pointer (some ⟨gb,0,none⟩),.pointer (some ⟨cb,0,none⟩)] A fun e w' =>
  e=.returned (.tuple #[.int .i64 (fromS W H (zaa s) bl cell way).1,.bool (fromS W H (zaa s) bl cell way).2])/\Below A.heap.size A w':=by
 have hle:=h.le
 have HG:=qz fun A=>goes_any W H cell way s A h
 have hle2:fromS W H (zaa s) bl cell way=((zak W H (zaa s) cell way).1,(zak W H (zaa s) cell way).2 && !decide ((zak W H (zaa s) cell way).1∈bl)):=rfl
 have HM:=qz hm
 obtain ⟨g1,g2,g3⟩:=hg
 obtain ⟨to,ok,hR⟩:∃ to ok,zak W H (zaa s) cell way=(to,ok):=⟨_,_,rfl⟩
 rw [hR] at hle2
 have hg2:=HG.out
 rw [hR] at hg2
 simp only [] at hg2 hle2
 have HG2:=qz hg2
 have HE:=qz hle2
 clear hg2 HG hm h hle2
 cases ok
 · clear hR
   go_enter Tryz.func147,Tryz.ntmps147
   go_wp2_with fail
   refine (HG2.out _).mono ?_
   rintro e w2 ⟨rfl,hb⟩
   go_wp2_with fail
   go_ret2
   exact ⟨pair_eq (by rw [HE.out];rfl),hb⟩
 · have hto:=goesS_nat hR
   rw [zag] at hto
   have hwf:(Lit.int .i64 to).wf=true:=WalkArith.wf_i64 (by omega)
   clear hR
   go_enter Tryz.func147,Tryz.ntmps147
   go_wp2_with fail
   refine (HG2.out _).mono ?_
   rintro e w2 ⟨rfl,hb⟩
   have hc2:=(hb.cell (p:=⟨cb,0,none⟩) hcb).trans hcl
   have hm2:ShutIn w2 mb m bl:=HM.out.keep (hb.block mb HM.out.lt)
   have HH:=qz (has_any mb m bl to w2 hm2 hwf)
   clear hm2
   go_wp2_with fail
   refine HH.out.mono ?_
   rintro e w3 ⟨rfl,hb3⟩
   have hb4:=hb.trans (hb3.mono hb.size)
   go_wp2_with fail
   go_ret2
   exact ⟨pair_eq (by rw [HE.out];simp),hb4⟩
end Go.Proofs.YtknnnbpgkfaapaaGreat.Vm
namespace Go.Proofs.YtknnnbpgkfaapaaGreat.Vm
open Go Go.RowKit Go.Maps
structure Made (fs:Nat)(W H:Int)(s:ByteArray)(bl:List Int)(to b:Nat)(w:World)(c0 c1 c2 gb cb mb m:Nat):Prop where
 i0:b<=c0/\c0<w.heap.size
 i1:b<=c1/\c1<w.heap.size
 i2:b<=c2/\c2<w.heap.size
 i3:b<=gb/\gb<w.heap.size
 i4:b<=cb/\cb<w.heap.size
 i5:b<=mb/\mb<w.heap.size
 k0:w.cell? ⟨c0,0,none⟩=some (.int .i64 s.size)
 k1:w.cell? ⟨c1,0,none⟩=some (.int .i64 to)
 k2:w.cell? ⟨c2,0,none⟩=some (.func (.func fs) #[] #[.pointer (some ⟨gb,0,none⟩),.pointer (some ⟨cb,0,none⟩)])
 k3:GridAt w gb W H s
 k4:w.cell? ⟨cb,0,none⟩=some (.map (some mb))
 k5:ShutIn w mb m bl
def pairV (x:Nat × Nat):Array Value:=#[.int .i64 (x.1:Nat),.int .i64 (x.2:Nat)]
theorem GridAt.same {w w':World}{b:Nat}{W H:Int}{s:ByteArray}(h:GridAt w b W H s)(hb:w'.heap[b]?=w.heap[b]?):GridAt w' b W H s :=
 ⟨(World.cell?_of_block (w:=w) hb).trans h.1,(World.cell?_of_block (w:=w) hb).trans h.2.1,(World.cell?_of_block (w:=w) hb).trans h.2.2⟩
section
variable {W H:Int} {s:ByteArray} {bl:List Int} {to b:Nat} {w:World} {c0 c1 c2 gb cb mb m:Nat}
theorem lead_offers (n:Nat)(hn:2<=n)(h:Okay W H s)(hto:to<s.size)(hM:Made 133 W H s bl to b w c0 c1 c2 gb cb mb m) :
 Offers Fence.wide n Tryz.prog 146 #[.pointer (some ⟨c0,0,none⟩),.pointer (some ⟨c1,0,none⟩),.pointer (some ⟨c2,0,none⟩)] pairV b
  (Begun (zav W H (zaa s) bl) to s.size) (AllCome (zav W H (zaa s) bl) to s.size) (Begun (zav W H (zaa s) bl) to s.size) w:=fun l J Jx V hV hJ hJx hY h0=>by
 have hle:=h.le
 have hg:=lead_graph (W:=W) (H:=H) (l:=zaa s) (bl:=bl) h.w1 (by rw [zag];exact h.len)
 rw [zag] at hg
 refine iter_any Fence.wide n trivial rfl hn l 133 #[.pointer (some ⟨gb,0,none⟩),.pointer (some ⟨cb,0,none⟩)] trivial (by intro args w;kernel_rfl) b w.heap.size s.size to hto (by omega) c0 c1 c2 _ _ hg V
  hM.i0.1 hM.i0.2 hM.i1.1 hM.i1.2 hM.i2.1 hM.i2.2 hV.size (by have:=hM.i0;omega)
  ((hV.cell (p:=⟨c0,0,none⟩) hM.i0.2).trans hM.k0) ((hV.cell (p:=⟨c1,0,none⟩) hM.i1.2).trans hM.k1) ((hV.cell (p:=⟨c2,0,none⟩) hM.i2.2).trans hM.k2) ?_ J Jx hJ hJx hY h0
 intro A c way hc hw1 hw2 hA hsz
 have hk:∀ k,b<=k->k<w.heap.size->A.heap[k]?=w.heap[k]?:=fun k h1 h2=>(hA k h1 h2).trans (hV.block k h2)
 exact callsIn_wide.2 (lead_any W H s bl c way gb cb mb m A h hc ⟨hw1,hw2⟩ (hM.k3.same (hk gb hM.i3.1 hM.i3.2)) ((World.cell?_of_block (w:=w) (hk cb hM.i4.1 hM.i4.2)).trans hM.k4) (hM.k5.keep (hk mb hM.i5.1 hM.i5.2)) (by have:=hM.i3.2;omega) (by have:=hM.i4.2;omega))
theorem from_offers (n:Nat)(hn:2<=n)(h:Okay W H s)(hto:to<s.size)(hM:Made 147 W H s bl to b w c0 c1 c2 gb cb mb m) :
 Offers Fence.wide n Tryz.prog 146 #[.pointer (some ⟨c0,0,none⟩),.pointer (some ⟨c1,0,none⟩),.pointer (some ⟨c2,0,none⟩)] pairV b
  (Begun (backS' W H (zaa s) bl) to s.size) (AllCome (backS' W H (zaa s) bl) to s.size) (Begun (backS' W H (zaa s) bl) to s.size) w:=fun l J Jx V hV hJ hJx hY h0=>by
 have hle:=h.le
 have hg:=from_graph (W:=W) (H:=H) (l:=zaa s) (bl:=bl)
 rw [zag] at hg
 refine iter_any Fence.wide n trivial rfl hn l 147 #[.pointer (some ⟨gb,0,none⟩),.pointer (some ⟨cb,0,none⟩)] trivial (by intro args w;kernel_rfl) b w.heap.size s.size to hto (by omega) c0 c1 c2 _ _ hg V
  hM.i0.1 hM.i0.2 hM.i1.1 hM.i1.2 hM.i2.1 hM.i2.2 hV.size (by have:=hM.i0;omega)
  ((hV.cell (p:=⟨c0,0,none⟩) hM.i0.2).trans hM.k0) ((hV.cell (p:=⟨c1,0,none⟩) hM.i1.2).trans hM.k1) ((hV.cell (p:=⟨c2,0,none⟩) hM.i2.2).trans hM.k2) ?_ J Jx hJ hJx hY h0
 intro A c way hc hw1 hw2 hA hsz
 have hk:∀ k,b<=k->k<w.heap.size->A.heap[k]?=w.heap[k]?:=fun k h1 h2=>(hA k h1 h2).trans (hV.block k h2)
 exact callsIn_wide.2 (from_any W H s bl c way gb cb mb m A h (hM.k3.same (hk gb hM.i3.1 hM.i3.2)) ((World.cell?_of_block (w:=w) (hk cb hM.i4.1 hM.i4.2)).trans hM.k4) (hM.k5.keep (hk mb hM.i5.1 hM.i5.2)) (by have:=hM.i4.2;omega))
end
theorem nearestFirst_any (N to:Nat)(f:Value)(hf:∃ fs lbs,f=.func (.func fs) #[] lbs)(w:World) :
 Calls Tryz.prog 132 #[.int .i64 (N:Nat),.int .i64 (to:Nat),f] w fun e w' =>
  e=.returned (.func (.func 146) #[] #[.pointer (some ⟨w.heap.size,0,none⟩),.pointer (some ⟨w.heap.size+1,0,none⟩),.pointer (some ⟨w.heap.size+1+1,0,none⟩)]) /\
  w'=((w.alloc (.cells #[.int .i64 (N:Nat)] 3)).alloc (.cells #[.int .i64 (to:Nat)] 3)).alloc (.cells #[f] 179):=by
 obtain ⟨fs,lbs,rfl⟩:=hf
 go_enter Tryz.func132,Tryz.ntmps132
 go_wp2
 go_ret
 exact ⟨rfl,rfl⟩
theorem cell_top (w:World)(v:Value)(t:TypeId){k:Nat}(hk:k=w.heap.size):(w.alloc (.cells #[v] t)).cell? ⟨k,0,none⟩=some v:=by subst hk;simp
theorem free_top (w:World)(v:Value)(t:TypeId){k:Nat}(hk:k=w.heap.size):(w.alloc (.cells #[v] t)).frozen? ⟨k,0,none⟩=false:=by subst hk;simp
theorem cell_low {w:World}{k:Nat}{v:Value}(h:w.cell? ⟨k,0,none⟩=some v)(o:Obj):(w.alloc o).cell? ⟨k,0,none⟩=some v :=
 (World.cell?_alloc_lt w o _ (World.block_lt_of_cell? w _ h)).trans h
theorem made_of {fs:Nat}{W H:Int}{s:ByteArray}{bl:List Int}{to m:Nat}{w w1:World}(hz:w.heap.size+1<w1.heap.size)(hb:Below w.heap.size w w1)(hg:GridAt w1 w.heap.size W H s)(hm:ShutIn w1 (w.heap.size+1) m bl){f:Value}(hf:f=.func (.func fs) #[] #[.pointer (some ⟨w.heap.size,0,none⟩),.pointer (some ⟨w1.heap.size,0,none⟩)]:=by rfl) :
 Made fs W H s bl to w.heap.size ((((w1.alloc (.cells #[.map (some (w.heap.size+1))] 176)).alloc (.cells #[.int .i64 (s.size:Nat)] 3)).alloc (.cells #[.int .i64 (to:Nat)] 3)).alloc (.cells #[f] 179)) (w1.heap.size+1) (w1.heap.size+1+1) (w1.heap.size+1+1+1) w.heap.size w1.heap.size (w.heap.size+1) m /\
 Below w.heap.size w ((((w1.alloc (.cells #[.map (some (w.heap.size+1))] 176)).alloc (.cells #[.int .i64 (s.size:Nat)] 3)).alloc (.cells #[.int .i64 (to:Nat)] 3)).alloc (.cells #[f] 179)):=by
 subst hf
 have h1:Below w1.heap.size w1 ((((w1.alloc (.cells #[.map (some (w.heap.size+1))] 176)).alloc (.cells #[.int .i64 (s.size:Nat)] 3)).alloc (.cells #[.int .i64 (to:Nat)] 3)).alloc (.cells #[.func (.func fs) #[] #[.pointer (some ⟨w.heap.size,0,none⟩),.pointer (some ⟨w1.heap.size,0,none⟩)]] 179)) :=
  ((((zX _ _).alloc (zL _) _).alloc (by simp) _).alloc (by simp;omega) _).alloc (by simp;omega) _
 refine ⟨⟨?_,?_,?_,?_,?_,?_,?_,?_,?_,hg.below h1 (by omega),?_,hm.keep (h1.block _ hz)⟩,hb.trans (h1.mono (by omega))⟩
 · exact ⟨by omega,by simp <;> omega⟩
 · exact ⟨by omega,by simp <;> omega⟩
 · exact ⟨by omega,by simp <;> omega⟩
 · exact ⟨by omega,by simp <;> omega⟩
 · exact ⟨by omega,by simp <;> omega⟩
 · exact ⟨by omega,by simp <;> omega⟩
 · exact cell_low (cell_low (cell_top _ _ _ (by simp)) _) _
 · exact cell_low (cell_top _ _ _ (by simp)) _
 · exact cell_top _ _ _ (by simp)
 · exact cell_low (cell_low (cell_low (cell_top _ _ _ rfl) _) _) _
def MakesPost (fs:Nat)(W H:Int)(s:ByteArray)(bl:List Int)(to:Nat)(w:World)(e:Ending)(w':World):Prop :=
 ∃ c0 c1 c2 gb cb mb m,e=.returned (.func (.func 146) #[] #[.pointer (some ⟨c0,0,none⟩),.pointer (some ⟨c1,0,none⟩),.pointer (some ⟨c2,0,none⟩)]) /\
   Made fs W H s bl to w.heap.size w' c0 c1 c2 gb cb mb m/\Below w.heap.size w w'
set_option maxHeartbeats 400000 in
theorem leadingTo_any (W H:Int)(s:ByteArray)(bl:List Int)(to B:Nat)(a:Option Addr)(n c:Nat)(w:World)(hs:s.size<=1000000)(h:RowZ .i64 w B a n c bl)(hB:B<=w.heap.size)(hw:∀ z∈bl,(Lit.int .i64 z).wf=true)(hn:n<=1000000) :
 Calls Tryz.prog 116 #[zam W H s,.int .i64 (to:Nat),.slice a n c] w (MakesPost 133 W H s bl to w):=by
 have hg0:=zbq w W H s
 have hb0:Below w.heap.size w (w.alloc (zar W H s)):=(zX _ _).alloc (zL _) _
 have HS:=qz (setOf_any a n c B bl (w.alloc (zar W H s)) (h.keep (fun p hp=>World.cell?_alloc_lt w _ p (by omega))) (by simp;omega) hw hn)
 have hz0:(w.alloc (zar W H s)).heap.size=w.heap.size+1:=by simp
 clear h hw
 go_enter Tryz.func116,Tryz.ntmps116
 go_wp2_with fail
 refine HS.out.mono ?_
 rintro e w1 ⟨rfl,hm,hb1⟩
 have hb2:=hb0.trans (hb1.mono (by omega))
 have hg1:=hg0.below hb1 (by omega)
 obtain ⟨g1,g2,g3⟩:=id hg1
 have hz1:w.heap.size+1<w1.heap.size:=by have:=hm.lt;omega
 have q3:(w1.alloc (.cells #[.map (some (w.heap.size+1))] 176)).cell? ⟨w.heap.size,2,none⟩=some (.string s):=(World.cell?_alloc_lt w1 _ _ (show w.heap.size<w1.heap.size by omega)).trans g3
 rw [hz0] at hm
 have HM:=qz hm
 have HG:=qz hg1
 have HN:=qz fun w'=>nearestFirst_any s.size to (.func (.func 133) #[] #[.pointer (some ⟨w.heap.size,0,none⟩),.pointer (some ⟨w1.heap.size,0,none⟩)]) ⟨_,_,rfl⟩ w'
 clear hm hg0 hg1 hb1 g1 g2 g3
 go_wp2_with fail
 refine (HN.out _).mono ?_
 rintro e w2 ⟨rfl,rfl⟩
 go_wp2_with fail
 go_ret
 have hM:=made_of (fs:=133) (to:=to) (by omega) hb2 HG.out HM.out
 exact ⟨_,_,_,_,_,_,_,rfl,hM.1,hM.2⟩
set_option maxHeartbeats 400000 in
theorem reachedFrom_any (W H:Int)(s:ByteArray)(bl:List Int)(to B:Nat)(a:Option Addr)(n c:Nat)(w:World)(hs:s.size<=1000000)(h:RowZ .i64 w B a n c bl)(hB:B<=w.heap.size)(hw:∀ z∈bl,(Lit.int .i64 z).wf=true)(hn:n<=1000000) :
 Calls Tryz.prog 137 #[zam W H s,.int .i64 (to:Nat),.slice a n c] w (MakesPost 147 W H s bl to w):=by
 have hg0:=zbq w W H s
 have hb0:Below w.heap.size w (w.alloc (zar W H s)):=(zX _ _).alloc (zL _) _
 have HS:=qz (setOf_any a n c B bl (w.alloc (zar W H s)) (h.keep (fun p hp=>World.cell?_alloc_lt w _ p (by omega))) (by simp;omega) hw hn)
 have hz0:(w.alloc (zar W H s)).heap.size=w.heap.size+1:=by simp
 clear h hw
 go_enter Tryz.func137,Tryz.ntmps137
 go_wp2_with fail
 refine HS.out.mono ?_
 rintro e w1 ⟨rfl,hm,hb1⟩
 have hb2:=hb0.trans (hb1.mono (by omega))
 have hg1:=hg0.below hb1 (by omega)
 obtain ⟨g1,g2,g3⟩:=id hg1
 have hz1:w.heap.size+1<w1.heap.size:=by have:=hm.lt;omega
 have q3:(w1.alloc (.cells #[.map (some (w.heap.size+1))] 176)).cell? ⟨w.heap.size,2,none⟩=some (.string s):=(World.cell?_alloc_lt w1 _ _ (show w.heap.size<w1.heap.size by omega)).trans g3
 rw [hz0] at hm
 have HM:=qz hm
 have HG:=qz hg1
 have HN:=qz fun w'=>nearestFirst_any s.size to (.func (.func 147) #[] #[.pointer (some ⟨w.heap.size,0,none⟩),.pointer (some ⟨w1.heap.size,0,none⟩)]) ⟨_,_,rfl⟩ w'
 clear hm hg0 hg1 hb1 g1 g2 g3
 go_wp2_with fail
 refine (HN.out _).mono ?_
 rintro e w2 ⟨rfl,rfl⟩
 go_wp2_with fail
 go_ret
 have hM:=made_of (fs:=147) (to:=to) (by omega) hb2 HG.out HM.out
 exact ⟨_,_,_,_,_,_,_,rfl,hM.1,hM.2⟩
end Go.Proofs.YtknnnbpgkfaapaaGreat.Vm
namespace Go.Proofs.YtknnnbpgkfaapaaGreat.Vm
open Go Go.RowKit Go.Maps Go.Shelf
attribute [local go_sem] Oper.semAt_some
def toldZ (N:Nat)(pre:List (Nat × Nat)):List Int:=pre.foldl (fun l x=>l.set x.1 (x.2:Int)) (List.replicate N (-1))
theorem toldZ_snoc (N:Nat)(pre:List (Nat × Nat))(x:Nat × Nat):toldZ N (pre++[x])=(toldZ N pre).set x.1 (x.2:Int):=by simp [toldZ,List.foldl_append]
theorem toldZ_len (N:Nat)(pre:List (Nat × Nat)):(toldZ N pre).length=N:=by
 have:∀ (pre:List (Nat × Nat)) (l:List Int),(pre.foldl (fun l x=>l.set x.1 (x.2:Int)) l).length=l.length:=by
  intro pre
  induction pre with
  | nil=>intro l;rfl
  | cons x pre ih=>intro l;rw [List.foldl_cons,ih,List.length_set]
 rw [toldZ,this,List.length_replicate]
theorem snoc_ind {α:Type}{P:List α->Prop}(h0:P [])(h:∀ l x,P l->P (l++[x]))(l:List α):P l:=by
 rw [<- List.reverse_reverse l]
 induction l.reverse with
 | nil=>exact h0
 | cons x t ih=>rw [List.reverse_cons];exact h _ _ ih
theorem toldZ_at (N:Nat)(pre:List (Nat × Nat)):∀ c,c<N->(∃ e,(c,e)∈pre/\(toldZ N pre).getD c 0=(e:Int))\/((∀ e,(c,e) ∉ pre)/\(toldZ N pre).getD c 0=-1):=by
 refine snoc_ind (P:=fun pre=>∀ c,c<N->(∃ e,(c,e)∈pre/\(toldZ N pre).getD c 0=(e:Int))\/((∀ e,(c,e) ∉ pre)/\(toldZ N pre).getD c 0=-1)) ?_ (fun l x ih=>?_) pre
 · intro c hc
   exact .inr ⟨by simp,by simp [toldZ,List.getD,hc]⟩
 · intro c hc
   rw [toldZ_snoc]
   by_cases hx:c=x.1
   · subst hx
     exact .inl ⟨x.2,by simp,by simp [List.getD,toldZ_len,hc]⟩
   · have e1:((toldZ N l).set x.1 (x.2:Int)).getD c 0=(toldZ N l).getD c 0:=by simp [List.getD,Ne.symm hx]
     rw [e1]
     rcases ih c hc with ⟨e,h1,h2⟩|⟨h1,h2⟩
     · exact .inl ⟨e,by simp [h1],h2⟩
     · refine .inr ⟨fun e he=>?_,h2⟩
       rcases List.mem_append.1 he with h3|h3
       · exact h1 e h3
       · have:(c,e)=x:=by simpa using h3
         exact hx (by rw [<- this])
theorem toldZ_field {S:Nat->List Nat}{s N:Nat}{xs:List (Nat × Nat)}(h:AllCome S s N xs):IsField S s N (toldZ N xs):=by
 refine ⟨toldZ_len _ _,fun c hc=>?_⟩
 rcases toldZ_at N xs c hc with ⟨e,h1,h2⟩|⟨h1,h2⟩
 · exact .inl ⟨e,h2,(h.1.at h1).2.2⟩
 · refine .inr ⟨h2,fun n hn=>?_⟩
   obtain ⟨k,_,hk⟩:=hn.far
   exact h1 k (h.2 c k hk)
set_option maxHeartbeats 400000 in
theorem field_no (W H to:Int)(s:ByteArray)(a:Option Addr)(n c:Nat)(w:World)(hs:s.size<=maxLen)(hf:zac (zaa s) to=false) :
 Calls Tryz.prog 87 #[zam W H s,.int .i64 to,.slice a n c] w fun e w'=>e=.returned (.tuple #[.slice none 0 0,.int .i64 1])/\Below w.heap.size w w':=by
 have hfl:=fun w=>zcd W H to s w hs
 rw [hf] at hfl
 have HFL:=qz hfl
 have hB:Below w.heap.size w (w.alloc (zar W H s)):=(zX _ _).alloc (zL _) _
 clear hfl hf
 unfold maxLen at hs
 go_enter Tryz.func87,Tryz.ntmps87
 go_wp2_with fail
 refine (HFL.out _).mono ?_
 rintro e w1 ⟨rfl,hb⟩
 have hb2:=hB.trans (hb.mono hB.size)
 go_wp2
 go_ret2
 exact ⟨rfl,hb2⟩
set_option maxHeartbeats 2000000 in
theorem field_yes (W H:Int)(to:Nat)(s:ByteArray)(bl:List Int)(a:Option Addr)(n c B:Nat)(w:World)(h:Okay W H s)(hf:zac (zaa s) to=true)(hr:RowZ .i64 w B a n c bl)(hB:B<=w.heap.size)(hw:∀ z∈bl,(Lit.int .i64 z).wf=true)(hn:n<=1000000) :
 Calls Tryz.prog 87 #[zam W H s,.int .i64 (to:Nat),.slice a n c] w fun e w' =>
  ∃ lb l,e=.returned (.tuple #[.slice (some ⟨lb,0,none⟩) s.size s.size,.int .i64 0])/\IsField (zav W H (zaa s) bl) to s.size l/\NumsZ w' w.heap.size lb l/\Below w.heap.size w w':=by
 have hle:=h.le
 have hto:=zaq hf
 rw [zag] at hto
 have hfl:=fun w=>zcd W H to s w (by unfold maxLen;omega)
 rw [hf] at hfl
 have HFL:=qz hfl
 have HOK:=qz h
 have hgb0:=zbq w W H s
 have hBg:Below w.heap.size w (w.alloc (zar W H s)):=(zX _ _).alloc (zL _) _
 have hr0:RowZ .i64 (w.alloc (zar W H s)) B a n c bl:=hr.keep (fun p hp=>World.cell?_alloc_lt w _ p (by omega))
 have hz0:(w.alloc (zar W H s)).heap.size=w.heap.size+1:=by simp
 have HW:=qz hw
 clear hfl hf hr h hw
 refine (callsIn_wide (n:=9)).1 ?_
 refine callsIn_of_wp_marks Tryz.func87 rfl trivial ?_ rfl
 simp only [Tryz.ntmps87,List.size_toArray,List.length_cons,List.length_nil,Nat.reduceAdd,Nat.reduceSub,Array.replicate_succ,Array.replicate_zero,List.push_toArray,List.append_toArray,List.nil_append,List.cons_append]
 gi_wp2_with fail
 refine ⟨trivial,(callsIn_wide.2 (HFL.out _)).mono ?_⟩
 rintro e w1 ⟨rfl,hb1⟩
 have hg1:=hgb0.below (B:=w.heap.size+1) (hb1.mono (by simp)) (by omega)
 have hr1:RowZ .i64 w1 B a n c bl:=hr0.below (hb1.mono (by simp;omega))
 have hB1:=hBg.trans (hb1.mono (by simp))
 have hz1:w.heap.size<w1.heap.size:=by have:=hb1.size;simp at this;omega
 have hmk:=make_ints w1 s.size (by omega)
 have hnz:=numsZ_made w1 s.size (by omega)
 have hbm:Below w1.heap.size w1 (w1.alloc (.cells ⟨zan (List.replicate s.size 0)⟩ 3)):=(zX _ _).alloc (zL _) _
 have hz2:(w1.alloc (.cells ⟨zan (List.replicate s.size 0)⟩ 3)).heap.size=w1.heap.size+1:=by simp
 generalize w1.alloc (.cells ⟨zan (List.replicate s.size 0)⟩ 3)=w2 at hmk hnz hbm hz2
 obtain ⟨g1,g2,g3⟩:=id hg1
 have HNZ:=qz hnz
 have HG1:=qz hg1
 have HR1:=qz hr1
 clear hgb0 hBg hr0 hz0 hnz hg1 hr1 hb1 g1 g2
 gi_wp2_with fail
 gi_loopg [22] s.size (fun k vi wr=>∃ i:Nat,vi=.int .i64 i/\i+k=s.size/\NumsZ wr w1.heap.size w1.heap.size (fillZ s.size i)/\wr.cell? ⟨w1.heap.size+1,0,none⟩=some (.slice (some ⟨w1.heap.size,0,none⟩) s.size s.size)/\Below w1.heap.size w1 wr/\w1.heap.size+1<wr.heap.size)
 case atStart =>
  exact ⟨0,rfl,by omega,by rw [fillZ_start];exact HNZ.out.alloc _,cell_top _ _ _ (by omega),hbm.alloc (by omega) _,by simp;omega⟩
 case round =>
  obtain ⟨i,rfl,hik,hnz,hcl,hbel,hsz⟩:=hrel
  have HNZ:=qz hnz
  by_cases hi:i<s.size
  · have q1:=hnz.cell (i:=i) (by rw [fillZ_len];exact hi)
    have q2:=hnz.frozen i
    clear hnz
    gi_wp2_with fail
    gi_roundg (gk-1)
    case measure=>omega
    case rel =>
     refine ⟨i+1,by go_num,by omega,?_,?_,hbel.setCell (p:=⟨w1.heap.size,i,none⟩) (zL _) _,by simp [World.setCell];omega⟩
     · rw [<- fillZ_set];exact HNZ.out.set i (-1)
     · rw [<- hcl];exact World.cell?_of_block (Below.heap_setCell _ _ _ _ (by simp))
  · obtain rfl:i=s.size:=by omega
    clear hnz
    have hg2:=HG1.out.below hbel hz1
    have hr2:=HR1.out.below (hbel.mono (by omega))
    have hB2:=hB1.trans (hbel.mono (by omega))
    have HLT:=qz (leadingTo_any W H s bl to B a n c wr (by omega) hr2 (by have:=hB2.size;omega) HW.out hn)
    obtain ⟨g1,g2,g3⟩:=id hg2
    have HNZ2:=qz (fillZ_end s.size ▸ HNZ.out)
    clear HNZ hr2 hg2 HG1 HR1 hi
    gi_wp2_with fail
    refine ⟨trivial,(callsIn_wide.2 HLT.out).mono ?_⟩
    rintro e w3 ⟨c0,c1,c2,gb,cb,mb,m,rfl,hM,hb3⟩
    have hB3:=hB2.trans (hb3.mono (by have:=hB2.size;omega))
    have HNZ3:=qz (HNZ2.out.below hb3 (by omega))
    have hcl3:=(hb3.cell (p:=⟨w1.heap.size+1,0,none⟩) hsz).trans hcl
    have HOF:=qz (lead_offers 8 (by omega) HOK.out (by omega) hM)
    have HB3:=qz hB3
    clear HLT g1 g2 g3 HNZ2 hcl
    gi_wp2_with fail
    have hs3:=hb3.size
    have hcl4:Hid (w3.cell? ⟨w1.heap.size+1,0,none⟩=some (.slice (some ⟨w1.heap.size,0,none⟩) s.size s.size)):=hcl3
    clear hcl3 hB3
    refine rounds_set rfl (by omega) (gf:=146) (lb:=#[.pointer (some ⟨c0,0,none⟩),.pointer (some ⟨c1,0,none⟩),.pointer (some ⟨c2,0,none⟩)]) rfl trivial (by intro args w;kernel_rfl) HOF.out hs3 (fun _=>rfl)
     (fun pre V=>NumsZ V w1.heap.size w1.heap.size (toldZ s.size pre)/\V.cell? ⟨w1.heap.size+1,0,none⟩=some (.slice (some ⟨w1.heap.size,0,none⟩) s.size s.size)/\Below w.heap.size w V)
     (fun _ _ _=>False)
     (fun pre A A' h hb=>⟨h.1.below hb (by omega),(hb.cell (p:=⟨w1.heap.size+1,0,none⟩) (show w1.heap.size+1<w3.heap.size by omega)).trans h.2.1,h.2.2.trans (hb.mono (by omega))⟩)
     (fun _ _ _ _ h _=>h) ⟨HNZ3.out,hcl4.out,HB3.out⟩
     (fun x=>[(33,.int .i64 (x.1:Nat)),(34,.int .i64 (x.2:Nat)),(10,.int .i64 (x.1:Nat)),(11,.int .i64 (x.2:Nat))]) ?assign ?body ?done ?stop
    case assign =>
     intro l x V K hK
     simp only [setAll,List.setIfInBounds_toArray,List.set_cons_succ,List.set_cons_zero] at hK
     simp only [pairV]
     gi_wp2
     exact hK
    case body =>
     rintro l pre ⟨x,d⟩ V ⟨hnz,hcl,hbel'⟩ hok
     obtain ⟨hx,hd,_⟩:=hok.last
     simp only [] at hx hd
     have q1:=hnz.cell (i:=x) (by rw [toldZ_len];exact hx)
     have q2:=hnz.frozen x
     have HNZ:=qz hnz
     clear hnz hok
     simp only [setAll,List.setIfInBounds_toArray,List.set_cons_succ,List.set_cons_zero]
     gi_wp2
     refine ⟨(Tame.refl _ V).setCell (p:=⟨w1.heap.size,x,none⟩) (show w1.heap.size<wr.heap.size by omega) _,?_,?_,hbel'.setCell (p:=⟨w1.heap.size,x,none⟩) (show w.heap.size<=w1.heap.size by omega) _⟩
     · rw [toldZ_snoc];exact HNZ.out.set x (d:Int)
     · rw [<- hcl];exact World.cell?_of_block (Below.heap_setCell _ _ _ _ (by simp))
    case done =>
     rintro D xs V hD hS ⟨hnz,hcl,hbel'⟩ hK
     gi_wp2
     refine ⟨by simp,.inl ⟨_,_,rfl,run_takeDeferred hK,?_⟩⟩
     exact ⟨_,results_tmp2 rfl _ _ _,w1.heap.size,_,rfl,toldZ_field hS,(hnz.below (below_put hD V) (by omega)).mono (by omega),hbel'.trans (below_put (by omega) V)⟩
    case stop =>
     rintro D c pre V hD hSp h _
     exact h.elim
end Go.Proofs.YtknnnbpgkfaapaaGreat.Vm
namespace Go.Proofs.YtknnnbpgkfaapaaGreat.Vm
open Go Go.RowKit Go.Maps Go.Shelf
attribute [local go_sem] Oper.semAt_some
theorem farG_no1 {W H:Int}{l:List Nat}{bl:List Int}{a b:Int}(h:zac l a=false):farG W H l bl a b=-1:=by unfold farG;rw [if_neg (by rw [h];simp)]
theorem farG_no2 {W H:Int}{l:List Nat}{bl:List Int}{a b:Int}(h:zac l b=false):farG W H l bl a b=-1:=by unfold farG;rw [if_neg (by rw [h];simp)]
theorem farG_yes {W H:Int}{l:List Nat}{bl:List Int}{a b:Nat}(h1:zac l a=true)(h2:zac l b=true):farG W H l bl a b=farI (zav W H l bl) b a:=by unfold farG;rw [if_pos ⟨h1,h2⟩];simp
theorem ret_int {a b:Int}(h:a=b):Ending.returned (.int .i64 a)=.returned (.int .i64 b):=by rw [h]
def FarPost (w:World)(W H:Int)(s:ByteArray)(bl:List Int)(a b:Int)(e:Ending)(w':World):Prop:=e=.returned (.int .i64 (farG W H (zaa s) bl a b))/\Below w.heap.size w w'
attribute [local go_sem] Oper.semAt_some
noncomputable def nearG (W H:Int)(l:List Nat)(bl of:List Int)(fr:Int):Int × Int:=nearS (fun x=>farG W H l bl fr x) of
theorem nearS_none {d:Int->Int}:∀ of:List Int,(∀ x,d x=-1)->nearS d of=(-1,-1):=by
 intro of h
 refine IsNear.only (nearS_is d of) (.inl ⟨rfl,fun x _=>by rw [h x];omega⟩)
theorem nearG_no {W H:Int}{l:List Nat}{bl of:List Int}{fr:Int}(h:zac l fr=false):nearG W H l bl of fr=(-1,-1):=nearS_none of fun _=>farG_no1 h
theorem ret_ii {R:Int × Int}{a b:Int}(h:(a,b)=R):Ending.returned (.tuple #[.int .i64 a,.int .i64 b])=.returned (.tuple #[.int .i64 R.1,.int .i64 R.2]):=by rw [<- h]
def NearPost (w:World)(W H:Int)(s:ByteArray)(bl of:List Int)(fr:Int)(e:Ending)(w':World):Prop :=
 e=.returned (.tuple #[.int .i64 (nearG W H (zaa s) bl of fr).1,.int .i64 (nearG W H (zaa s) bl of fr).2])/\Below w.heap.size w w'
set_option maxHeartbeats 400000 in
theorem nearest_no (W H fr:Int)(s:ByteArray)(bl of:List Int)(a a':Option Addr)(n c n' c':Nat)(w:World)(hs:s.size<=maxLen)(hf:zac (zaa s) fr=false) :
 Calls Tryz.prog 119 #[zam W H s,.int .i64 fr,.slice a' n' c',.slice a n c] w (NearPost w W H s bl of fr):=by
 have hfl:=fun w=>zcd W H fr s w hs
 have HE:=qz (nearG_no (W:=W) (H:=H) (bl:=bl) (of:=of) hf)
 rw [hf] at hfl
 have HFL:=qz hfl
 have hB:Below w.heap.size w (w.alloc (zar W H s)):=(zX _ _).alloc (zL _) _
 clear hfl hf
 unfold maxLen at hs
 go_enter Tryz.func119,Tryz.ntmps119
 go_wp2_with fail
 refine (HFL.out _).mono ?_
 rintro e w1 ⟨rfl,hb⟩
 have hb2:=hB.trans (hb.mono hB.size)
 go_wp2_with fail
 go_ret2
 exact ⟨ret_ii HE.out.symm,hb2⟩
structure Hunt (b1 b2 bx mb m:Nat)(of:List Int)(R:Int × Int)(V:World):Prop where
 k1:V.cell? ⟨b1,0,none⟩=some (.int .i64 R.1)
 f1:V.frozen? ⟨b1,0,none⟩=false
 k2:V.cell? ⟨b2,0,none⟩=some (.int .i64 R.2)
 f2:V.frozen? ⟨b2,0,none⟩=false
 k3:V.cell? ⟨bx,0,none⟩=some (.map (some mb))
 k4:ShutIn V mb m of
section
variable {b1 b2 bx mb m B:Nat} {of:List Int} {R:Int × Int} {V V':World}
theorem Hunt.below (h:Hunt b1 b2 bx mb m of R V)(hb:Below B V V')(h1:b1<B)(h2:b2<B)(h3:bx<B)(h4:mb<B):Hunt b1 b2 bx mb m of R V' :=
 ⟨(hb.cell (p:=⟨b1,0,none⟩) h1).trans h.k1,(hb.frozen (p:=⟨b1,0,none⟩) h1).trans h.f1,(hb.cell (p:=⟨b2,0,none⟩) h2).trans h.k2,(hb.frozen (p:=⟨b2,0,none⟩) h2).trans h.f2,
  (hb.cell (p:=⟨bx,0,none⟩) h3).trans h.k3,h.k4.keep (hb.block mb h4)⟩
theorem Hunt.put (h:Hunt b1 b2 bx mb m of R V)(h12:b1≠b2)(h13:b1≠bx)(h23:b2≠bx)(h14:mb≠b1)(h24:mb≠b2)(x y:Int) :
 Hunt b1 b2 bx mb m of (x,y) ((V.setCell ⟨b1,0,none⟩ (.int .i64 x)).setCell ⟨b2,0,none⟩ (.int .i64 y)):=by
 have e1:∀ (W:World) (p:Nat) (v:Value) (k:Nat),k≠p->(W.setCell ⟨p,0,none⟩ v).heap[k]?=W.heap[k]?:=fun W p v k hk=>Below.heap_setCell W _ v k hk
 refine ⟨?_,?_,?_,?_,?_,?_⟩
 · exact (World.cell?_of_block (e1 _ _ _ _ h12)).trans (World.cell?_setCell_same' _ _ _ (by rw [h.k1];rfl))
 · rw [World.frozen?_setCell,World.frozen?_setCell];exact h.f1
 · exact World.cell?_setCell_same' _ _ _ (by rw [World.cell?_of_block (e1 _ _ _ _ (Ne.symm h12)),h.k2];rfl)
 · rw [World.frozen?_setCell,World.frozen?_setCell];exact h.f2
 · exact (World.cell?_of_block (e1 _ _ _ _ (Ne.symm h23))).trans ((World.cell?_of_block (e1 _ _ _ _ (Ne.symm h13))).trans h.k3)
 · exact h.k4.keep ((e1 _ _ _ _ h24).trans (e1 _ _ _ _ h14))
end
theorem near_head (w:World)(mb m:Nat)(of:List Int)(hm:ShutIn w mb m of):∃ w5,w5=((w.alloc (.cells #[.map (some mb)] 176)).alloc (.cells #[.int .i64 (-1)] 3)).alloc (.cells #[.int .i64 (-1)] 3)/\Below w.heap.size w w5/\w5.heap.size=w.heap.size+3 /\
 Hunt (w.heap.size+1) (w.heap.size+1+1) w.heap.size mb m of (-1,-1) w5:=by
 have h1:Below w.heap.size w (w.alloc (.cells #[.map (some mb)] 176)):=(zX _ _).alloc (zL _) _
 have z1:(w.alloc (.cells #[.map (some mb)] 176)).heap.size=w.heap.size+1:=by simp
 have c1:(w.alloc (.cells #[.map (some mb)] 176)).cell? ⟨w.heap.size,0,none⟩=some (.map (some mb)):=cell_top _ _ _ rfl
 generalize w.alloc (.cells #[.map (some mb)] 176)=u1 at h1 z1 c1
 have h2:Below u1.heap.size u1 (u1.alloc (.cells #[.int .i64 (-1)] 3)):=(zX _ _).alloc (zL _) _
 have z2:(u1.alloc (.cells #[.int .i64 (-1)] 3)).heap.size=w.heap.size+2:=by simp [z1]
 have c2:(u1.alloc (.cells #[.int .i64 (-1)] 3)).cell? ⟨w.heap.size+1,0,none⟩=some (.int .i64 (-1)):=cell_top _ _ _ z1.symm
 have f2:(u1.alloc (.cells #[.int .i64 (-1)] 3)).frozen? ⟨w.heap.size+1,0,none⟩=false:=free_top _ _ _ z1.symm
 generalize u1.alloc (.cells #[.int .i64 (-1)] 3)=u2 at h2 z2 c2 f2
 have h3:Below u2.heap.size u2 (u2.alloc (.cells #[.int .i64 (-1)] 3)):=(zX _ _).alloc (zL _) _
 have h4:=(h1.trans (h2.mono (by omega))).trans (h3.mono (by omega))
 refine ⟨_,rfl,h4,by simp [z2],⟨cell_low c2 _,(h3.frozen (p:=⟨w.heap.size+1,0,none⟩) (show w.heap.size+1<u2.heap.size by omega)).trans f2,cell_top _ _ _ z2.symm,free_top _ _ _ z2.symm,cell_low ((h2.cell (p:=⟨w.heap.size,0,none⟩) (show w.heap.size<u1.heap.size by omega)).trans c1) _,hm.keep (h4.block mb hm.lt)⟩⟩
set_option maxHeartbeats 2000000 in
theorem nearest_yes (W H:Int)(fr:Nat)(s:ByteArray)(bl of:List Int)(a a':Option Addr)(n c n' c' B:Nat)(w:World)(h:Okay W H s)(hf:zac (zaa s) fr=true)
 (hr:RowZ .i64 w B a n c bl) (hr':RowZ .i64 w B a' n' c' of) (hB:B<=w.heap.size) (hw:∀ z∈bl,(Lit.int .i64 z).wf=true) (hw':∀ z∈of,(Lit.int .i64 z).wf=true) (hn:n<=1000000) (hn':n'<=1000000) :
 Calls Tryz.prog 119 #[zam W H s,.int .i64 (fr:Nat),.slice a' n' c',.slice a n c] w (NearPost w W H s bl of fr):=by
 have hle:=h.le
 have hfr:=zaq hf
 rw [zag] at hfr
 have HT:=qz (tells_from (W:=W) (H:=H) (bl:=bl) hf)
 have hfl:=fun w=>zcd W H fr s w (by unfold maxLen;omega)
 rw [hf] at hfl
 have HFL:=qz hfl
 have HOK:=qz h
 have hgb0:=zbq w W H s
 have hBg:Below w.heap.size w (w.alloc (zar W H s)):=(zX _ _).alloc (zL _) _
 have hz0:(w.alloc (zar W H s)).heap.size=w.heap.size+1:=by simp
 have HW:=qz hw
 have HW':=qz hw'
 have HR:=qz hr
 have HR':=qz hr'
 clear hfl hf hr hr' h hw hw'
 refine (callsIn_wide (n:=9)).1 ?_
 refine callsIn_of_wp_marks Tryz.func119 rfl trivial ?_ rfl
 simp only [Tryz.ntmps119,List.size_toArray,List.length_cons,List.length_nil,Nat.reduceAdd,Nat.reduceSub,Array.replicate_succ,Array.replicate_zero,List.push_toArray,List.append_toArray,List.nil_append,List.cons_append]
 gi_wp2_with fail
 refine ⟨trivial,(callsIn_wide.2 (HFL.out _)).mono ?_⟩
 rintro e w1 ⟨rfl,hb⟩
 have hg1:=hgb0.below (B:=w.heap.size+1) (hb.mono (by simp)) (by omega)
 have hB1:=hBg.trans (hb.mono (by simp))
 have hz1:w.heap.size<w1.heap.size:=by have:=hb.size;simp at this;omega
 have HS:=qz (setOf_any a' n' c' B of w1 (HR'.out.below (hB1.mono hB)) (by omega) HW'.out hn')
 clear hgb0 hBg hz0 hb
 gi_wp2_with fail
 refine ⟨trivial,(callsIn_wide.2 HS.out).mono ?_⟩
 rintro e w2 ⟨rfl,hm2,hb2⟩
 have hB2:=hB1.trans (hb2.mono hB1.size)
 have hg2:=hg1.below hb2 hz1
 have hz2:w1.heap.size<w2.heap.size:=hm2.lt
 have HM2:=qz hm2
 have HG2:=qz hg2
 clear hg1 hb2 hm2 HS hg2
 obtain ⟨w5,hw5,hb5,hz5,hH5⟩:=near_head w2 w1.heap.size n' of HM2.out
 have hB5:=hB2.trans (hb5.mono hB2.size)
 obtain ⟨g1,g2,g3⟩:=HG2.out.below hb5 (by omega)
 have HRF:=qz fun w' (h:Below w.heap.size w w')=>reachedFrom_any W H s bl fr B a n c w' (by omega) (HR.out.below (h.mono hB)) (by have:=h.size;omega) HW.out hn
 have HW5:=qz hw5
 have HH5:=qz hH5
 rw [hw5] at g1 g2 g3
 clear hw5 hH5 HM2 HG2 HR HR' HW HW'
 gi_wp2_with fail
 rw [<- HW5.out]
 refine ⟨trivial,(callsIn_wide.2 (HRF.out _ hB5)).mono ?_⟩
 rintro e w6 ⟨c0,c1,c2,gb,cb,mb,m,rfl,hM,hb6⟩
 have hB6:=hB5.trans (hb6.mono hB5.size)
 have hs6:=hb6.size
 have HH6:=qz (HH5.out.below hb6 (by omega) (by omega) (by omega) (by omega))
 have HOF:=qz (from_offers 8 (by omega) HOK.out (by omega) hM)
 clear HH5 HRF g1 g2 g3 hb6 HW5
 gi_wp2_with fail
 refine rounds_set rfl (by omega) (gf:=146) (lb:=#[.pointer (some ⟨c0,0,none⟩),.pointer (some ⟨c1,0,none⟩),.pointer (some ⟨c2,0,none⟩)]) rfl trivial (by intro args w;rfl) HOF.out hs6 (fun _=>rfl)
  (fun pre V=>∃ R,Hunt (w2.heap.size+1) (w2.heap.size+1+1) w2.heap.size w1.heap.size n' of R V/\NearP of pre R/\Below w.heap.size w V)
  (fun cd pre V=>cd=.exit 0/\∃ R,Hunt (w2.heap.size+1) (w2.heap.size+1+1) w2.heap.size w1.heap.size n' of R V/\R=nearG W H (zaa s) bl of fr/\Below w.heap.size w V)
  (fun pre A A' ⟨R,h,h1,h2⟩ hb=>⟨R,h.below hb (by omega) (by omega) (by omega) (by omega),h1,h2.trans (hb.mono (by omega))⟩)
  (fun cd pre A A' ⟨h0,R,h,h1,h2⟩ hb=>⟨h0,R,h.below hb (by omega) (by omega) (by omega) (by omega),h1,h2.trans (hb.mono (by omega))⟩)
  ⟨_,HH6.out,.nil,hB6⟩
  (fun x=>[(25,.int .i64 (x.1:Nat)),(26,.int .i64 (x.2:Nat)),(13,.int .i64 (x.1:Nat)),(14,.int .i64 (x.2:Nat))]) ?assign ?body ?done ?stop
 case assign =>
  intro l x V K hK
  simp only [setAll,List.setIfInBounds_toArray,List.set_cons_succ,List.set_cons_zero] at hK
  simp only [pairV]
  gi_wp2
  exact hK
 case body =>
  rintro l pre ⟨x,d⟩ V ⟨R,hh,hn,hbel⟩ hok
  have hgd:=hok.last
  have hx:=hgd.1
  have hd:=hgd.2.1
  simp only [] at hx hd
  have hbg:Begun (backS' W H (zaa s) bl) fr s.size pre:=fun p y q he=>hok p y (q++[(x,d)]) (by rw [he];simp)
  have HGD:=qz hgd
  have HBG:=qz hbg
  have hwf:(Lit.int .i64 (x:Nat)).wf=true:=WalkArith.wf_i64 (by omega)
  have HHAS:=qz fun V (h:ShutIn V w1.heap.size n' of)=>has_any w1.heap.size n' of x V h hwf
  have hsz:=hbel.size
  have hV:w2.heap.size+1+1<V.heap.size:=World.block_lt_of_cell? V ⟨w2.heap.size+1+1,0,none⟩ hh.k2
  simp only [setAll,List.setIfInBounds_toArray,List.set_cons_succ,List.set_cons_zero]
  clear hok hgd hbg hwf
  rcases hn.form with rfl|⟨b',n1,rfl⟩
  · obtain ⟨k1,f1,k2,f2,k3,k4⟩:=id hh
    simp only [] at k1 k2
    have HN:=qz hn
    have HHH:=qz hh
    have hhas:=HHAS.out V k4
    by_cases hxo:(x:Int)∈of
    · rw [decide_eq_true hxo] at hhas
      have HC:=qz hhas
      have HXO:=qz hxo
      clear hn hh hhas hxo k4
      gi_wp2_with fail
      refine ⟨trivial,(CallsIn.inRound l (callsIn_wide.2 HC.out)).mono ?_⟩
      rintro e V1 ⟨rfl,hv⟩
      have hh1:=HHH.out.below hv (by omega) (by omega) (by omega) (by omega)
      have ht1:Tame w5.heap.size V V1:=.of_below hv
      have hbel1:=hbel.trans (hv.mono (by omega))
      obtain ⟨k1,f1,k2,f2,k3,k4⟩:=id hh1
      simp only [] at k1 k2
      have HH1:=qz (hh1.put (by omega) (by omega) (by omega) (by omega) (by omega) x d)
      have q1:(V1.setCell ⟨w2.heap.size+1,0,none⟩ (.int .i64 (x:Nat))).cell? ⟨w2.heap.size+1+1,0,none⟩=some (.int .i64 (-1)):=(World.cell?_of_block (Below.heap_setCell V1 _ _ _ (by simp))).trans k2
      clear hh1 k4 hv HC HHH
      gi_wp2_with fail
      exact ⟨(ht1.setCell (p:=⟨w2.heap.size+1,0,none⟩) (show w2.heap.size+1<w5.heap.size by omega) _).setCell (p:=⟨w2.heap.size+1+1,0,none⟩) (show w2.heap.size+1+1<w5.heap.size by omega) _,_,HH1.out,HN.out.first HXO.out,
       (hbel1.setCell (p:=⟨w2.heap.size+1,0,none⟩) (show w.heap.size<=w2.heap.size+1 by omega) _).setCell (p:=⟨w2.heap.size+1+1,0,none⟩) (show w.heap.size<=w2.heap.size+1+1 by omega) _⟩
    · rw [decide_eq_false hxo] at hhas
      have HC:=qz hhas
      have HXO:=qz hxo
      clear hn hh hhas hxo k4
      gi_wp2_with fail
      refine ⟨trivial,(CallsIn.inRound l (callsIn_wide.2 HC.out)).mono ?_⟩
      rintro e V1 ⟨rfl,hv⟩
      have hh1:=HHH.out.below hv (by omega) (by omega) (by omega) (by omega)
      have ht1:Tame w5.heap.size V V1:=.of_below hv
      have hbel1:=hbel.trans (hv.mono (by omega))
      have HH1:=qz hh1
      clear hh1 hv HC HHH
      gi_wp2_with fail
      exact ⟨ht1,_,HH1.out,HN.out.not HXO.out,hbel1⟩
  · obtain ⟨k1,f1,k2,f2,k3,k4⟩:=id hh
    simp only [] at k1 k2
    have HN:=qz hn
    have HHH:=qz hh
    have hhas:=HHAS.out V k4
    have e1:((b':Int) != -1)=true:=by rw [bne_iff_ne];omega
    have e2:((b':Int)==-1)=false:=by rw [beq_eq_false_iff_ne];omega
    by_cases hbr:n1<d
    · have HBR:=qz (HN.out.broken HT.out HBG.out HGD.out hbr)
      have e3:decide (n1<d)=true:=by simpa using hbr
      clear hn hh hhas k4
      gi_wp2_with fail
      exact ⟨Tame.refl _ _,rfl,_,HHH.out,HBR.out,hbel⟩
    have hle1:d<=n1:=by omega
    have e3:decide (n1<d)=false:=by simpa using hle1
    have HLE:=qz hle1
    clear hle1
    by_cases hxo:(x:Int)∈of
    · rw [decide_eq_true hxo] at hhas
      have HC:=qz hhas
      have HXO:=qz hxo
      clear hn hh hhas hxo k4
      by_cases hlt:x<b'
      · have e4:decide (x<b')=true:=by simpa using hlt
        have HN2:=qz (HN.out.less HBG.out HGD.out HXO.out HLE.out hlt)
        gi_wp2_with fail
        refine ⟨trivial,(CallsIn.inRound l (callsIn_wide.2 HC.out)).mono ?_⟩
        rintro e V1 ⟨rfl,hv⟩
        have hh1:=HHH.out.below hv (by omega) (by omega) (by omega) (by omega)
        have ht1:Tame w5.heap.size V V1:=.of_below hv
        have hbel1:=hbel.trans (hv.mono (by omega))
        obtain ⟨k1,f1,k2,f2,k3,k4⟩:=id hh1
        simp only [] at k1 k2
        have HH1:=qz (hh1.put (by omega) (by omega) (by omega) (by omega) (by omega) x d)
        have q1:(V1.setCell ⟨w2.heap.size+1,0,none⟩ (.int .i64 (x:Nat))).cell? ⟨w2.heap.size+1+1,0,none⟩=some (.int .i64 n1):=(World.cell?_of_block (Below.heap_setCell V1 _ _ _ (by simp))).trans k2
        clear hh1 k4 hv HC HHH
        gi_wp2_with fail
        exact ⟨(ht1.setCell (p:=⟨w2.heap.size+1,0,none⟩) (show w2.heap.size+1<w5.heap.size by omega) _).setCell (p:=⟨w2.heap.size+1+1,0,none⟩) (show w2.heap.size+1+1<w5.heap.size by omega) _,_,HH1.out,HN2.out,
         (hbel1.setCell (p:=⟨w2.heap.size+1,0,none⟩) (show w.heap.size<=w2.heap.size+1 by omega) _).setCell (p:=⟨w2.heap.size+1+1,0,none⟩) (show w.heap.size<=w2.heap.size+1+1 by omega) _⟩
      · have e4:decide (x<b')=false:=by simpa using hlt
        have HN2:=qz (HN.out.more HBG.out HGD.out HXO.out (by omega))
        gi_wp2_with fail
        refine ⟨trivial,(CallsIn.inRound l (callsIn_wide.2 HC.out)).mono ?_⟩
        rintro e V1 ⟨rfl,hv⟩
        have hh1:=HHH.out.below hv (by omega) (by omega) (by omega) (by omega)
        have ht1:Tame w5.heap.size V V1:=.of_below hv
        have hbel1:=hbel.trans (hv.mono (by omega))
        obtain ⟨k1,f1,k2,f2,k3,k4⟩:=id hh1
        simp only [] at k1 k2
        have HH1:=qz hh1
        clear hh1 k4 hv HC HHH
        gi_wp2_with fail
        exact ⟨ht1,_,HH1.out,HN2.out,hbel1⟩
    · rw [decide_eq_false hxo] at hhas
      have HC:=qz hhas
      have HXO:=qz hxo
      clear hn hh hhas hxo k4
      gi_wp2_with fail
      refine ⟨trivial,(CallsIn.inRound l (callsIn_wide.2 HC.out)).mono ?_⟩
      rintro e V1 ⟨rfl,hv⟩
      have hh1:=HHH.out.below hv (by omega) (by omega) (by omega) (by omega)
      have ht1:Tame w5.heap.size V V1:=.of_below hv
      have hbel1:=hbel.trans (hv.mono (by omega))
      have HH1:=qz hh1
      clear hh1 hv HC HHH
      gi_wp2_with fail
      exact ⟨ht1,_,HH1.out,HN.out.not HXO.out,hbel1⟩
 case done =>
  rintro D xs V hD hS ⟨R,hh,hn,hbel⟩ hK
  have HE:Hid (R=nearG W H (zaa s) bl of fr):=hn.ended HT.out hS
  obtain ⟨k1,f1,k2,f2,k3,k4⟩:=hh
  clear hn hS f1 f2 k3 k4
  gi_wp2
  gi_region
  all_goals
   gi_wp2
   refine ⟨by simp,.inl ⟨_,_,rfl,run_takeDeferred (w:=V.drew) hK,?_⟩⟩
   exact ⟨_,results_tmp2 (t:=8) (u:=9) rfl _ _ _,ret_ii HE.out,hbel.drew.trans (below_put (by omega) _)⟩
 case stop =>
  rintro D cd pre V hD hSp ⟨rfl,R,hh,hR,hbel⟩ hK
  have HE:=qz hR
  obtain ⟨k1,f1,k2,f2,k3,k4⟩:=hh
  clear hR f1 f2 k3 k4
  gi_wp2
  gi_region
  all_goals
   gi_wp2
   refine ⟨by simp,.inl ⟨_,_,rfl,run_takeDeferred (w:=V.drew) hK,?_⟩⟩
   exact ⟨_,results_tmp2 (t:=8) (u:=9) rfl _ _ _,ret_ii HE.out,hbel.drew.trans (below_put (by omega) _)⟩
end Go.Proofs.YtknnnbpgkfaapaaGreat.Vm
namespace Go.Proofs.YtknnnbpgkfaapaaGreat.Vm
open Go Go.RowKit
theorem nearest_any (W H fr:Int)(s:ByteArray)(bl of:List Int)(a a':Option Addr)(n c n' c' B:Nat)(w:World)(h:Okay W H s)
 (hr:RowZ .i64 w B a n c bl) (hr':RowZ .i64 w B a' n' c' of) (hB:B<=w.heap.size) (hw:∀ z∈bl,(Lit.int .i64 z).wf=true) (hw':∀ z∈of,(Lit.int .i64 z).wf=true) (hn:n<=1000000) (hn':n'<=1000000) :
 Calls Tryz.prog 119 #[zam W H s,.int .i64 fr,.slice a' n' c',.slice a n c] w (NearPost w W H s bl of fr):=by
 have hle:=h.le
 cases hf:zac (zaa s) fr
 · exact nearest_no W H fr s bl of a a' n c n' c' w (by unfold maxLen;omega) hf
 · obtain ⟨t,rfl⟩:=Int.eq_ofNat_of_zero_le (zaq hf).1
   exact nearest_yes W H t s bl of a a' n c n' c' B w h hf hr hr' hB hw hw' hn hn'
end Go.Proofs.YtknnnbpgkfaapaaGreat.Vm
