import Derived.Test.YtknnnbpgkfaapaaGreatQ
import Derived.Test.YtknnnbpgkfaapaaGreatVStepMath
import Derived.Test.YtknnnbpgkfaapaaGreatVRefDisps
import Derived.Test.YtknnnbpgkfaapaaGreatVRefFinds
import Derived.Test.YtknnnbpgkfaapaaGreatVTraffic
import Derived.Deep.RegionHeld3
import Derived.Deep.CutRange
import Derived.Deep.QuietTactic
import Derived.BigQuiet
set_option maxRecDepth 100000
set_option linter.unusedSimpArgs false
set_option linter.unusedVariables false
namespace Go.Proofs.YtknnnbpgkfaapaaGreat.Vm
open Go Go.RowKit
abbrev recB (r:Rec):Obj:=.cells #[.int .i64 r.a,.int .i64 r.b,.int .i64 r.c,.int .i64 r.d,.int .i64 r.e] 46
theorem recB_set {V:World}{b j:Nat}{r:Rec}{x:Int}(e:V.heap[b]?=some (recB r))(hj:j<5):(V.setCell ⟨b,j,none⟩ (.int .i64 x)).heap[b]?=some (recB (setF r j x)):=by
 match j,hj with
 | 0,_=>simp [World.setCell,Array.getElem?_modify,e,setF]
 | 1,_=>simp [World.setCell,Array.getElem?_modify,e,setF]
 | 2,_=>simp [World.setCell,Array.getElem?_modify,e,setF]
 | 3,_=>simp [World.setCell,Array.getElem?_modify,e,setF]
 | 4,_=>simp [World.setCell,Array.getElem?_modify,e,setF]
theorem recB_at {V:World}{b:Nat}{r:Rec}(e:V.heap[b]?=some (recB r)):RecAt V b 0 r :=
 ⟨(cell_of_row V b 0 _ _ (0,0) e).trans rfl,(cell_of_row V b 1 _ _ (0,0) e).trans rfl,(cell_of_row V b 2 _ _ (0,0) e).trans rfl,(cell_of_row V b 3 _ _ (0,0) e).trans rfl,(cell_of_row V b 4 _ _ (0,0) e).trans rfl⟩
theorem recB_fz {V:World}{b:Nat}{r:Rec}(e:V.heap[b]?=some (recB r))(i:Nat):V.frozen? ⟨b,i,none⟩=false:=by
 unfold World.frozen?
 rw [e]
 simp
def RoTa (h:Sh):Nat->Prop:=fun b=>h.a1=some ⟨b,0,none⟩/\0<h.n1\/h.a2=some ⟨b,0,none⟩/\0<h.n2
structure MidT (V0 V:World)(bx B:Nat)(h:Sh)(r:Rec)(s:St):Prop where
 box:V.heap[bx]?=some (recB r)
 cp:Copy0 V B h s
 alt:Alt (RoTa h) V0 V
theorem mid_box {V0 V:World}{bx B:Nat}{h:Sh}{r r':Rec}{s:St}{ts:List Rec}(hc:Copy0 V0 B h s)(hb:Below V0.heap.size V0 V)(e:V.heap[bx]?=some (recB r))(hr:r'=r)(ht:ts=s.ts):MidT V0 V bx B h r' ⟨s.tick,s.rs,ts,s.bl⟩:=by
 subst hr ht
 exact ⟨e,hc.calls hb,Alt.ofBelow hb⟩
theorem mid_task {V0 V:World}{bx B lb m:Nat}{h:Sh}{r r':Rec}{s:St}{ts:List Rec}{x:Int}(hc:Copy0 V0 B h s)(hb:Below V0.heap.size V0 V)(e:V.heap[bx]?=some (recB r))(hr:r'=r)(ha:h.a2=some ⟨lb,0,none⟩)(hm:m<s.ts.length)(hx:bx≠lb)(ht:ts=s.ts.set m (setF (s.ts.getD m zr) 3 x)):MidT V0 (V.setCell ⟨lb,m*5+3,none⟩ (.int .i64 x)) bx B h r' ⟨s.tick,s.rs,ts,s.bl⟩:=by
 subst hr ht
 refine ⟨zax e hx,((hc.calls hb).setT ha hm (by omega) x).1,(Alt.ofBelow hb).grown (zaj _ lb _ _) (fun _=>.inr ⟨ha,?_⟩)⟩
 have:=hc.n2
 omega
theorem mid_end {V0 V:World}{bx B lb j:Nat}{h:Sh}{r:Rec}{s:St}(m:MidT V0 V bx B h r s)(ha:h.a1=some ⟨lb,0,none⟩)(hj:j<s.rs.length) :
 Copy0 (((((V.setCell ⟨lb,j*5,none⟩ (.int .i64 r.a)).setCell ⟨lb,j*5+1,none⟩ (.int .i64 r.b)).setCell ⟨lb,j*5+2,none⟩ (.int .i64 r.c)).setCell ⟨lb,j*5+3,none⟩ (.int .i64 r.d)).setCell ⟨lb,j*5+4,none⟩ (.int .i64 r.e)) B h ⟨s.tick,s.rs.set j r,s.ts,s.bl⟩ /\
  Alt (RoTa h) V0 (((((V.setCell ⟨lb,j*5,none⟩ (.int .i64 r.a)).setCell ⟨lb,j*5+1,none⟩ (.int .i64 r.b)).setCell ⟨lb,j*5+2,none⟩ (.int .i64 r.c)).setCell ⟨lb,j*5+3,none⟩ (.int .i64 r.d)).setCell ⟨lb,j*5+4,none⟩ (.int .i64 r.e)):=by
 have hS:RoTa h lb:=.inl ⟨ha,by have:=m.cp.n1;omega⟩
 exact ⟨(m.cp.setRec ha hj r).1,((((m.alt.grown (zaj _ lb _ _) (fun _=>hS)).grown (zaj _ lb _ _) (fun _=>hS)).grown (zaj _ lb _ _) (fun _=>hS)).grown (zaj _ lb _ _) (fun _=>hS)).grown (zaj _ lb _ _) (fun _=>hS)⟩
def seqAt (n:Nat):Code->Option Code
 | .seq a b=>match a with
   | .region k r d=>if k=n then some (.seq (.region k r d) b) else seqAt n b
   | _=>match seqAt n a with
     | some c=>some c
     | none=>seqAt n b
 | .block _ c=>seqAt n c
 | .loop c=>seqAt n c
 | .scope c=>seqAt n c
 | .cond _ a b=>match seqAt n a with
   | some c=>some c
   | none=>seqAt n b
 | _=>none
def seqHead:Option Code->Code
 | some (.seq a _)=>a
 | _=>.skip
def seqRest:Option Code->Code
 | some (.seq _ b)=>b
 | _=>.skip
noncomputable def tailC:Option Code:=Tryz.f7.body.bind (seqAt 24)
set_option maxHeartbeats 4000000 in
theorem step_tail (st:St)(h:Sh)(g:ByteArray)(gb sb cb tb B j nv cv ng cg:Nat)(tj:Int)(V0:World)(u0 u1 u2 u4 u5 u6 u7 u8 u10 u11 u13 u14 u16 u17 u19 u20 u21 u22 u23 u24 u25 u26 u27 u28 u29 u30 u31 u32 u33 u34 u35 u36 u37 u38 u39 u40 u41 u42 u43 u44 u45 u46 u47 u48 u49 u50 u51 u52 u53 u54 u55 u56 u57 u58 u59 u60 u61 u62 u63 u64 u65 u66 u67 u68 u69 u70 u71 u72 u73 u74 u75 u76 u77 u78 u79 u80 u81 u82 u83 u84 u85 u86 u87 u88 u89 u90 u91 u92 u93 u94 u95 u96 u97 u98 u99 u100 u101 u102 u103 u104 u105 u106 u107 u108 u109 u110 u111 u112 u113 u114 u115 u116 u117 u118 u119 u120 u121 u122 u123 u124 u125 u126 u127 u128 u129 u130 u131 u132 u133 u134 u135 u136 u137 u138 u139 u140 u141 u142 u143 u144 u145 u146 u147 u148 u149 u150 u151 u152 u153 u154 u155 u156 u157 u158 u159 u160 u161 u162 u163 u164 u165 u166 u167 u168 u169 u170 u171 u172 u173 u174 u175 u176 u177 u178 u179 u180 u181 u182 u183 u184 u185 u186 u187 u188 u189 u190 u191 u192 u193 u194 u195 u196 u197 u198 u199 u200 u201 u202 u203 u204 u205 u206 u207 u208 u209 u210 u211 u212 u213 u214 u215:Value)
 (hc:Copy0 V0 B h st) (hj:j<st.rs.length) (hn:h.n1<=100) (hgm:g.size<=maxLen) (hg:V0.cell? ⟨gb,2,none⟩=some (.string g)) (hs:V0.heap[sb]?=some (shO h)) (hgb:gb<B) (hsb:sb<B) (hB:B<=V0.heap.size)
 (hcc:V0.cell? ⟨cb,j,none⟩=some (.int .i64 (st.rs.getD j zr).a)) (htc:V0.cell? ⟨tb,j,none⟩=some (.int .i64 tj)) (hjv:j<nv) (hjg:j<ng) (htj:0<=tj/\tj<(g.size:Int)) (hd:0<=(st.rs.getD j zr).d/\(st.rs.getD j zr).d<=1000) (he:0<=(st.rs.getD j zr).e/\(st.rs.getD j zr).e<=1000)
 (hmo:(st.rs.getD j zr).b=1\/(st.rs.getD j zr).b=2->∃ m:Nat,m<st.ts.length/\zat st.ts (st.rs.getD j zr).c=(m:Nat))
 (K:Act->World->Prop) (Q:Exit->Act->World->Prop)
 (hQ:∀ (v23 v24 v109 v110 v111 v112 v113 v114 v115 v116 v117 v118 v119 v120 v121 v122 v123 v124 v125 v126 v127 v128 v129 v130 v131 v132 v133 v134 v135 v136 v137 v138 v139 v140 v141 v142 v143 v144 v145 v146 v147 v148 v149 v150 v151 v152 v153 v154 v155 v156 v157 v158 v159 v160 v161 v162 v163 v164 v165 v166 v167 v168 v169 v170 v171 v172 v173 v174 v175 v176 v177 v178 v179 v180 v181 v182 v183 v184 v185 v186 v187 v188 v189 v190 v191 v192 v193 v194 v195 v196 v197 v198 v199 v200 v201 v202 v203 v204 v205 v206 v207 v208:Value) (V:World),Copy0 V B h (workS (zaa g) st j tj)->Alt (RoTa h) V0 V->Q .normal ⟨#[u0,u1,u2,.pointer (some ⟨gb,0,none⟩),u4,u5,u6,u7,u8,.pointer (some ⟨sb,0,none⟩),u10,u11,.slice (some ⟨cb,0,none⟩) nv cv,u13,u14,.slice (some ⟨tb,0,none⟩) ng cg,u16,u17,.int .i64 (j:Nat),u19,u20,u21,u22,v23,v24,u25,u26,u27,u28,u29,u30,u31,u32,u33,u34,u35,u36,u37,u38,u39,u40,u41,u42,u43,u44,u45,u46,u47,u48,u49,u50,u51,u52,u53,u54,u55,u56,u57,u58,u59,u60,u61,u62,u63,u64,u65,u66,u67,u68,u69,u70,u71,u72,u73,u74,u75,u76,u77,u78,u79,u80,u81,u82,u83,u84,u85,u86,u87,u88,u89,u90,u91,u92,u93,u94,u95,u96,u97,u98,u99,u100,u101,u102,u103,u104,u105,u106,u107,u108,v109,v110,v111,v112,v113,v114,v115,v116,v117,v118,v119,v120,v121,v122,v123,v124,v125,v126,v127,v128,v129,v130,v131,v132,v133,v134,v135,v136,v137,v138,v139,v140,v141,v142,v143,v144,v145,v146,v147,v148,v149,v150,v151,v152,v153,v154,v155,v156,v157,v158,v159,v160,v161,v162,v163,v164,v165,v166,v167,v168,v169,v170,v171,v172,v173,v174,v175,v176,v177,v178,v179,v180,v181,v182,v183,v184,v185,v186,v187,v188,v189,v190,v191,v192,v193,v194,v195,v196,v197,v198,v199,v200,v201,v202,v203,v204,v205,v206,v207,v208,u209,u210,u211,u212,u213,u214,u215],[]⟩ V)
 (hK:∀ a w,Code.wp Tryz.prog (seqRest tailC) Q a w->K a w) :
 Code.wp Tryz.prog (seqHead tailC) (Exit.then K Q) ⟨#[u0,u1,u2,.pointer (some ⟨gb,0,none⟩),u4,u5,u6,u7,u8,.pointer (some ⟨sb,0,none⟩),u10,u11,.slice (some ⟨cb,0,none⟩) nv cv,u13,u14,.slice (some ⟨tb,0,none⟩) ng cg,u16,u17,.int .i64 (j:Nat),u19,u20,u21,u22,u23,u24,u25,u26,u27,u28,u29,u30,u31,u32,u33,u34,u35,u36,u37,u38,u39,u40,u41,u42,u43,u44,u45,u46,u47,u48,u49,u50,u51,u52,u53,u54,u55,u56,u57,u58,u59,u60,u61,u62,u63,u64,u65,u66,u67,u68,u69,u70,u71,u72,u73,u74,u75,u76,u77,u78,u79,u80,u81,u82,u83,u84,u85,u86,u87,u88,u89,u90,u91,u92,u93,u94,u95,u96,u97,u98,u99,u100,u101,u102,u103,u104,u105,u106,u107,u108,u109,u110,u111,u112,u113,u114,u115,u116,u117,u118,u119,u120,u121,u122,u123,u124,u125,u126,u127,u128,u129,u130,u131,u132,u133,u134,u135,u136,u137,u138,u139,u140,u141,u142,u143,u144,u145,u146,u147,u148,u149,u150,u151,u152,u153,u154,u155,u156,u157,u158,u159,u160,u161,u162,u163,u164,u165,u166,u167,u168,u169,u170,u171,u172,u173,u174,u175,u176,u177,u178,u179,u180,u181,u182,u183,u184,u185,u186,u187,u188,u189,u190,u191,u192,u193,u194,u195,u196,u197,u198,u199,u200,u201,u202,u203,u204,u205,u206,u207,u208,u209,u210,u211,u212,u213,u214,u215],[]⟩ V0:=by
 conv=>arg 2;whnf
 conv at hK=>ext a w;arg 1;arg 2;whnf
 have HHQ:=qz hQ
 clear hQ
 obtain ⟨t2,a21,k,c21,a22,n22,c22,a23,n23,c23⟩:=h
 have HM1:=qz hc.n1
 have HM2:=qz hc.n2
 simp only [] at hn hs
 have hjk:j<k:=by have:=HM1.out;simp only [] at this;omega
 have hjn:(j:Int)<(k:Int):=by omega
 obtain ⟨lb1,ha1,hbl1,hl1,_,_⟩:=(hc.rs.full (by omega)).at (by omega)
 simp only [] at ha1
 subst ha1
 obtain ⟨r0,r1,r2,r3,r4⟩:=(hc.cellR (i:=j) rfl hj).1
 have HRJ0:Hid (workS (zaa g) st j tj=⟨st.tick,st.rs.set j (zcc (zaa g) st.ts (st.rs.getD j zr) tj),workT st.ts (st.rs.getD j zr) tj,st.bl⟩):=rfl
 have HC:=qz hc
 have HMO:=qz hmo
 generalize st.rs.getD j zr=r at r0 r1 r2 r3 r4 HRJ0 hd he HMO hcc
 obtain ⟨ra,rb,rc,rd,re⟩:=r
 simp only [] at r0 r1 r2 r3 r4 hd he hcc
 have hcb3:cb<V0.heap.size:=World.block_lt_of_cell? V0 _ hcc
 have htb3:tb<V0.heap.size:=World.block_lt_of_cell? V0 _ htc
 have hgb3:gb<V0.heap.size:=by omega
 have hsb3:sb<V0.heap.size:=by omega
 obtain ⟨x0,x1,x2,x3⟩:=zai hs
 simp only [] at x0 x1 x2 x3
 have HS:=qz hs
 have HG:=qz hg
 have HLT:=qz hl1
 have hd3:IntKind.i64.wrap (rd-1)=rd-1:=by simp only [IntKind.wrap_i64];omega
 obtain ⟨d1,hdd⟩:∃ d1,d1=(if tj≠ra then rd-1 else rd):=⟨_,rfl⟩
 obtain ⟨e1,hee⟩:∃ e1,e1=(if 0<re then re-1 else re):=⟨_,rfl⟩
 have HDD:=qz hdd
 have HEE:=qz hee
 have HGN:Hid (goneR ⟨ra,rb,rc,rd,re⟩ tj=⟨tj,rb,rc,d1,e1⟩):=by unfold Hid goneR;rw [HDD.out,HEE.out]
 have HDW:Hid (0<=d1+1/\d1<=1000):=by
  have:=HDD.out
  unfold Hid
  split at this <;> omega
 clear hdd hee hc hmo hs hg
 go_upto_region 26 with fail
 go_quiet (fail)
 go_upto_if 127 with fail
 go_cut [23] from 109 to 208 (fun v23 V=>v23=.pointer (some ⟨V0.heap.size,0,none⟩)/\Hid (V.heap[V0.heap.size]?=some (recB ⟨tj,rb,rc,d1,re⟩))/\Hid (Below V0.heap.size V0 V))
 case first =>
  by_cases hm:tj=ra
  · have b1:(tj != ra)=false:=by simpa using hm
    have HD1:Hid (d1=rd):=by unfold Hid;rw [HDD.out];exact if_neg (fun h=>h hm)
    clear hm
    go_wp2_with fail
    go_meet
    case rel=>exact ⟨rfl,by unfold Hid;rw [HD1.out];exact heap_alloc_new V0 _,zaf ((zX _ _).alloc (zL _) _) nq⟩
  · have b1:(tj != ra)=true:=by rw [bne_iff_ne];exact hm
    have HD1:Hid (d1=rd-1):=by unfold Hid;rw [HDD.out];exact if_pos hm
    clear hm
    go_wp2_with fail
    go_meet
    case rel=>exact ⟨rfl,by unfold Hid;rw [HD1.out];exact recB_set (r:=⟨tj,rb,rc,rd,re⟩) (j:=3) (heap_alloc_new V0 _) (by omega),(zaf ((zX _ _).alloc (zL _) _) nq).setCell (p:=⟨V0.heap.size,3,none⟩) (zL _) _⟩
 case rest =>
 obtain ⟨rfl,HB1,HK1⟩:=hcut
 obtain ⟨_,_,_,_,m4⟩:=recB_at HB1.out
 have mf4:=recB_fz HB1.out 4
 have he3:IntKind.i64.wrap (re-1)=re-1:=by simp only [IntKind.wrap_i64];omega
 rw [Nat.zero_add] at m4
 simp only [] at m4
 go_upto_if 134 with fail
 go_cut [23] from 109 to 208 (fun v23 V=>v23=.pointer (some ⟨V0.heap.size,0,none⟩)/\Hid (V.heap[V0.heap.size]?=some (recB ⟨tj,rb,rc,d1,e1⟩))/\Hid (Below V0.heap.size V0 V))
 case first =>
  by_cases hm:0<re
  · have b1:decide (re>0)=true:=by rw [decide_eq_true_eq];exact hm
    have HE1:Hid (e1=re-1):=by unfold Hid;rw [HEE.out];exact if_pos hm
    go_wp2_with fail
    go_meet
    case rel=>exact ⟨rfl,by unfold Hid;rw [HE1.out];exact recB_set (r:=⟨tj,rb,rc,d1,re⟩) (j:=4) HB1.out (by omega),HK1.out.setCell (p:=⟨V0.heap.size,4,none⟩) (zL _) _⟩
  · have b1:decide (re>0)=false:=by rw [decide_eq_false_iff_not];exact hm
    have HE1:Hid (e1=re):=by unfold Hid;rw [HEE.out];exact if_neg hm
    have hm2:re<=0:=by omega
    go_wp2_with fail
    go_meet
    case rel=>exact ⟨rfl,by unfold Hid;rw [HE1.out];exact HB1.out,HK1.out⟩
 case rest =>
 obtain ⟨rfl,HB2,HK2⟩:=hcut
 clear m4 mf4 HB1 HK1 x0 x1 x2 x3 r0 r1 r2 r3 r4 hcc htc hd3 he3 hd he HDD HEE hn
 have HFN:=qz (rfind_any ⟨t2,some ⟨lb1,0,none⟩,k,c21,a22,n22,c22,a23,n23,c23⟩ st.ts rc wc.heap.size wc (HC.out.calls HK2.out).stIn.ts (zL _))
 obtain ⟨_,_,m2,_,_⟩:=recB_at HB2.out
 rw [Nat.zero_add] at m2
 simp only [] at m2
 obtain ⟨x0,x1,x2,x3⟩:=zai ((HK2.out.block sb hsb3).trans HS.out)
 simp only [] at x0 x1 x2 x3
 go_wp2_with fail
 refine HFN.out.mono ?_
 rintro e w12 ⟨rfl,hb12⟩
 have HB3:=qz ((hb12.block V0.heap.size (Array.getElem?_eq_some_iff.1 HB2.out).1).trans HB2.out)
 have HK3:=qz (HK2.out.trans (hb12.mono HK2.out.size))
 clear x0 x1 x2 x3 m2 hb12 HB2 HK2 HFN
 have HBX:Hid (∀ V:World,Below V0.heap.size V0 V->V.heap[V0.heap.size]?=some (recB ⟨tj,rb,rc,d1,e1⟩) ->
  (V.cell? ⟨sb,0,none⟩=some (.int .i64 t2)/\V.cell? ⟨sb,1,none⟩=some (.slice (some ⟨lb1,0,none⟩) k c21)/\V.cell? ⟨sb,2,none⟩=some (.slice a22 n22 c22)/\V.cell? ⟨sb,3,none⟩=some (.slice a23 n23 c23)) /\
  (V.cell? ⟨V0.heap.size,0,none⟩=some (.int .i64 tj)/\V.cell? ⟨V0.heap.size,1,none⟩=some (.int .i64 rb)/\V.cell? ⟨V0.heap.size,2,none⟩=some (.int .i64 rc)/\V.cell? ⟨V0.heap.size,3,none⟩=some (.int .i64 d1)/\V.cell? ⟨V0.heap.size,4,none⟩=some (.int .i64 e1)) /\
  V.cell? ⟨gb,2,none⟩=some (.string g)):=fun V hV hb=>by
  obtain ⟨x0,x1,x2,x3⟩:=zai ((hV.block sb hsb3).trans HS.out)
  obtain ⟨b0,b1,b2,b3,b4⟩:=recB_at hb
  exact ⟨⟨x0,x1,x2,x3⟩,⟨b0,b1,b2,b3,b4⟩,(hV.cell (p:=⟨gb,2,none⟩) hgb3).trans HG.out⟩
 have HTS:Hid (rb=1\/rb=2->∃ (m lb2:Nat),m<st.ts.length/\m<n22/\zat st.ts rc=(m:Nat)/\a22=some ⟨lb2,0,none⟩/\B<=lb2/\lb2<V0.heap.size/\lb2≠lb1/\tk st.ts ⟨ra,rb,rc,rd,re⟩=st.ts.getD m zr/\∀ V,Below V0.heap.size V0 V ->
  RecAt V lb2 (m*5) (st.ts.getD m zr)/\∀ i,V.frozen? ⟨lb2,i,none⟩=false):=fun hb=>by
  obtain ⟨m,hm,hfm⟩:=HMO.out hb
  obtain ⟨lb2,ha2,hl2,hl3,_,_⟩:=(HC.out.ts.full (by omega)).at (by omega)
  simp only [] at ha2
  subst ha2
  have hne:lb2≠lb1:=fun e=>by
   have h1:=HC.out.ts.full (by omega)
   have h2:=HC.out.rs.full (by omega)
   rcases zbu h1 h2 (by decide) with h|h
   · cases h
   · exact h (by show some lb1=some lb2;rw [e])
  exact ⟨m,lb2,hm,by have:=HM2.out;omega,hfm,rfl,hl2,hl3,hne,by unfold tk;rw [hfm,Int.toNat_natCast],fun V hV=>(HC.out.calls hV).cellT (i:=m) rfl hm⟩
 have hbxs:sb≠V0.heap.size:=by omega
 have hbxg:gb≠V0.heap.size:=by omega
 have HA3:Hid (actT st.ts ⟨ra,rb,rc,rd,re⟩ tj=3 ↔ rb=1/\(tk st.ts ⟨ra,rb,rc,rd,re⟩).b=tj):=by
  unfold Hid actT
  constructor
  · intro h;split at h
    · assumption
    · split at h <;> omega
  · intro h;rw [if_pos h]
 have HA4:Hid (actT st.ts ⟨ra,rb,rc,rd,re⟩ tj=4 ↔ rb=2/\(tk st.ts ⟨ra,rb,rc,rd,re⟩).c=tj):=by
  unfold Hid actT
  constructor
  · intro h;split at h
    · omega
    · split at h
      · assumption
      · omega
  · intro h;rw [if_neg (fun q=>by have:=q.1;simp only [] at this;omega),if_pos h]
 obtain ⟨ac,hac⟩:∃ ac,actT st.ts ⟨ra,rb,rc,rd,re⟩ tj=ac:=⟨_,rfl⟩
 have HAC:=qz hac
 rw [hac] at HA3 HA4
 have HAQ:Hid (ac=3\/ac=4\/ac=0):=by
  have:=act_cases st.ts ⟨ra,rb,rc,rd,re⟩ tj
  rw [hac] at this
  unfold Hid
  omega
 clear hac
 go_upto_region 31 with fail
 go_cut [24,156] from 109 to 208 (fun v24 v V=>v24=.int .i64 (zat st.ts rc)/\v=.bool (decide (ac=3))/\Hid (V.heap[V0.heap.size]?=some (recB ⟨tj,rb,rc,d1,e1⟩))/\Hid (Below V0.heap.size V0 V))
 case first =>
  obtain ⟨⟨x0,x1,x2,x3⟩,⟨b0,b1,b2,b3,b4⟩,g2⟩:=HBX.out w12 HK3.out HB3.out
  by_cases hb1:rb=1
  · obtain ⟨m,lb2,hm,hmn,hfm,rfl,hl2,hl3,hne,htk,hts⟩:=HTS.out (.inl hb1)
    obtain ⟨⟨_,tt1,tt2,tt3,_⟩,_⟩:=hts w12 HK3.out
    have hmi:(m:Int)<(n22:Int):=by omega
    have HF24:Hid ((.int .i64 (m:Nat):Value)=.int .i64 (zat st.ts rc)):=by unfold Hid;rw [hfm]
    rw [htk] at HA3
    rw [hfm]
    generalize (st.ts.getD m zr).b=tx at tt1 HA3
    have HDE:Hid (decide (ac=3)=(tx==tj)):=by
     unfold Hid
     rw [Bool.eq_iff_iff,decide_eq_true_eq,beq_iff_eq,HA3.out]
     exact ⟨fun h=>h.2,fun h=>⟨hb1,h⟩⟩
    subst hb1
    clear hts hfm htk HTS HA3 HA4 HMO HAQ
    go_quiet (fail)
    go_wp2_with fail
    go_meet
    case rel=>exact ⟨HF24.out,by rw [HDE.out],HB3.out,zaf HK3.out _⟩
  · have c1:(rb==1)=false:=by simpa using hb1
    have HDE:Hid (decide (ac=3)=false):=by
     unfold Hid
     rw [decide_eq_false_iff_not,HA3.out]
     exact fun h=>hb1 h.1
    clear hb1
    go_quiet (fail)
    go_wp2_with fail
    go_meet
    case rel=>exact ⟨rfl,by rw [HDE.out],HB3.out,zaf HK3.out _⟩
 case rest =>
 obtain ⟨rfl,rfl,HB4,HK4⟩:=hcut
 clear HB3 HK3
 go_upto_if 156 with fail
 go_cut [23,24] from 109 to 208 (fun v23 v24 V=>v23=.pointer (some ⟨V0.heap.size,0,none⟩)/\v24=.int .i64 (zat st.ts rc)/\Hid (MidT V0 V V0.heap.size B ⟨t2,some ⟨lb1,0,none⟩,k,c21,a22,n22,c22,a23,n23,c23⟩ (zcc (zaa g) st.ts ⟨ra,rb,rc,rd,re⟩ tj) ⟨st.tick,st.rs,workT st.ts ⟨ra,rb,rc,rd,re⟩ tj,st.bl⟩))
 case first =>
  obtain ⟨⟨x0,x1,x2,x3⟩,⟨b0,b1,b2,b3,b4⟩,g2⟩:=HBX.out wc HK4.out HB4.out
  have bf:=recB_fz HB4.out
  have bf1:=bf 1
  clear bf
  by_cases h3:ac=3
  · have e3:decide (ac=3)=true:=by rw [decide_eq_true_eq];exact h3
    obtain ⟨hb1,_⟩:=HA3.out.1 h3
    obtain ⟨m,lb2,hm,hmn,hfm,rfl,hl2,hl3,hne,htk,hts⟩:=HTS.out (.inl hb1)
    obtain ⟨⟨_,_,_,tt3,_⟩,tf⟩:=hts wc HK4.out
    have tf3:=tf (m*5+3)
    have hmi:(m:Int)<(n22:Int):=by omega
    have hnx:lb2≠V0.heap.size:=by omega
    have hnx2:V0.heap.size≠lb2:=by omega
    have HF24:Hid ((.int .i64 (m:Nat):Value)=.int .i64 (zat st.ts rc)):=by unfold Hid;rw [hfm]
    have HFM:=qz hfm
    have HTK:=qz htk
    have HM:=qz hm
    rw [hfm]
    generalize (st.ts.getD m zr).d=td at tt3
    subst h3
    have HWR:Hid (zcc (zaa g) st.ts ⟨ra,rb,rc,rd,re⟩ tj=⟨tj,2,rc,d1,e1⟩):=by
     unfold Hid zcc
     rw [HAC.out,if_pos rfl,HGN.out]
    have HWT:Hid (workT st.ts ⟨ra,rb,rc,rd,re⟩ tj=st.ts.set m (setF (st.ts.getD m zr) 3 3)):=by
     unfold Hid workT
     rw [HAC.out,if_neg (by decide),HFM.out,Int.toNat_natCast,HTK.out]
    clear hts hfm htk hm tf HA3 HA4 HTS HMO HAQ
    go_wp2_with fail
    go_meet
    case rel=>exact ⟨rfl,HF24.out,mid_task (V:=wc.setCell ⟨V0.heap.size,1,none⟩ (.int .i64 2)) (r:=⟨tj,2,rc,d1,e1⟩) HC.out (HK4.out.setCell (p:=⟨V0.heap.size,1,none⟩) (zL _) _) (recB_set (r:=⟨tj,rb,rc,d1,e1⟩) (j:=1) HB4.out (by omega)) HWR.out rfl HM.out hnx2 HWT.out⟩
  · have e3:decide (ac=3)=false:=by rw [decide_eq_false_iff_not];exact h3
    go_upto_region 34 with fail
    go_cut [24,176] from 157 to 208 (fun v24 v V=>v24=.int .i64 (zat st.ts rc)/\v=.bool (decide (ac=4))/\Hid (V.heap[V0.heap.size]?=some (recB ⟨tj,rb,rc,d1,e1⟩))/\Hid (Below V0.heap.size V0 V))
    case first =>
     by_cases hb1:rb=2
     · obtain ⟨m,lb2,hm,hmn,hfm,rfl,hl2,hl3,hne,htk,hts⟩:=HTS.out (.inr hb1)
       obtain ⟨⟨_,tt1,tt2,tt3,_⟩,_⟩:=hts wc HK4.out
       have hmi:(m:Int)<(n22:Int):=by omega
       have HF24:Hid ((.int .i64 (m:Nat):Value)=.int .i64 (zat st.ts rc)):=by unfold Hid;rw [hfm]
       rw [htk] at HA4
       rw [hfm]
       generalize (st.ts.getD m zr).c=tx at tt2 HA4
       have HDE:Hid (decide (ac=4)=(tx==tj)):=by
        unfold Hid
        rw [Bool.eq_iff_iff,decide_eq_true_eq,beq_iff_eq,HA4.out]
        exact ⟨fun h=>h.2,fun h=>⟨hb1,h⟩⟩
       subst hb1
       clear hts hfm htk HTS HA3 HA4 HMO HAQ
       go_quiet (fail)
       go_wp2_with fail
       go_meet
       case rel=>exact ⟨HF24.out,by rw [HDE.out],HB4.out,zaf HK4.out _⟩
     · have c1:(rb==2)=false:=by simpa using hb1
       have HDE:Hid (decide (ac=4)=false):=by
        unfold Hid
        rw [decide_eq_false_iff_not,HA4.out]
        exact fun h=>hb1 h.1
       clear hb1
       go_quiet (fail)
       go_wp2_with fail
       go_meet
       case rel=>exact ⟨rfl,by rw [HDE.out],HB4.out,zaf HK4.out _⟩
    case rest =>
    obtain ⟨rfl,rfl,HB5,HK5⟩:=hcut
    clear HB4 HK4 x0 x1 x2 x3 b0 b1 b2 b3 b4 g2 bf1
    go_upto_if 176 with fail
    obtain ⟨⟨x0,x1,x2,x3⟩,⟨b0,b1,b2,b3,b4⟩,g2⟩:=HBX.out wc HK5.out HB5.out
    have bf:=recB_fz HB5.out
    have bf1:=bf 1
    have bf2:=bf 2
    have bf3:=bf 3
    clear bf
    by_cases h4:ac=4
    · have e4:decide (ac=4)=true:=by rw [decide_eq_true_eq];exact h4
      obtain ⟨hb1,_⟩:=HA4.out.1 h4
      obtain ⟨m,lb2,hm,hmn,hfm,rfl,hl2,hl3,hne,htk,hts⟩:=HTS.out (.inr hb1)
      obtain ⟨⟨_,_,_,tt3,_⟩,tf⟩:=hts wc HK5.out
      have tf3:=tf (m*5+3)
      have hmi:(m:Int)<(n22:Int):=by omega
      have hnx:lb2≠V0.heap.size:=by omega
      have hnx2:V0.heap.size≠lb2:=by omega
      have HF24:Hid ((.int .i64 (m:Nat):Value)=.int .i64 (zat st.ts rc)):=by unfold Hid;rw [hfm]
      have HFM:=qz hfm
      have HTK:=qz htk
      have HM:=qz hm
      rw [hfm]
      generalize (st.ts.getD m zr).d=td at tt3
      subst h4
      have HWR:Hid (zcc (zaa g) st.ts ⟨ra,rb,rc,rd,re⟩ tj=⟨tj,0,0,d1,e1⟩):=by
       unfold Hid zcc
       rw [HAC.out,if_neg (by decide),if_pos rfl,HGN.out]
      have HWT:Hid (workT st.ts ⟨ra,rb,rc,rd,re⟩ tj=st.ts.set m (setF (st.ts.getD m zr) 3 4)):=by
       unfold Hid workT
       rw [HAC.out,if_neg (by decide),HFM.out,Int.toNat_natCast,HTK.out]
      clear hts hfm htk hm tf HA3 HA4 HTS HMO HAQ
      go_wp2_with fail
      go_meet
      case rel=>exact ⟨rfl,HF24.out,mid_task (V:=(wc.setCell ⟨V0.heap.size,1,none⟩ (.int .i64 0)).setCell ⟨V0.heap.size,2,none⟩ (.int .i64 0)) (r:=⟨tj,0,0,d1,e1⟩) HC.out ((HK5.out.setCell (p:=⟨V0.heap.size,1,none⟩) (zL _) _).setCell (p:=⟨V0.heap.size,2,none⟩) (zL _) _) (recB_set (r:=⟨tj,0,rc,d1,e1⟩) (j:=2) (recB_set (r:=⟨tj,rb,rc,d1,e1⟩) (j:=1) HB5.out (by omega)) (by omega)) HWR.out rfl HM.out hnx2 HWT.out⟩
    · have e4:decide (ac=4)=false:=by rw [decide_eq_false_iff_not];exact h4
      obtain rfl:ac=0:=by have:=HAQ.out;omega
      have HWT:Hid (workT st.ts ⟨ra,rb,rc,rd,re⟩ tj=st.ts):=by
       unfold Hid workT
       rw [HAC.out,if_pos rfl]
      clear h3 h4 e3 HA3 HA4 HTS HMO HAQ
      obtain ⟨tn,rfl⟩:=Int.eq_ofNat_of_zero_le htj.1
      have hkg:tn<g.size:=by have:=htj.2;omega
      have hki:(tn:Int)<(g.size:Int):=htj.2
      have HBY:Hid ((zaa g).getD ((tn:Nat):Int).toNat 0=(g[tn]'hkg).toNat):=by unfold Hid;rw [Int.toNat_natCast];exact bytesOf_at g tn hkg
      clear htj
      by_cases hb3:rb=3
      · subst hb3
        by_cases hx:(g[tn]'hkg).toNat=67
        · have hcx:(((g[tn]'hkg).toNat:Int)==67)=true:=by simp;omega
          have hd0:=HDW.out
          have hw20:IntKind.i64.wrap (d1+20)=d1+20:=by simp only [IntKind.wrap_i64];omega
          by_cases hfull:d1+20<1000
          · have hmn:min (d1+20) 1000=d1+20:=by omega
            have HWR:Hid (zcc (zaa g) st.ts ⟨ra,3,rc,rd,re⟩ tn=⟨tn,3,rc,d1+20,e1⟩):=by
             unfold Hid zcc
             rw [HAC.out,if_neg (by decide),if_neg (by decide),if_pos ⟨rfl,by rw [HBY.out];exact hx⟩,HGN.out]
             simp only [hmn]
             rw [if_neg (by omega)]
            have c5:(d1+20==1000)=false:=by rw [beq_eq_false_iff_ne];omega
            have c6:d1+20<=1000:=by omega
            clear hx
            go_wp2_with fail
            go_meet
            case rel=>exact ⟨rfl,rfl,mid_box (r:=⟨tn,3,rc,d1+20,e1⟩) HC.out (HK5.out.setCell (p:=⟨V0.heap.size,3,none⟩) (zL _) _) (recB_set (r:=⟨tn,3,rc,d1,e1⟩) (j:=3) HB5.out (by omega)) HWR.out HWT.out⟩
          · have hmn:min (d1+20) 1000=1000:=by omega
            have HWR:Hid (zcc (zaa g) st.ts ⟨ra,3,rc,rd,re⟩ tn=⟨tn,0,rc,1000,e1⟩):=by
             unfold Hid zcc
             rw [HAC.out,if_neg (by decide),if_neg (by decide),if_pos ⟨rfl,by rw [HBY.out];exact hx⟩,HGN.out]
             simp only [hmn]
             rfl
            have HD20:Hid (d1+20=1000\/1000<d1+20):=by unfold Hid;omega
            rcases HD20.out with h20|h20
            · have c6:d1+20<=1000:=by omega
              obtain rfl:d1=980:=by omega
              clear hx hfull
              go_wp2_with fail
              go_meet
              case rel=>exact ⟨rfl,rfl,mid_box (r:=⟨tn,0,rc,1000,e1⟩) HC.out ((HK5.out.setCell (p:=⟨V0.heap.size,3,none⟩) (zL _) _).setCell (p:=⟨V0.heap.size,1,none⟩) (zL _) _) (recB_set (r:=⟨tn,3,rc,1000,e1⟩) (j:=1) (recB_set (r:=⟨tn,3,rc,980,e1⟩) (j:=3) HB5.out (by omega)) (by omega)) HWR.out HWT.out⟩
            · clear hx hfull
              go_wp2_with fail
              go_meet
              case rel=>exact ⟨rfl,rfl,mid_box (r:=⟨tn,0,rc,1000,e1⟩) HC.out ((HK5.out.setCell (p:=⟨V0.heap.size,3,none⟩) (zL _) _).setCell (p:=⟨V0.heap.size,1,none⟩) (zL _) _) (recB_set (r:=⟨tn,3,rc,1000,e1⟩) (j:=1) (recB_set (r:=⟨tn,3,rc,d1,e1⟩) (j:=3) HB5.out (by omega)) (by omega)) HWR.out HWT.out⟩
        · have hcx:(((g[tn]'hkg).toNat:Int)==67)=false:=by rw [beq_eq_false_iff_ne];omega
          have HWR:Hid (zcc (zaa g) st.ts ⟨ra,3,rc,rd,re⟩ tn=⟨tn,3,rc,d1,e1⟩):=by
           unfold Hid zcc
           rw [HAC.out,if_neg (by decide),if_neg (by decide),if_neg (fun h=>hx (by rw [<- HBY.out];exact h.2)),HGN.out]
          clear hx
          go_wp2_with fail
          go_meet
          case rel=>exact ⟨rfl,rfl,mid_box (r:=⟨tn,3,rc,d1,e1⟩) HC.out HK5.out HB5.out HWR.out HWT.out⟩
      · have HWR:Hid (zcc (zaa g) st.ts ⟨ra,rb,rc,rd,re⟩ tn=⟨tn,rb,rc,d1,e1⟩):=by
         unfold Hid zcc
         rw [HAC.out,if_neg (by decide),if_neg (by decide),if_neg (fun h=>hb3 h.1),HGN.out]
        have c3:(rb==3)=false:=by simpa using hb3
        clear hb3
        go_wp2_with fail
        go_meet
        case rel=>exact ⟨rfl,rfl,mid_box (r:=⟨tn,rb,rc,d1,e1⟩) HC.out HK5.out HB5.out HWR.out HWT.out⟩
 case rest =>
 obtain ⟨rfl,rfl,HM⟩:=hcut
 have HSS:=qz ((HM.out.alt.block sb hsb3 (by
  rintro (⟨h,_⟩|⟨h,h0⟩)
  · injection h with h;injection h with h;omega
  · obtain ⟨lb2,ha2,hl2,_⟩:=(HC.out.ts.full (by have:=HM2.out;simp only [] at this h0;omega)).at (by have:=HM2.out;simp only [] at this h0;omega)
    simp only [] at ha2 h
    rw [ha2] at h
    injection h with h;injection h with h;omega)).trans HS.out)
 generalize zcc (zaa g) st.ts ⟨ra,rb,rc,rd,re⟩ tj=R' at HM HRJ0
 obtain ⟨sa,sc,sd,se,sf⟩:=R'
 obtain ⟨b0,b1,b2,b3,b4⟩:=recB_at HM.out.box
 obtain ⟨x0,x1,x2,x3⟩:=zai HSS.out
 simp only [] at x0 x1 x2 x3
 have rf:=(HM.out.cp.cellR (i:=j) rfl hj).2
 obtain ⟨r0,r1,r2,r3,r4⟩:=(HM.out.cp.cellR (i:=j) rfl hj).1
 have rf0:=rf (j*5)
 have rf1:=rf (j*5+1)
 have rf2:=rf (j*5+2)
 have rf3:=rf (j*5+3)
 have rf4:=rf (j*5+4)
 have hbx1:lb1≠V0.heap.size:=by omega
 have hbx2:V0.heap.size≠lb1:=by omega
 have hbx4:sb≠lb1:=by omega
 clear rf
 go_wp2_with fail
 have q:=mid_end HM.out rfl hj
 refine HHQ.out _ _ _ _ _ _ _ _ _ _ _ _ _ _ _ _ _ _ _ _ _ _ _ _ _ _ _ _ _ _ _ _ _ _ _ _ _ _ _ _ _ _ _ _ _ _ _ _ _ _ _ _ _ _ _ _ _ _ _ _ _ _ _ _ _ _ _ _ _ _ _ _ _ _ _ _ _ _ _ _ _ _ _ _ _ _ _ _ _ _ _ _ _ _ _ _ _ _ _ _ _ _ _ ?_ q.2
 rw [HRJ0.out]
 exact q.1
def tickO (W H:Int)(g:ByteArray)(h:Sh):Obj:=.cells #[.int .i64 h.t,.slice h.a1 h.n1 h.c1,.slice h.a2 h.n2 h.c2,.slice h.a3 h.n3 h.c3,.int .i64 W,.int .i64 H,.string g] 57
structure TickIn (w:World)(tb B:Nat)(W H:Int)(g:ByteArray)(h:Sh)(s:St):Prop where
 box:w.heap[tb]?=some (tickO W H g h)
 cp:Copy0 w B h s
 off:¬ RoTa h tb
theorem zbz {w:World}{tb:Nat}{W H:Int}{g:ByteArray}{h:Sh}(e:w.heap[tb]?=some (tickO W H g h)) :
 w.cell? ⟨tb,0,none⟩=some (.int .i64 h.t)/\w.cell? ⟨tb,1,none⟩=some (.slice h.a1 h.n1 h.c1)/\w.cell? ⟨tb,2,none⟩=some (.slice h.a2 h.n2 h.c2)/\w.cell? ⟨tb,3,none⟩=some (.slice h.a3 h.n3 h.c3)/\w.cell? ⟨tb,4,none⟩=some (.int .i64 W)/\w.cell? ⟨tb,5,none⟩=some (.int .i64 H)/\w.cell? ⟨tb,6,none⟩=some (.string g) :=
 ⟨(cell_of_row w tb 0 _ _ (0,0) e).trans rfl,(cell_of_row w tb 1 _ _ (0,0) e).trans rfl,(cell_of_row w tb 2 _ _ (0,0) e).trans rfl,(cell_of_row w tb 3 _ _ (0,0) e).trans rfl,(cell_of_row w tb 4 _ _ (0,0) e).trans rfl,(cell_of_row w tb 5 _ _ (0,0) e).trans rfl,(cell_of_row w tb 6 _ _ (0,0) e).trans rfl⟩
section
variable {w w':World} {tb B lb j k:Nat} {W H:Int} {g:ByteArray} {h:Sh} {s:St}
theorem TickIn.lt (T:TickIn w tb B W H g h s):tb<w.heap.size:=(Array.getElem?_eq_some_iff.1 T.box).1
theorem TickIn.calls (T:TickIn w tb B W H g h s)(hb:Below w.heap.size w w'):TickIn w' tb B W H g h s:=⟨(hb.block tb T.lt).trans T.box,T.cp.calls hb,T.off⟩
theorem TickIn.setR (T:TickIn w tb B W H g h s)(ha:h.a1=some ⟨lb,0,none⟩)(hj:j<s.rs.length)(hk:k<5)(x:Int) :
 TickIn (w.setCell ⟨lb,j*5+k,none⟩ (.int .i64 x)) tb B W H g h ⟨s.tick,s.rs.set j (setF (s.rs.getD j zr) k x),s.ts,s.bl⟩/\Alt (RoTa h) w (w.setCell ⟨lb,j*5+k,none⟩ (.int .i64 x)):=by
 have hS:RoTa h lb:=.inl ⟨ha,by have:=T.cp.n1;omega⟩
 exact ⟨⟨zax T.box (fun e=>T.off (e ▸ hS)),(T.cp.setR ha hj hk x).1,T.off⟩,(Alt.refl _ _).grown (zaj _ lb _ _) (fun _=>hS)⟩
theorem TickIn.setT (T:TickIn w tb B W H g h s)(ha:h.a2=some ⟨lb,0,none⟩)(hj:j<s.ts.length)(hk:k<5)(x:Int) :
 TickIn (w.setCell ⟨lb,j*5+k,none⟩ (.int .i64 x)) tb B W H g h ⟨s.tick,s.rs,s.ts.set j (setF (s.ts.getD j zr) k x),s.bl⟩/\Alt (RoTa h) w (w.setCell ⟨lb,j*5+k,none⟩ (.int .i64 x)):=by
 have hS:RoTa h lb:=.inr ⟨ha,by have:=T.cp.n2;omega⟩
 exact ⟨⟨zax T.box (fun e=>T.off (e ▸ hS)),(T.cp.setT ha hj hk x).1,T.off⟩,(Alt.refl _ _).grown (zaj _ lb _ _) (fun _=>hS)⟩
theorem TickIn.rob (T:TickIn w tb B W H g h s)(hj:j<s.rs.length):∃ lb,h.a1=some ⟨lb,0,none⟩/\lb<w.heap.size/\lb≠tb/\j<h.n1/\RecAt w lb (j*5) (s.rs.getD j zr)/\∀ i,w.frozen? ⟨lb,i,none⟩=false:=by
 obtain ⟨lb,ha,_,hl,_,_⟩:=(T.cp.rs.full (by omega)).at (by omega)
 have hn:=T.cp.n1
 obtain ⟨c1,c2⟩:=T.cp.cellR ha hj
 exact ⟨lb,ha,hl,fun e=>T.off (e ▸ .inl ⟨ha,by omega⟩),by omega,c1,c2⟩
theorem TickIn.tas (T:TickIn w tb B W H g h s)(hj:j<s.ts.length):∃ lb,h.a2=some ⟨lb,0,none⟩/\lb<w.heap.size/\lb≠tb/\j<h.n2/\RecAt w lb (j*5) (s.ts.getD j zr)/\∀ i,w.frozen? ⟨lb,i,none⟩=false:=by
 obtain ⟨lb,ha,_,hl,_,_⟩:=(T.cp.ts.full (by omega)).at (by omega)
 have hn:=T.cp.n2
 obtain ⟨c1,c2⟩:=T.cp.cellT ha hj
 exact ⟨lb,ha,hl,fun e=>T.off (e ▸ .inr ⟨ha,by omega⟩),by omega,c1,c2⟩
theorem TickIn.two (T:TickIn w tb B W H g h s){lb lb2:Nat}(h1:h.a1=some ⟨lb,0,none⟩)(h2:h.a2=some ⟨lb2,0,none⟩)(hr:0<s.rs.length)(ht:0<s.ts.length):lb2≠lb:=fun e=>by
 have q1:=T.cp.ts.full ht
 have q2:=T.cp.rs.full hr
 rcases zbu q1 q2 (by decide) with q|q
 · rw [h1] at q;cases q
 · exact q (by rw [h1,h2,e];rfl)
end
def moveR (r:Rec)(t:Int):Rec:=⟨t,r.b,r.c,if r.a≠t then r.d-1 else r.d,r.e⟩
def heldR (r:Rec):Rec:=⟨r.a,r.b,r.c,r.d,if 0<r.e then r.e-1 else r.e⟩
def jobR (l:List Nat)(ts:List Rec)(q:Rec):Rec :=
 if actT ts q q.a=3 then ⟨q.a,2,q.c,q.d,q.e⟩
 else if actT ts q q.a=4 then ⟨q.a,0,0,q.d,q.e⟩
 else if q.b=3/\l.getD q.a.toNat 0=67 then ⟨q.a,if min (q.d+20) 1000=1000 then 0 else 3,q.c,min (q.d+20) 1000,q.e⟩
 else q
theorem gone_is (r:Rec)(t:Int):heldR (moveR r t)=goneR r t:=by
 unfold heldR moveR goneR
 have h1:(if r.a≠t then r.d-1 else r.d)=(if t≠r.a then r.d-1 else r.d):=by
  by_cases e:r.a=t
  · rw [if_neg (fun h=>h e),if_neg (fun h=>h e.symm)]
  · rw [if_pos e,if_pos (fun h=>e h.symm)]
 rw [h1]
theorem set_back {rs:List Rec}{j:Nat}(hj:j<rs.length):rs.set j (rs.getD j zr)=rs:=by
 have e:rs.getD j zr=rs[j]:=by simp [List.getD,hj]
 rw [e,List.set_getElem_self]
section
variable (W H:Int) (g:ByteArray) (h:Sh) (s:St) (tb B j:Nat) (w:World)
theorem move_any (t:Int)(T:TickIn w tb B W H g h s)(hj:j<s.rs.length)(hd:0<=(s.rs.getD j zr).d/\(s.rs.getD j zr).d<=1000) :
 Calls Tryz.prog 20 #[.pointer (some ⟨tb,0,none⟩),.int .i64 (j:Nat),.int .i64 t] w fun e w'=>e=.returned (.tuple #[])/\TickIn w' tb B W H g h ⟨s.tick,s.rs.set j (moveR (s.rs.getD j zr) t),s.ts,s.bl⟩/\Alt (RoTa h) w w':=by
 obtain ⟨lb,ha,hl,hne,hjn,⟨r0,r1,r2,r3,r4⟩,rf⟩:=T.rob hj
 obtain ⟨t0,t1,t2,t3,t4,t5,t6⟩:=zbz T.box
 have hji:(j:Int)<(h.n1:Int):=by omega
 have hw:IntKind.i64.wrap ((s.rs.getD j zr).d-1)=(s.rs.getD j zr).d-1:=by simp only [IntKind.wrap_i64];omega
 have rf0:=rf (j*5)
 have rf3:=rf (j*5+3)
 have hne2:tb≠lb:=fun e=>hne e.symm
 by_cases hm:(s.rs.getD j zr).a=t
 · have b1:((s.rs.getD j zr).a != t)=false:=by simpa using hm
   have HE:=qz (T.setR (j:=j) (k:=0) ha hj (by omega) t)
   have HR:Hid (moveR (s.rs.getD j zr) t=setF (s.rs.getD j zr) 0 t):=by unfold Hid moveR;rw [if_neg (fun q=>q hm)];rfl
   generalize s.rs.getD j zr=r at r0 r1 r2 r3 r4 HR HE b1 hw
   obtain ⟨ra,rb,rc,rd,re⟩:=r
   obtain ⟨t',a1,n1,c1,a2,n2,c2,a3,n3,c3⟩:=h
   simp only [] at ha t0 t1 t2 t3 r0 r1 r2 r3 r4 hw b1 hjn hji
   subst ha
   clear hm rf T hd
   go_enter Tryz.func20,Tryz.ntmps20
   go_wp2_with fail
   go_end0
   exact ⟨rfl,by rw [HR.out];exact HE.out.1,HE.out.2⟩
 · have b1:((s.rs.getD j zr).a != t)=true:=by rw [bne_iff_ne];exact hm
   obtain ⟨T1,A1⟩:=T.setR (j:=j) (k:=3) ha hj (by omega) ((s.rs.getD j zr).d-1)
   obtain ⟨T2,A2⟩:=T1.setR (j:=j) (k:=0) ha (by rw [List.length_set];exact hj) (by omega) t
   have HE:=qz T2
   have HA:=qz (A1.trans A2 (fun _ q _=>q))
   have HR:Hid ((s.rs.set j (setF (s.rs.getD j zr) 3 ((s.rs.getD j zr).d-1))).set j (setF ((s.rs.set j (setF (s.rs.getD j zr) 3 ((s.rs.getD j zr).d-1))).getD j zr) 0 t)=s.rs.set j (moveR (s.rs.getD j zr) t)):=by
    unfold Hid
    rw [zba hj,List.set_set]
    unfold moveR
    rw [if_pos hm]
    rfl
   simp only [] at HE
   rw [HR.out] at HE
   clear T1 A1 T2 A2
   generalize moveR (s.rs.getD j zr) t=r' at HE HR
   generalize s.rs.getD j zr=r at r0 r1 r2 r3 r4 b1 hw HE HA
   obtain ⟨ra,rb,rc,rd,re⟩:=r
   obtain ⟨t',a1,n1,c1,a2,n2,c2,a3,n3,c3⟩:=h
   simp only [] at ha t0 t1 t2 t3 r0 r1 r2 r3 r4 hw b1 hjn hji HE HA
   subst ha
   clear hm rf T hd
   go_enter Tryz.func20,Tryz.ntmps20
   go_wp2_with fail
   go_end0
   exact ⟨rfl,HE.out,HA.out⟩
theorem hold_any (T:TickIn w tb B W H g h s)(hj:j<s.rs.length)(hd:0<=(s.rs.getD j zr).e/\(s.rs.getD j zr).e<=1000) :
 Calls Tryz.prog 21 #[.pointer (some ⟨tb,0,none⟩),.int .i64 (j:Nat)] w fun e w'=>e=.returned (.tuple #[])/\TickIn w' tb B W H g h ⟨s.tick,s.rs.set j (heldR (s.rs.getD j zr)),s.ts,s.bl⟩/\Alt (RoTa h) w w':=by
 obtain ⟨lb,ha,hl,hne,hjn,⟨r0,r1,r2,r3,r4⟩,rf⟩:=T.rob hj
 obtain ⟨t0,t1,t2,t3,t4,t5,t6⟩:=zbz T.box
 have hji:(j:Int)<(h.n1:Int):=by omega
 have hw:IntKind.i64.wrap ((s.rs.getD j zr).e-1)=(s.rs.getD j zr).e-1:=by simp only [IntKind.wrap_i64];omega
 have rf4:=rf (j*5+4)
 by_cases hm:0<(s.rs.getD j zr).e
 · have b1:decide ((s.rs.getD j zr).e>0)=true:=by rw [decide_eq_true_eq];exact hm
   have HE:=qz (T.setR (j:=j) (k:=4) ha hj (by omega) ((s.rs.getD j zr).e-1))
   have HR:Hid (heldR (s.rs.getD j zr)=setF (s.rs.getD j zr) 4 ((s.rs.getD j zr).e-1)):=by unfold Hid heldR;rw [if_pos hm];rfl
   generalize s.rs.getD j zr=r at r0 r1 r2 r3 r4 HR HE b1 hw
   obtain ⟨ra,rb,rc,rd,re⟩:=r
   obtain ⟨t',a1,n1,c1,a2,n2,c2,a3,n3,c3⟩:=h
   simp only [] at ha t0 t1 t2 t3 r0 r1 r2 r3 r4 hw b1 hjn hji HR HE
   subst ha
   clear hm rf T hd
   go_enter Tryz.func21,Tryz.ntmps21
   go_wp2_with fail
   go_end0
   exact ⟨rfl,by rw [HR.out];exact HE.out.1,HE.out.2⟩
 · have b1:decide ((s.rs.getD j zr).e>0)=false:=by rw [decide_eq_false_iff_not];exact hm
   have HR:Hid (s.rs.set j (heldR (s.rs.getD j zr))=s.rs):=by
    have e:heldR (s.rs.getD j zr)=s.rs.getD j zr:=by unfold heldR;rw [if_neg hm]
    unfold Hid
    rw [e]
    exact set_back hj
   rw [HR.out]
   have HE:=qz T
   generalize s.rs.getD j zr=r at r0 r1 r2 r3 r4 b1 hw
   obtain ⟨ra,rb,rc,rd,re⟩:=r
   obtain ⟨t',a1,n1,c1,a2,n2,c2,a3,n3,c3⟩:=h
   simp only [] at ha t0 t1 t2 t3 r0 r1 r2 r3 r4 hw b1 hjn hji
   subst ha
   clear hm rf T hd
   go_enter Tryz.func21,Tryz.ntmps21
   go_wp2_with fail
   go_end0
   exact ⟨rfl,HE.out,Alt.refl _ _⟩
theorem load_any (m:Nat)(T:TickIn w tb B W H g h s)(hj:j<s.rs.length)(hm:m<s.ts.length)(hfm:zat s.ts (s.rs.getD j zr).c=(m:Nat)) :
 Calls Tryz.prog 44 #[.pointer (some ⟨tb,0,none⟩),.int .i64 (j:Nat)] w fun e w'=>e=.returned (.tuple #[]) /\
  TickIn w' tb B W H g h (if (s.ts.getD m zr).b=(s.rs.getD j zr).a then ⟨s.tick,s.rs.set j ⟨(s.rs.getD j zr).a,2,(s.rs.getD j zr).c,(s.rs.getD j zr).d,(s.rs.getD j zr).e⟩,s.ts.set m (setF (s.ts.getD m zr) 3 3),s.bl⟩ else s)/\Alt (RoTa h) w w':=by
 obtain ⟨lb,ha,hl,hne,hjn,⟨r0,r1,r2,r3,r4⟩,rf⟩:=T.rob hj
 obtain ⟨lb2,ha2,hl2,hne2,hmn,⟨q0,q1,q2,q3,q4⟩,qf⟩:=T.tas hm
 obtain ⟨t0,t1,t2,t3,t4,t5,t6⟩:=zbz T.box
 have htb:=T.lt
 have hji:(j:Int)<(h.n1:Int):=by omega
 have hmi:(m:Int)<(h.n2:Int):=by omega
 have h21:=T.two ha ha2 (by omega) (by omega)
 have hx1:tb≠lb:=fun e=>hne e.symm
 have hx2:tb≠lb2:=fun e=>hne2 e.symm
 have hx3:lb≠lb2:=fun e=>h21 e.symm
 have HT:=qz T
 have HFN:=qz fun V (hV:Below w.heap.size w V)=>find_any h s.ts (s.rs.getD j zr).c V.heap.size V (T.cp.calls hV).stIn.ts (zL _)
 rw [hfm] at HFN
 have HAL:Hid (h.a1=some ⟨lb,0,none⟩/\h.a2=some ⟨lb2,0,none⟩):=⟨ha,ha2⟩
 have HRF:=qz rf
 have HQF:=qz qf
 have HRC:=qz (show RecAt w lb (j*5) (s.rs.getD j zr) from ⟨r0,r1,r2,r3,r4⟩)
 have HQC:=qz (show RecAt w lb2 (m*5) (s.ts.getD m zr) from ⟨q0,q1,q2,q3,q4⟩)
 have HEND:Hid (∀ V,Below w.heap.size w V->TickIn ((V.setCell ⟨lb,j*5+1,none⟩ (.int .i64 2)).setCell ⟨lb2,m*5+3,none⟩ (.int .i64 3)) tb B W H g h ⟨s.tick,s.rs.set j ⟨(s.rs.getD j zr).a,2,(s.rs.getD j zr).c,(s.rs.getD j zr).d,(s.rs.getD j zr).e⟩,s.ts.set m (setF (s.ts.getD m zr) 3 3),s.bl⟩/\Alt (RoTa h) w ((V.setCell ⟨lb,j*5+1,none⟩ (.int .i64 2)).setCell ⟨lb2,m*5+3,none⟩ (.int .i64 3))):=fun V hV=>by
  obtain ⟨T1,A1⟩:=(T.calls hV).setR (j:=j) (k:=1) ha hj (by omega) 2
  obtain ⟨T3,A3⟩:=T1.setT (j:=m) (k:=3) ha2 hm (by omega) 3
  simp only [] at T3
  have e1:s.rs.set j (setF (s.rs.getD j zr) 1 2)=s.rs.set j ⟨(s.rs.getD j zr).a,2,(s.rs.getD j zr).c,(s.rs.getD j zr).d,(s.rs.getD j zr).e⟩:=by
   rfl
  rw [e1] at T3
  exact ⟨T3,(Alt.ofBelow hV).trans (A1.trans A3 (fun _ q _=>q)) (fun _ q _=>q)⟩
 have HEQ:Hid (∀ P:St->Prop,((s.ts.getD m zr).b=(s.rs.getD j zr).a->P ⟨s.tick,s.rs.set j ⟨(s.rs.getD j zr).a,2,(s.rs.getD j zr).c,(s.rs.getD j zr).d,(s.rs.getD j zr).e⟩,s.ts.set m (setF (s.ts.getD m zr) 3 3),s.bl⟩)->((s.ts.getD m zr).b≠(s.rs.getD j zr).a->P s)->P (if (s.ts.getD m zr).b=(s.rs.getD j zr).a then ⟨s.tick,s.rs.set j ⟨(s.rs.getD j zr).a,2,(s.rs.getD j zr).c,(s.rs.getD j zr).d,(s.rs.getD j zr).e⟩,s.ts.set m (setF (s.ts.getD m zr) 3 3),s.bl⟩ else s)):=fun P p1 p2=>by
  split
  · exact p1 (by assumption)
  · exact p2 (by assumption)
 generalize (if (s.ts.getD m zr).b=(s.rs.getD j zr).a then (⟨s.tick,s.rs.set j ⟨(s.rs.getD j zr).a,2,(s.rs.getD j zr).c,(s.rs.getD j zr).d,(s.rs.getD j zr).e⟩,s.ts.set m (setF (s.ts.getD m zr) 3 3),s.bl⟩:St) else s)=S' at HEQ ⊢
 generalize (⟨s.tick,s.rs.set j ⟨(s.rs.getD j zr).a,2,(s.rs.getD j zr).c,(s.rs.getD j zr).d,(s.rs.getD j zr).e⟩,s.ts.set m (setF (s.ts.getD m zr) 3 3),s.bl⟩:St)=S1 at HEQ HEND
 generalize s.rs.getD j zr=r at r0 r1 r2 r3 r4 HFN HRC HEQ
 generalize s.ts.getD m zr=q at q0 q1 q2 q3 q4 HQC HEQ
 obtain ⟨ra,rb,rc,rd,re⟩:=r
 obtain ⟨qa,qb,qc,qd,qe⟩:=q
 obtain ⟨t',a1,n1,c1,a2,n2,c2,a3,n3,c3⟩:=h
 simp only [] at ha ha2 t0 t1 t2 t3 r0 r1 r2 r3 r4 q0 q1 q2 q3 q4 hjn hji hmn hmi HEQ
 subst ha ha2
 have HKS:Hid (∀ V,Kept w V->(Kept w V/\V.cell? ⟨tb,0,none⟩=some (.int .i64 t')/\V.cell? ⟨tb,1,none⟩=some (.slice (some ⟨lb,0,none⟩) n1 c1)/\V.cell? ⟨tb,2,none⟩=some (.slice (some ⟨lb2,0,none⟩) n2 c2)/\V.cell? ⟨tb,3,none⟩=some (.slice a3 n3 c3)/\V.cell? ⟨lb,j*5+2,none⟩=some (.int .i64 rc))):=fun V hV =>
  ⟨hV,(Below.cell (p:=⟨tb,0,none⟩) hV htb).trans t0,(Below.cell (p:=⟨tb,1,none⟩) hV htb).trans t1,(Below.cell (p:=⟨tb,2,none⟩) hV htb).trans t2,(Below.cell (p:=⟨tb,3,none⟩) hV htb).trans t3,(Below.cell (p:=⟨lb,j*5+2,none⟩) hV hl).trans r2⟩
 have HFC:Hid (∀ V,Kept w V->Calls Tryz.prog 74 #[shV ⟨t',some ⟨lb,0,none⟩,n1,c1,some ⟨lb2,0,none⟩,n2,c2,a3,n3,c3⟩,.int .i64 rc] V fun e V'=>e=.returned (.int .i64 (m:Nat))/\Kept w V'):=fun V hV=>(HFN.out V hV).mono fun e V' ⟨he,hb⟩=>⟨he,Below.trans hV (hb.mono (Below.size hV))⟩
 have kk:Kept w w:=Kept.refl _
 have em:decide ((m:Int)<0)=false:=by rw [decide_eq_false_iff_not];omega
 clear rf qf T HFN hfm
 go_enter Tryz.func44,Tryz.ntmps44
 go_wp2_with fail
 go_region_held3 (fun V=>Kept w V/\V.cell? ⟨tb,0,none⟩=some (.int .i64 t')/\V.cell? ⟨tb,1,none⟩=some (.slice (some ⟨lb,0,none⟩) n1 c1)/\V.cell? ⟨tb,2,none⟩=some (.slice (some ⟨lb2,0,none⟩) n2 c2)/\V.cell? ⟨tb,3,none⟩=some (.slice a3 n3 c3)/\V.cell? ⟨lb,j*5+2,none⟩=some (.int .i64 rc))
  (first|exact HKS.out _ (by assumption)|exact HKS.out _ (Kept.drew (by assumption)))
  (first|(go_at_call 74;refine (HFC.out _ (by first|exact kk|exact Kept.drew kk)).mono ?_;rintro e wb ⟨rfl,kb⟩))
 have HK:=qz kb
 clear t0 t1 t2 t3 t4 t5 t6 r0 r1 r2 r3 r4 q0 q1 q2 q3 q4 kk kb
 obtain ⟨_,t0,t1,t2,t3,_⟩:=HKS.out _ HK.out
 have hKb:Below w.heap.size w wb:=HK.out
 obtain ⟨r0,r1,r2,r3,r4⟩:=HRC.out.below hKb hl
 obtain ⟨q0,q1,q2,q3,q4⟩:=HQC.out.below hKb hl2
 have rf1:=(hKb.frozen (p:=⟨lb,j*5+1,none⟩) hl).trans (HRF.out _)
 have rf2:=(hKb.frozen (p:=⟨lb,j*5+2,none⟩) hl).trans (HRF.out _)
 have qf3:=(hKb.frozen (p:=⟨lb2,m*5+3,none⟩) hl2).trans (HQF.out _)
 simp only [] at r0 r1 r2 r3 r4 q0 q1 q2 q3 q4
 clear hKb
 by_cases hx:qb=ra
 · have b1:(qb != ra)=false:=by simpa using hx
   have HE:=qz (HEQ.out (fun S=>∀ V,Below w.heap.size w V->TickIn ((V.setCell ⟨lb,j*5+1,none⟩ (.int .i64 2)).setCell ⟨lb2,m*5+3,none⟩ (.int .i64 3)) tb B W H g ⟨t',some ⟨lb,0,none⟩,n1,c1,some ⟨lb2,0,none⟩,n2,c2,a3,n3,c3⟩ S) (fun _ V hV=>(HEND.out V hV).1) (fun h=>absurd hx h))
   clear hx HEQ
   go_wp2_with fail
   go_quiet (fail)
   go_wp2_with fail
   go_end0
   exact ⟨rfl,HE.out _ (zaf HK.out _),(HEND.out _ (zaf HK.out _)).2⟩
 · have b1:(qb != ra)=true:=by rw [bne_iff_ne];exact hx
   have HE:=qz (HEQ.out (fun S=>TickIn w tb B W H g ⟨t',some ⟨lb,0,none⟩,n1,c1,some ⟨lb2,0,none⟩,n2,c2,a3,n3,c3⟩ S) (fun h=>absurd h hx) (fun _=>HT.out))
   clear hx HEQ HEND
   go_wp2_with fail
   go_quiet (fail)
   go_wp2_with fail
   ((try simp only [Exit.inBlock,Exit.then]);refine bodyPost_ret (results_none rfl _ _ _) rfl ?_)
   exact ⟨rfl,HE.out.calls (zaf HK.out _),Alt.ofBelow (zaf HK.out _)⟩
theorem unload_any (m:Nat)(T:TickIn w tb B W H g h s)(hj:j<s.rs.length)(hm:m<s.ts.length)(hfm:zat s.ts (s.rs.getD j zr).c=(m:Nat)) :
 Calls Tryz.prog 45 #[.pointer (some ⟨tb,0,none⟩),.int .i64 (j:Nat)] w fun e w'=>e=.returned (.tuple #[]) /\
  TickIn w' tb B W H g h (if (s.ts.getD m zr).c=(s.rs.getD j zr).a then ⟨s.tick,s.rs.set j ⟨(s.rs.getD j zr).a,0,0,(s.rs.getD j zr).d,(s.rs.getD j zr).e⟩,s.ts.set m (setF (s.ts.getD m zr) 3 4),s.bl⟩ else s)/\Alt (RoTa h) w w':=by
 obtain ⟨lb,ha,hl,hne,hjn,⟨r0,r1,r2,r3,r4⟩,rf⟩:=T.rob hj
 obtain ⟨lb2,ha2,hl2,hne2,hmn,⟨q0,q1,q2,q3,q4⟩,qf⟩:=T.tas hm
 obtain ⟨t0,t1,t2,t3,t4,t5,t6⟩:=zbz T.box
 have htb:=T.lt
 have hji:(j:Int)<(h.n1:Int):=by omega
 have hmi:(m:Int)<(h.n2:Int):=by omega
 have h21:=T.two ha ha2 (by omega) (by omega)
 have hx1:tb≠lb:=fun e=>hne e.symm
 have hx2:tb≠lb2:=fun e=>hne2 e.symm
 have hx3:lb≠lb2:=fun e=>h21 e.symm
 have HT:=qz T
 have HFN:=qz fun V (hV:Below w.heap.size w V)=>find_any h s.ts (s.rs.getD j zr).c V.heap.size V (T.cp.calls hV).stIn.ts (zL _)
 rw [hfm] at HFN
 have HAL:Hid (h.a1=some ⟨lb,0,none⟩/\h.a2=some ⟨lb2,0,none⟩):=⟨ha,ha2⟩
 have HRF:=qz rf
 have HQF:=qz qf
 have HRC:=qz (show RecAt w lb (j*5) (s.rs.getD j zr) from ⟨r0,r1,r2,r3,r4⟩)
 have HQC:=qz (show RecAt w lb2 (m*5) (s.ts.getD m zr) from ⟨q0,q1,q2,q3,q4⟩)
 have HEND:Hid (∀ V,Below w.heap.size w V->TickIn (((V.setCell ⟨lb,j*5+1,none⟩ (.int .i64 0)).setCell ⟨lb,j*5+2,none⟩ (.int .i64 0)).setCell ⟨lb2,m*5+3,none⟩ (.int .i64 4)) tb B W H g h ⟨s.tick,s.rs.set j ⟨(s.rs.getD j zr).a,0,0,(s.rs.getD j zr).d,(s.rs.getD j zr).e⟩,s.ts.set m (setF (s.ts.getD m zr) 3 4),s.bl⟩/\Alt (RoTa h) w (((V.setCell ⟨lb,j*5+1,none⟩ (.int .i64 0)).setCell ⟨lb,j*5+2,none⟩ (.int .i64 0)).setCell ⟨lb2,m*5+3,none⟩ (.int .i64 4))):=fun V hV=>by
  obtain ⟨T1,A1⟩:=(T.calls hV).setR (j:=j) (k:=1) ha hj (by omega) 0
  obtain ⟨T2,A2⟩:=T1.setR (j:=j) (k:=2) ha (by rw [List.length_set];exact hj) (by omega) 0
  obtain ⟨T3,A3⟩:=T2.setT (j:=m) (k:=3) ha2 hm (by omega) 4
  simp only [] at T3
  have e1:(s.rs.set j (setF (s.rs.getD j zr) 1 0)).set j (setF ((s.rs.set j (setF (s.rs.getD j zr) 1 0)).getD j zr) 2 0)=s.rs.set j ⟨(s.rs.getD j zr).a,0,0,(s.rs.getD j zr).d,(s.rs.getD j zr).e⟩:=by
   rw [zba hj,List.set_set];rfl
  rw [e1] at T3
  exact ⟨T3,(Alt.ofBelow hV).trans ((A1.trans A2 (fun _ q _=>q)).trans A3 (fun _ q _=>q)) (fun _ q _=>q)⟩
 have HEQ:Hid (∀ P:St->Prop,((s.ts.getD m zr).c=(s.rs.getD j zr).a->P ⟨s.tick,s.rs.set j ⟨(s.rs.getD j zr).a,0,0,(s.rs.getD j zr).d,(s.rs.getD j zr).e⟩,s.ts.set m (setF (s.ts.getD m zr) 3 4),s.bl⟩)->((s.ts.getD m zr).c≠(s.rs.getD j zr).a->P s)->P (if (s.ts.getD m zr).c=(s.rs.getD j zr).a then ⟨s.tick,s.rs.set j ⟨(s.rs.getD j zr).a,0,0,(s.rs.getD j zr).d,(s.rs.getD j zr).e⟩,s.ts.set m (setF (s.ts.getD m zr) 3 4),s.bl⟩ else s)):=fun P p1 p2=>by
  split
  · exact p1 (by assumption)
  · exact p2 (by assumption)
 generalize (if (s.ts.getD m zr).c=(s.rs.getD j zr).a then (⟨s.tick,s.rs.set j ⟨(s.rs.getD j zr).a,0,0,(s.rs.getD j zr).d,(s.rs.getD j zr).e⟩,s.ts.set m (setF (s.ts.getD m zr) 3 4),s.bl⟩:St) else s)=S' at HEQ ⊢
 generalize (⟨s.tick,s.rs.set j ⟨(s.rs.getD j zr).a,0,0,(s.rs.getD j zr).d,(s.rs.getD j zr).e⟩,s.ts.set m (setF (s.ts.getD m zr) 3 4),s.bl⟩:St)=S1 at HEQ HEND
 generalize s.rs.getD j zr=r at r0 r1 r2 r3 r4 HFN HRC HEQ
 generalize s.ts.getD m zr=q at q0 q1 q2 q3 q4 HQC HEQ
 obtain ⟨ra,rb,rc,rd,re⟩:=r
 obtain ⟨qa,qb,qc,qd,qe⟩:=q
 obtain ⟨t',a1,n1,c1,a2,n2,c2,a3,n3,c3⟩:=h
 simp only [] at ha ha2 t0 t1 t2 t3 r0 r1 r2 r3 r4 q0 q1 q2 q3 q4 hjn hji hmn hmi HEQ
 subst ha ha2
 have HKS:Hid (∀ V,Kept w V->(Kept w V/\V.cell? ⟨tb,0,none⟩=some (.int .i64 t')/\V.cell? ⟨tb,1,none⟩=some (.slice (some ⟨lb,0,none⟩) n1 c1)/\V.cell? ⟨tb,2,none⟩=some (.slice (some ⟨lb2,0,none⟩) n2 c2)/\V.cell? ⟨tb,3,none⟩=some (.slice a3 n3 c3)/\V.cell? ⟨lb,j*5+2,none⟩=some (.int .i64 rc))):=fun V hV =>
  ⟨hV,(Below.cell (p:=⟨tb,0,none⟩) hV htb).trans t0,(Below.cell (p:=⟨tb,1,none⟩) hV htb).trans t1,(Below.cell (p:=⟨tb,2,none⟩) hV htb).trans t2,(Below.cell (p:=⟨tb,3,none⟩) hV htb).trans t3,(Below.cell (p:=⟨lb,j*5+2,none⟩) hV hl).trans r2⟩
 have HFC:Hid (∀ V,Kept w V->Calls Tryz.prog 74 #[shV ⟨t',some ⟨lb,0,none⟩,n1,c1,some ⟨lb2,0,none⟩,n2,c2,a3,n3,c3⟩,.int .i64 rc] V fun e V'=>e=.returned (.int .i64 (m:Nat))/\Kept w V'):=fun V hV=>(HFN.out V hV).mono fun e V' ⟨he,hb⟩=>⟨he,Below.trans hV (hb.mono (Below.size hV))⟩
 have kk:Kept w w:=Kept.refl _
 have em:decide ((m:Int)<0)=false:=by rw [decide_eq_false_iff_not];omega
 clear rf qf T HFN hfm
 go_enter Tryz.func45,Tryz.ntmps45
 go_wp2_with fail
 go_region_held3 (fun V=>Kept w V/\V.cell? ⟨tb,0,none⟩=some (.int .i64 t')/\V.cell? ⟨tb,1,none⟩=some (.slice (some ⟨lb,0,none⟩) n1 c1)/\V.cell? ⟨tb,2,none⟩=some (.slice (some ⟨lb2,0,none⟩) n2 c2)/\V.cell? ⟨tb,3,none⟩=some (.slice a3 n3 c3)/\V.cell? ⟨lb,j*5+2,none⟩=some (.int .i64 rc))
  (first|exact HKS.out _ (by assumption)|exact HKS.out _ (Kept.drew (by assumption)))
  (first|(go_at_call 74;refine (HFC.out _ (by first|exact kk|exact Kept.drew kk)).mono ?_;rintro e wb ⟨rfl,kb⟩))
 have HK:=qz kb
 clear t0 t1 t2 t3 t4 t5 t6 r0 r1 r2 r3 r4 q0 q1 q2 q3 q4 kk kb
 obtain ⟨_,t0,t1,t2,t3,_⟩:=HKS.out _ HK.out
 have hKb:Below w.heap.size w wb:=HK.out
 obtain ⟨r0,r1,r2,r3,r4⟩:=HRC.out.below hKb hl
 obtain ⟨q0,q1,q2,q3,q4⟩:=HQC.out.below hKb hl2
 have rf1:=(hKb.frozen (p:=⟨lb,j*5+1,none⟩) hl).trans (HRF.out _)
 have rf2:=(hKb.frozen (p:=⟨lb,j*5+2,none⟩) hl).trans (HRF.out _)
 have qf3:=(hKb.frozen (p:=⟨lb2,m*5+3,none⟩) hl2).trans (HQF.out _)
 simp only [] at r0 r1 r2 r3 r4 q0 q1 q2 q3 q4
 clear hKb
 by_cases hx:qc=ra
 · have b1:(qc != ra)=false:=by simpa using hx
   have HE:=qz (HEQ.out (fun S=>∀ V,Below w.heap.size w V->TickIn (((V.setCell ⟨lb,j*5+1,none⟩ (.int .i64 0)).setCell ⟨lb,j*5+2,none⟩ (.int .i64 0)).setCell ⟨lb2,m*5+3,none⟩ (.int .i64 4)) tb B W H g ⟨t',some ⟨lb,0,none⟩,n1,c1,some ⟨lb2,0,none⟩,n2,c2,a3,n3,c3⟩ S) (fun _ V hV=>(HEND.out V hV).1) (fun h=>absurd hx h))
   clear hx HEQ
   go_wp2_with fail
   go_quiet (fail)
   go_wp2_with fail
   go_end0
   exact ⟨rfl,HE.out _ (zaf HK.out _),(HEND.out _ (zaf HK.out _)).2⟩
 · have b1:(qc != ra)=true:=by rw [bne_iff_ne];exact hx
   have HE:=qz (HEQ.out (fun S=>TickIn w tb B W H g ⟨t',some ⟨lb,0,none⟩,n1,c1,some ⟨lb2,0,none⟩,n2,c2,a3,n3,c3⟩ S) (fun h=>absurd h hx) (fun _=>HT.out))
   clear hx HEQ HEND
   go_wp2_with fail
   go_quiet (fail)
   go_wp2_with fail
   ((try simp only [Exit.inBlock,Exit.then]);refine bodyPost_ret (results_none rfl _ _ _) rfl ?_)
   exact ⟨rfl,HE.out.calls (zaf HK.out _),Alt.ofBelow (zaf HK.out _)⟩
theorem isCharger_any (W H c:Int)(g:ByteArray)(w:World)(hs:g.size<=maxLen)(hf:zac (zaa g) c=true) :
 Calls Tryz.prog 75 #[zam W H g,.int .i64 c] w fun e w'=>e=.returned (.bool (decide ((zaa g).getD c.toNat 0=67)))/\Below w.heap.size w w':=by
 have hin:=zaq hf
 rw [zag] at hin
 obtain ⟨tn,rfl⟩:=Int.eq_ofNat_of_zero_le hin.1
 have hkg:tn<g.size:=by omega
 have hki:(tn:Int)<(g.size:Int):=by omega
 have hsz:(g.size:Int)<=9223372036854775807:=by unfold maxLen at hs;omega
 obtain ⟨w1,hw1⟩:∃ w1,w1=w.alloc (zar W H g):=⟨_,rfl⟩
 have hb1:Below w.heap.size w w1:=by rw [hw1];exact (zX _ _).alloc (zL _) _
 have hz1:w1.heap.size=w.heap.size+1:=by rw [hw1];simp
 have g0:w1.cell? ⟨w.heap.size,0,none⟩=some (.int .i64 W):=by rw [hw1];simp
 have g1:w1.cell? ⟨w.heap.size,1,none⟩=some (.int .i64 H):=by rw [hw1];simp
 have g2:w1.cell? ⟨w.heap.size,2,none⟩=some (.string g):=by rw [hw1];simp
 have HFL:=qz (floor_yes (W:=W) (H:=H) w1 hs hf)
 have HG2:=qz g2
 have HW1:=qz hw1
 have HB1:=qz hb1
 have hlt1:w.heap.size<w1.heap.size:=by omega
 have HBY:Hid ((zaa g).getD ((tn:Nat):Int).toNat 0=(g[tn]'hkg).toNat):=by unfold Hid;rw [Int.toNat_natCast];exact bytesOf_at g tn hkg
 rw [hw1] at g0 g1 g2
 clear hf hin hw1 hb1 hz1
 by_cases hx:(g[tn]'hkg).toNat=67
 · have hcx:(((g[tn]'hkg).toNat:Int)==67)=true:=by simp;omega
   have HD:Hid (decide ((zaa g).getD ((tn:Nat):Int).toNat 0=67)=true):=by unfold Hid;rw [HBY.out];exact decide_eq_true hx
   clear hx
   go_enter Tryz.func75,Tryz.ntmps75
   go_wp2_with fail
   rw [<- HW1.out]
   refine HFL.out.mono ?_
   rintro e w2 ⟨rfl,hb2⟩
   have HB2:=qz (HB1.out.trans (hb2.mono HB1.out.size))
   have x2:=(hb2.cell (p:=⟨w.heap.size,2,none⟩) hlt1).trans HG2.out
   clear g0 g1 g2 hb2
   go_wp2_with fail
   go_ret
   exact ⟨by rw [HD.out];rfl,HB2.out⟩
 · have hcx:(((g[tn]'hkg).toNat:Int)==67)=false:=by rw [beq_eq_false_iff_ne];omega
   have HD:Hid (decide ((zaa g).getD ((tn:Nat):Int).toNat 0=67)=false):=by unfold Hid;rw [HBY.out];exact decide_eq_false hx
   clear hx
   go_enter Tryz.func75,Tryz.ntmps75
   go_wp2_with fail
   rw [<- HW1.out]
   refine HFL.out.mono ?_
   rintro e w2 ⟨rfl,hb2⟩
   have HB2:=qz (HB1.out.trans (hb2.mono HB1.out.size))
   have x2:=(hb2.cell (p:=⟨w.heap.size,2,none⟩) hlt1).trans HG2.out
   clear g0 g1 g2 hb2
   go_wp2_with fail
   go_ret
   exact ⟨by rw [HD.out];rfl,HB2.out⟩
def chR (l:List Nat)(r:Rec):Rec:=if l.getD r.a.toNat 0=67 then ⟨r.a,if min (r.d+20) 1000=1000 then 0 else 3,r.c,min (r.d+20) 1000,r.e⟩ else r
theorem charge_any' (T:TickIn w tb B W H g h s)(hj:j<s.rs.length)(hs:g.size<=maxLen)(hf:zac (zaa g) (s.rs.getD j zr).a=true)(hb:(s.rs.getD j zr).b=3)(hd:0<=(s.rs.getD j zr).d+1/\(s.rs.getD j zr).d<=1000) :
 Calls Tryz.prog 46 #[.pointer (some ⟨tb,0,none⟩),.int .i64 (j:Nat)] w fun e w'=>e=.returned (.tuple #[])/\TickIn w' tb B W H g h ⟨s.tick,s.rs.set j (chR (zaa g) (s.rs.getD j zr)),s.ts,s.bl⟩/\Alt (RoTa h) w w':=by
 obtain ⟨lb,ha,hl,hne,hjn,⟨r0,r1,r2,r3,r4⟩,rf⟩:=T.rob hj
 obtain ⟨t0,t1,t2,t3,t4,t5,t6⟩:=zbz T.box
 have htb:=T.lt
 have hji:(j:Int)<(h.n1:Int):=by omega
 have hx1:tb≠lb:=fun e=>hne e.symm
 have HT:=qz T
 have HIC:=qz fun V=>isCharger_any W H (s.rs.getD j zr).a g V hs hf
 have HRF:=qz rf
 have HRC:=qz (show RecAt w lb (j*5) (s.rs.getD j zr) from ⟨r0,r1,r2,r3,r4⟩)
 have HE3:Hid (∀ V x,Below w.heap.size w V->TickIn (V.setCell ⟨lb,j*5+3,none⟩ (.int .i64 x)) tb B W H g h ⟨s.tick,s.rs.set j ⟨(s.rs.getD j zr).a,(s.rs.getD j zr).b,(s.rs.getD j zr).c,x,(s.rs.getD j zr).e⟩,s.ts,s.bl⟩/\Alt (RoTa h) w (V.setCell ⟨lb,j*5+3,none⟩ (.int .i64 x))):=fun V x hV=>by
  obtain ⟨T1,A1⟩:=(T.calls hV).setR (j:=j) (k:=3) ha hj (by omega) x
  exact ⟨T1,(Alt.ofBelow hV).trans A1 (fun _ q _=>q)⟩
 have HE1:Hid (∀ V x y,Below w.heap.size w V->TickIn ((V.setCell ⟨lb,j*5+3,none⟩ (.int .i64 x)).setCell ⟨lb,j*5+1,none⟩ (.int .i64 y)) tb B W H g h ⟨s.tick,s.rs.set j ⟨(s.rs.getD j zr).a,y,(s.rs.getD j zr).c,x,(s.rs.getD j zr).e⟩,s.ts,s.bl⟩/\Alt (RoTa h) w ((V.setCell ⟨lb,j*5+3,none⟩ (.int .i64 x)).setCell ⟨lb,j*5+1,none⟩ (.int .i64 y))):=fun V x y hV=>by
  obtain ⟨T1,A1⟩:=(T.calls hV).setR (j:=j) (k:=3) ha hj (by omega) x
  obtain ⟨T2,A2⟩:=T1.setR (j:=j) (k:=1) ha (by rw [List.length_set];exact hj) (by omega) y
  simp only [] at T2
  rw [zba hj,List.set_set] at T2
  exact ⟨T2,(Alt.ofBelow hV).trans (A1.trans A2 (fun _ q _=>q)) (fun _ q _=>q)⟩
 have HCH:Hid (∀ a b c d e,s.rs.getD j zr=⟨a,b,c,d,e⟩->chR (zaa g) (s.rs.getD j zr)=if (zaa g).getD a.toNat 0=67 then ⟨a,if min (d+20) 1000=1000 then 0 else 3,c,min (d+20) 1000,e⟩ else ⟨a,b,c,d,e⟩):=fun a b c d e hr=>by rw [hr];rfl
 have HSB:=qz (set_back hj)
 generalize chR (zaa g) (s.rs.getD j zr)=R' at HCH ⊢
 generalize s.rs.getD j zr=r at r0 r1 r2 r3 r4 HIC HRC HE3 HE1 HCH HSB hb hd
 obtain ⟨ra,rb,rc,rd,re⟩:=r
 have HC2:=qz (HCH.out ra rb rc rd re rfl)
 obtain ⟨t',a1,n1,c1,a2,n2,c2,a3,n3,c3⟩:=h
 simp only [] at ha t0 t1 t2 t3 r0 r1 r2 r3 r4 hjn hji hb hd HIC
 subst ha hb
 have hw20:IntKind.i64.wrap (rd+20)=rd+20:=by simp only [IntKind.wrap_i64];omega
 have HD0:=qz hd
 obtain ⟨bx,hbx⟩:∃ bx,decide ((zaa g).getD ra.toNat 0=67)=bx:=⟨_,rfl⟩
 rw [hbx] at HIC
 have HBX:=qz hbx
 have HKS:Hid (∀ V,Kept w V->(Kept w V/\V.cell? ⟨tb,4,none⟩=some (.int .i64 W)/\V.cell? ⟨tb,5,none⟩=some (.int .i64 H)/\V.cell? ⟨tb,6,none⟩=some (.string g)/\V.cell? ⟨lb,j*5,none⟩=some (.int .i64 ra))):=fun V hV =>
  ⟨hV,(Below.cell (p:=⟨tb,4,none⟩) hV htb).trans t4,(Below.cell (p:=⟨tb,5,none⟩) hV htb).trans t5,(Below.cell (p:=⟨tb,6,none⟩) hV htb).trans t6,(Below.cell (p:=⟨lb,j*5,none⟩) hV hl).trans r0⟩
 have HFC:Hid (∀ V,Kept w V->Calls Tryz.prog 75 #[zam W H g,.int .i64 ra] V fun e V'=>e=.returned (.bool bx)/\Kept w V'):=fun V hV=>(HIC.out V).mono fun e V' ⟨he,hb⟩=>⟨he,Below.trans hV (hb.mono (Below.size hV))⟩
 have kk:Kept w w:=Kept.refl _
 clear rf T HIC hf hs hd hbx
 go_enter Tryz.func46,Tryz.ntmps46
 go_wp2_with fail
 go_region_held3 (fun V=>Kept w V/\V.cell? ⟨tb,4,none⟩=some (.int .i64 W)/\V.cell? ⟨tb,5,none⟩=some (.int .i64 H)/\V.cell? ⟨tb,6,none⟩=some (.string g)/\V.cell? ⟨lb,j*5,none⟩=some (.int .i64 ra))
  (first|exact HKS.out _ (by assumption)|exact HKS.out _ (Kept.drew (by assumption)))
  (first|(go_at_call 75;refine (HFC.out _ (by first|exact kk|exact Kept.drew kk)).mono ?_;rintro e wb ⟨rfl,kb⟩))
 have HK:=qz kb
 clear t0 t1 t2 t3 t4 t5 t6 r0 r1 r2 r3 r4 kk kb
 have hKb:Below w.heap.size w wb:=HK.out
 obtain ⟨r0,r1,r2,r3,r4⟩:=HRC.out.below hKb hl
 have rf1:=(hKb.frozen (p:=⟨lb,j*5+1,none⟩) hl).trans (HRF.out _)
 have rf3:=(hKb.frozen (p:=⟨lb,j*5+3,none⟩) hl).trans (HRF.out _)
 simp only [] at r0 r1 r2 r3 r4
 clear hKb
 cases bx with
 | false =>
   have HR:Hid (s.rs.set j R'=s.rs):=by
    unfold Hid
    rw [HC2.out,if_neg (of_decide_eq_false HBX.out)]
    exact HSB.out
   go_wp2_with fail
   ((try simp only [Exit.inBlock,Exit.then]);refine bodyPost_ret (results_none rfl _ _ _) rfl ?_)
   rw [HR.out]
   exact ⟨rfl,HT.out.calls HK.out,Alt.ofBelow HK.out⟩
 | true =>
   have HR:Hid (R'=⟨ra,if min (rd+20) 1000=1000 then 0 else 3,rc,min (rd+20) 1000,re⟩):=by
    unfold Hid
    rw [HC2.out,if_pos (of_decide_eq_true HBX.out)]
   by_cases hfull:rd+20<1000
   · have hmn:min (rd+20) 1000=rd+20:=by omega
     have HR2:Hid (R'=⟨ra,3,rc,rd+20,re⟩):=by unfold Hid;rw [HR.out,hmn,if_neg (by omega)]
     have c5:(rd+20==1000)=false:=by rw [beq_eq_false_iff_ne];omega
     have c6:rd+20<=1000:=by omega
     go_wp2_with fail
     go_end0
     rw [HR2.out]
     exact ⟨rfl,HE3.out _ _ HK.out⟩
   · have hmn:min (rd+20) 1000=1000:=by omega
     have HR2:Hid (R'=⟨ra,0,rc,1000,re⟩):=by unfold Hid;rw [HR.out,hmn,if_pos rfl]
     have HD20:Hid (rd+20=1000\/1000<rd+20):=by unfold Hid;omega
     rcases HD20.out with h20|h20
     · have c6:rd+20<=1000:=by omega
       obtain rfl:rd=980:=by omega
       clear hfull
       go_wp2_with fail
       go_end0
       rw [HR2.out]
       exact ⟨rfl,HE1.out _ _ _ HK.out⟩
     · clear hfull
       go_wp2_with fail
       go_end0
       rw [HR2.out]
       exact ⟨rfl,HE1.out _ _ _ HK.out⟩
theorem work_any (T:TickIn w tb B W H g h s)(hj:j<s.rs.length)(hs:g.size<=maxLen)(hf:zac (zaa g) (s.rs.getD j zr).a=true)(hd:0<=(s.rs.getD j zr).d+1/\(s.rs.getD j zr).d<=1000)
 (hmo:(s.rs.getD j zr).b=1\/(s.rs.getD j zr).b=2->∃ m:Nat,m<s.ts.length/\zat s.ts (s.rs.getD j zr).c=(m:Nat)) :
 Calls Tryz.prog 22 #[.pointer (some ⟨tb,0,none⟩),.int .i64 (j:Nat)] w fun e w'=>e=.returned (.tuple #[])/\TickIn w' tb B W H g h ⟨s.tick,s.rs.set j (jobR (zaa g) s.ts (s.rs.getD j zr)),workT s.ts (s.rs.getD j zr) (s.rs.getD j zr).a,s.bl⟩/\Alt (RoTa h) w w':=by
 obtain ⟨lb,ha,hl,hne,hjn,⟨r0,r1,r2,r3,r4⟩,rf⟩:=T.rob hj
 obtain ⟨t0,t1,t2,t3,t4,t5,t6⟩:=zbz T.box
 have hji:(j:Int)<(h.n1:Int):=by omega
 have HT:=qz T
 have HAC:=qz (act_cases s.ts (s.rs.getD j zr) (s.rs.getD j zr).a)
 by_cases hb1:(s.rs.getD j zr).b=1
 · obtain ⟨m,hm,hfm⟩:=hmo (.inl hb1)
   have HTK:Hid (tk s.ts (s.rs.getD j zr)=s.ts.getD m zr):=by unfold Hid tk;rw [hfm,Int.toNat_natCast]
   have HFM:=qz hfm
   have HL:=qz (load_any W H g h s tb B j w m T hj hm hfm)
   have HEQ:Hid ((if (s.ts.getD m zr).b=(s.rs.getD j zr).a then (⟨s.tick,s.rs.set j ⟨(s.rs.getD j zr).a,2,(s.rs.getD j zr).c,(s.rs.getD j zr).d,(s.rs.getD j zr).e⟩,s.ts.set m (setF (s.ts.getD m zr) 3 3),s.bl⟩:St) else s)=⟨s.tick,s.rs.set j (jobR (zaa g) s.ts (s.rs.getD j zr)),workT s.ts (s.rs.getD j zr) (s.rs.getD j zr).a,s.bl⟩):=by
    unfold Hid
    have h:=HAC.out
    rw [HTK.out] at h
    rcases h with ⟨h1,h2,h3⟩|⟨h1,h2,h3⟩|⟨h1,h2,h3⟩
    · rw [if_pos h3]
      unfold jobR workT
      rw [h1,if_pos rfl,if_neg (by decide),HFM.out,Int.toNat_natCast,HTK.out]
    · omega
    · rw [if_neg (fun q=>h2 ⟨hb1,q⟩)]
      unfold jobR workT
      rw [h1,if_neg (by decide),if_neg (by decide),if_neg (fun q=>by have:=q.1;omega),if_pos rfl,set_back hj]
   rw [HEQ.out] at HL
   generalize (⟨s.tick,s.rs.set j (jobR (zaa g) s.ts (s.rs.getD j zr)),workT s.ts (s.rs.getD j zr) (s.rs.getD j zr).a,s.bl⟩:St)=S' at HL ⊢
   generalize s.rs.getD j zr=r at r0 r1 r2 r3 r4 hb1
   obtain ⟨ra,rb,rc,rd,re⟩:=r
   obtain ⟨t',a1,n1,c1,a2,n2,c2,a3,n3,c3⟩:=h
   simp only [] at ha t0 t1 t2 t3 r0 r1 r2 r3 r4 hjn hji hb1
   subst ha hb1
   clear hmo hf hs hd rf T hfm HEQ HTK HAC HFM
   go_enter Tryz.func22,Tryz.ntmps22
   go_wp2_with fail
   refine HL.out.mono ?_
   rintro e w2 ⟨rfl,HT2,HA2⟩
   have HT2:=qz HT2
   have HA2:=qz HA2
   go_wp2_with fail
   go_end0
   exact ⟨rfl,HT2.out,HA2.out⟩
 by_cases hb2:(s.rs.getD j zr).b=2
 · obtain ⟨m,hm,hfm⟩:=hmo (.inr hb2)
   have HTK:Hid (tk s.ts (s.rs.getD j zr)=s.ts.getD m zr):=by unfold Hid tk;rw [hfm,Int.toNat_natCast]
   have HFM:=qz hfm
   have HL:=qz (unload_any W H g h s tb B j w m T hj hm hfm)
   have HEQ:Hid ((if (s.ts.getD m zr).c=(s.rs.getD j zr).a then (⟨s.tick,s.rs.set j ⟨(s.rs.getD j zr).a,0,0,(s.rs.getD j zr).d,(s.rs.getD j zr).e⟩,s.ts.set m (setF (s.ts.getD m zr) 3 4),s.bl⟩:St) else s)=⟨s.tick,s.rs.set j (jobR (zaa g) s.ts (s.rs.getD j zr)),workT s.ts (s.rs.getD j zr) (s.rs.getD j zr).a,s.bl⟩):=by
    unfold Hid
    have h:=HAC.out
    rw [HTK.out] at h
    rcases h with ⟨h1,h2,h3⟩|⟨h1,h2,h3⟩|⟨h1,h2,h3⟩
    · omega
    · rw [if_pos h3]
      unfold jobR workT
      rw [h1,if_neg (by decide),if_pos rfl,if_neg (by decide),HFM.out,Int.toNat_natCast,HTK.out]
    · rw [if_neg (fun q=>h3 ⟨hb2,q⟩)]
      unfold jobR workT
      rw [h1,if_neg (by decide),if_neg (by decide),if_neg (fun q=>by have:=q.1;omega),if_pos rfl,set_back hj]
   rw [HEQ.out] at HL
   generalize (⟨s.tick,s.rs.set j (jobR (zaa g) s.ts (s.rs.getD j zr)),workT s.ts (s.rs.getD j zr) (s.rs.getD j zr).a,s.bl⟩:St)=S' at HL ⊢
   generalize s.rs.getD j zr=r at r0 r1 r2 r3 r4 hb2
   obtain ⟨ra,rb,rc,rd,re⟩:=r
   obtain ⟨t',a1,n1,c1,a2,n2,c2,a3,n3,c3⟩:=h
   simp only [] at ha t0 t1 t2 t3 r0 r1 r2 r3 r4 hjn hji hb2
   subst ha hb2
   clear hmo hf hs hd rf T hfm HEQ HTK HAC HFM hb1
   go_enter Tryz.func22,Tryz.ntmps22
   go_wp2_with fail
   refine HL.out.mono ?_
   rintro e w2 ⟨rfl,HT2,HA2⟩
   have HT2:=qz HT2
   have HA2:=qz HA2
   go_wp2_with fail
   go_end0
   exact ⟨rfl,HT2.out,HA2.out⟩
 have HA0:Hid (actT s.ts (s.rs.getD j zr) (s.rs.getD j zr).a=0):=by
  unfold Hid
  rcases HAC.out with ⟨_,h2,_⟩|⟨_,h2,_⟩|⟨h1,_⟩
  · exact absurd h2 hb1
  · exact absurd h2 hb2
  · exact h1
 have HWT:Hid (workT s.ts (s.rs.getD j zr) (s.rs.getD j zr).a=s.ts):=by unfold Hid workT;rw [HA0.out,if_pos rfl]
 rw [HWT.out]
 by_cases hb3:(s.rs.getD j zr).b=3
 · have HL:=qz (charge_any' W H g h s tb B j w T hj hs hf hb3 hd)
   have HEQ:Hid (chR (zaa g) (s.rs.getD j zr)=jobR (zaa g) s.ts (s.rs.getD j zr)):=by
    unfold Hid jobR chR
    rw [HA0.out,if_neg (by decide:¬ (0:Int)=3),if_neg (by decide:¬ (0:Int)=4)]
    by_cases hx:(zaa g).getD (s.rs.getD j zr).a.toNat 0=67
    · rw [if_pos hx];exact (if_pos ⟨hb3,hx⟩).symm
    · rw [if_neg hx];exact (if_neg (fun q=>hx q.2)).symm
   rw [HEQ.out] at HL
   generalize (⟨s.tick,s.rs.set j (jobR (zaa g) s.ts (s.rs.getD j zr)),s.ts,s.bl⟩:St)=S' at HL ⊢
   generalize s.rs.getD j zr=r at r0 r1 r2 r3 r4 hb3
   obtain ⟨ra,rb,rc,rd,re⟩:=r
   obtain ⟨t',a1,n1,c1,a2,n2,c2,a3,n3,c3⟩:=h
   simp only [] at ha t0 t1 t2 t3 r0 r1 r2 r3 r4 hjn hji hb3
   subst ha hb3
   clear hmo hf hs hd rf T HEQ HAC hb1 hb2 HA0 HWT
   go_enter Tryz.func22,Tryz.ntmps22
   go_wp2_with fail
   refine HL.out.mono ?_
   rintro e w2 ⟨rfl,HT2,HA2⟩
   have HT2:=qz HT2
   have HA2:=qz HA2
   go_wp2_with fail
   go_end0
   exact ⟨rfl,HT2.out,HA2.out⟩
 · have HEQ:Hid (s.rs.set j (jobR (zaa g) s.ts (s.rs.getD j zr))=s.rs):=by
    unfold Hid jobR
    rw [HA0.out,if_neg (by decide:¬ (0:Int)=3),if_neg (by decide:¬ (0:Int)=4),if_neg (fun q=>hb3 q.1)]
    exact set_back hj
   rw [HEQ.out]
   have c1:((s.rs.getD j zr).b==1)=false:=by simpa using hb1
   have c2:((s.rs.getD j zr).b==2)=false:=by simpa using hb2
   have c3:((s.rs.getD j zr).b==3)=false:=by simpa using hb3
   generalize s.rs.getD j zr=r at r0 r1 r2 r3 r4 c1 c2 c3
   obtain ⟨ra,rb,rc,rd,re⟩:=r
   obtain ⟨t',a1,n1,c1',a2,n2,c2',a3,n3,c3'⟩:=h
   simp only [] at ha t0 t1 t2 t3 r0 r1 r2 r3 r4 hjn hji c1 c2 c3
   subst ha
   clear hmo hf hs hd rf T HEQ HAC hb1 hb2 hb3 HA0 HWT
   go_enter Tryz.func22,Tryz.ntmps22
   go_wp2_with fail
   go_end0
   exact ⟨rfl,HT.out,Alt.refl _ _⟩
end
end Go.Proofs.YtknnnbpgkfaapaaGreat.Vm
