import Derived.Test.YtknnnbpgkfaapaaGreatQ
import Derived.Test.YtknnnbpgkfaapaaGreatVInMath
import Derived.Test.YtknnnbpgkfaapaaGreatVCopies0
import Derived.Test.YtknnnbpgkfaapaaGreatVRefBests
import Derived.Deep.RegionHeld3
import Derived.StillTailTactics
set_option maxRecDepth 100000
set_option linter.unusedSimpArgs false
set_option linter.unusedVariables false
namespace Go.Proofs.YtknnnbpgkfaapaaGreat.Vm
open Go Go.RowKit
def pairL (p:Nat × Nat):List Value:=[.int .i64 (p.1:Nat),.int .i64 (p.2:Nat)]
def pairsL (l:List (Nat × Nat)):List Value:=l.flatMap pairL
theorem pairsL_append (a b:List (Nat × Nat)):pairsL (a++b)=pairsL a++pairsL b:=by simp [pairsL]
theorem pairsL_get:∀ (l:List (Nat × Nat)) (j:Nat),(pairsL l)[j]?=(l[j / 2]?).bind fun r=>(pairL r)[j % 2]?
 | [],j=>by simp [pairsL]
 | r :: t,j=>by
   have ih:=pairsL_get t (j-2)
   unfold pairsL at ih ⊢
   rw [List.flatMap_cons]
   by_cases h:j<2
   · rw [List.getElem?_append_left (by simpa [pairL] using h),Nat.div_eq_of_lt h,Nat.mod_eq_of_lt h]
     rfl
   · rw [List.getElem?_append_right (by simp [pairL];omega),show (pairL r).length=2 from rfl,ih,show j / 2=(j-2) / 2+1 by omega,show j % 2=(j-2) % 2 by omega]
     rfl
def RowP (w:World)(B:Nat)(a:Option Addr)(n c:Nat)(l:List (Nat × Nat)):Prop :=
 l.length=n/\n<=c/\c<=maxLen /\
 (0<n->∃ b off,a=some ⟨b,off,none⟩/\b<B/\∀ i,i<n->w.cell? ⟨b,off+i*2,none⟩=some (.int .i64 ((l.getD i (0,0)).1:Nat))/\w.cell? ⟨b,off+i*2+1,none⟩=some (.int .i64 ((l.getD i (0,0)).2:Nat)))
def OwnPr (w:World)(B:Nat)(ty:TypeId)(v:Value)(l:List (Nat × Nat)):Prop:=w.ownsRow B ty 2 v l.length (pairsL l)
theorem OwnPr.nil (w:World)(B:Nat)(ty:TypeId):OwnPr w B ty (.slice none 0 0) []:=World.ownsRow_nil _ _ _ _
theorem OwnPr.calls {w w':World}{B:Nat}{ty:TypeId}{v:Value}{l:List (Nat × Nat)}(h:OwnPr w B ty v l)(hb:Below w.heap.size w w'):OwnPr w' B ty v l:=zbp h hb (fun k hk=>(World.ownsRow.lt h k hk).2)
theorem OwnPr.set {w:World}{B lb i:Nat}{ty:TypeId}{v u:Value}{l:List (Nat × Nat)}(h:OwnPr w B ty v l)(hlb:lb<B):OwnPr (w.setCell ⟨lb,i,none⟩ u) B ty v l :=
 World.ownsRow.kept h (zaj w lb i u) (.inr (fun e=>by have:=(World.ownsRow.lt h lb e).1;omega))
theorem OwnPr.row {w:World}{B:Nat}{ty:TypeId}{v:Value}{l:List (Nat × Nat)}(h:OwnPr w B ty v l):∃ a c,v=.slice a l.length c/\RowP w w.heap.size a l.length c l:=by
 rcases h.2 with ⟨rfl,hn⟩|⟨g,cap,cur,rfl,hb,hg,hnc,hm,hcs,htk⟩
 · obtain rfl:=List.eq_nil_of_length_eq_zero hn
   exact ⟨none,0,rfl,rfl,zL _,by simp [maxLen],fun h=>absurd h (by simp)⟩
 · have hc:=World.ownsRow.cells h (g:=g) rfl
   refine ⟨_,cap,rfl,rfl,hnc,hm,fun _=>⟨g,0,rfl,(Array.getElem?_eq_some_iff.1 hg).1,fun i hi=>?_⟩⟩
   have h4:∀ k,k<2->∀ u,(pairL (l.getD i (0,0)))[k]?=some u->w.cell? ⟨g,i*2+k,none⟩=some u:=fun k hk u hu=>by
    have:=hc (i*2+k) u (by
     rw [pairsL_get,show (i*2+k) / 2=i by omega,show (i*2+k) % 2=k by omega]
     simpa [List.getD,hi] using hu)
    rwa [Row.add,Nat.zero_add] at this
   rw [Nat.zero_add]
   exact ⟨h4 0 (by omega) _ rfl,h4 1 (by omega) _ rfl⟩
theorem two_cell (w:World)(u v:Value)(t:TypeId):∀ j x,[u,v][j]?=some x->(w.alloc (.cells #[u,v] t)).cell? ((⟨w.heap.size,0,none⟩:Addr).add j)=some x:=by
 intro j x hj
 have hjn:j<2:=by simpa using (List.getElem?_eq_some_iff.1 hj).1
 rw [Row.add,Nat.zero_add]
 match j,hjn with
 | 0,_=>simpa using hj
 | 1,_=>simpa using hj
theorem OwnR0.upto {w V V':World}{B U:Nat}{ty:TypeId}{v:Value}{rs rs':List Rec}(h0:OwnR0 w B ty v rs)(h:OwnR0 V B ty v rs')(hb:Below U V V')(hU:w.heap.size<=U):OwnR0 V' B ty v rs':=by
 rcases h0 with h0|⟨_,a,rfl⟩
 · exact h.imp (fun h=>zbp h hb (fun k hk=>by have:=(World.ownsRow.lt h0 k hk).2;omega)) id
 · refine .inr ⟨?_,a,rfl⟩
   rcases h with h|⟨h,_⟩
   · obtain ⟨a',c',e⟩:=OwnR.slice h
     injection e with e1 e2 e3
     exact List.eq_nil_of_length_eq_zero e2.symm
   · exact h
theorem OwnZ0.upto {w V V':World}{B U:Nat}{v:Value}{l l':List Int}(h0:OwnZ0 w B v l)(h:OwnZ0 V B v l')(hb:Below U V V')(hU:w.heap.size<=U):OwnZ0 V' B v l':=by
 rcases h0 with h0|⟨_,a,rfl⟩
 · exact h.imp (fun h=>zbp h hb (fun k hk=>by have:=(World.ownsRow.lt h0 k hk).2;omega)) id
 · refine .inr ⟨?_,a,rfl⟩
   rcases h with h|⟨h,_⟩
   · obtain ⟨a',c',e,_⟩:=OwnZ.row h
     injection e with e1 e2 e3
     exact List.eq_nil_of_length_eq_zero e2.symm
   · exact h
theorem Copy0.upto {w V V':World}{B U:Nat}{h:Sh}{s s':St}(c0:Copy0 w B h s)(c:Copy0 V B h s')(hb:Below U V V')(hU:w.heap.size<=U):Copy0 V' B h s' :=
 ⟨c.tick,c0.rs.upto c.rs hb hU,c0.ts.upto c.ts hb hU,c0.bl.upto c.bl hb hU,c.n1,c.n2,c.n3⟩
def zas (s:St):Nat->St
 | 0=>s
 | k+1=>if ((zas s k).rs.getD k zr).b=0/\((zas s k).rs.getD k zr).d<100 then ⟨(zas s k).tick,(zas s k).rs.set k (setF ((zas s k).rs.getD k zr) 1 3),(zas s k).ts,(zas s k).bl⟩ else zas s k
theorem chargeN_is (s:St):∀ k,k<=s.rs.length->zas s k=⟨s.tick,(s.rs.take k).map zbe++s.rs.drop k,s.ts,s.bl⟩
 | 0,_=>by simp [zas]
 | k+1,hk=>by
   have hk':k<s.rs.length:=by omega
   have ht:s.rs.take (k+1)=s.rs.take k++[s.rs[k]]:=by rw [List.take_succ_eq_append_getElem hk']
   have hd:s.rs.drop k=s.rs[k] :: s.rs.drop (k+1):=List.drop_eq_getElem_cons hk'
   have hl:((s.rs.take k).map zbe).length=k:=by simp;omega
   rw [zas,chargeN_is s k (by omega)]
   have hg:((s.rs.take k).map zbe++s.rs.drop k).getD k zr=s.rs[k]:=by
    rw [List.getD,List.getElem?_append_right (by omega),hl,hd,Nat.sub_self,List.getElem?_cons_zero,Option.getD_some]
   simp only [hg]
   by_cases hc:s.rs[k].b=0/\s.rs[k].d<100
   · rw [if_pos hc]
     congr 1
     rw [List.set_append_right _ _ (by omega),hl,hd,Nat.sub_self,List.set_cons_zero,ht,List.map_append,List.append_assoc]
     congr 1
     show _ :: _=zbe s.rs[k] :: _
     congr 1
     unfold zbe
     rw [if_pos hc]
     rfl
   · rw [if_neg hc]
     congr 1
     rw [hd,ht,List.map_append]
     simp only [List.map_cons,List.map_nil,List.append_assoc,List.cons_append,List.nil_append]
     unfold zbe
     rw [if_neg hc]
theorem chargeN_end (s:St):zas s s.rs.length=chargeS s:=by
 rw [chargeN_is s _ (zL _)]
 simp [chargeS]
theorem chargeN_len (s:St){k:Nat}(hk:k<=s.rs.length):(zas s k).rs.length=s.rs.length/\(zas s k).ts.length=s.ts.length:=by
 rw [chargeN_is s k hk]
 simp
 omega
theorem give_setF (s:St)(i k:Nat):giveS s i k=⟨s.tick,(s.rs.set k (setF (s.rs.getD k zr) 1 1)).set k (setF (setF (s.rs.getD k zr) 1 1) 2 (s.ts.getD i zr).a),(s.ts.set i (setF (s.ts.getD i zr) 3 2)).set i (setF (setF (s.ts.getD i zr) 3 2) 4 (k:Int)),s.bl⟩:=by
 unfold giveS
 rw [List.set_set,List.set_set]
 rfl
end Go.Proofs.YtknnnbpgkfaapaaGreat.Vm
namespace Go.Proofs.YtknnnbpgkfaapaaGreat.Vm
open Go Go.RowKit
def SaysDispO (f:Nat):Prop:=∀ (W H:Int) (g:ByteArray) (h:Sh) (s:St) (B:Nat) (w:World),Okay W H g->StIn w B h s->B<=w.heap.size->RightP (zac (zaa g)) s->h.n3<=100000 ->
 Calls Tryz.prog f #[zam W H g,shV h] w fun e w'=>∃ h' a n c,e=.returned (.tuple #[shV h',.slice a n c])/\Copy0 w' w.heap.size h' (dispG W H (zaa g) s).1/\RowP w' w'.heap.size a n c (dispG W H (zaa g) s).2/\Below w.heap.size w w'
theorem info_pairD:(Tryz.prog.info? 91).map (fun i=>(i.zero,i.size,i.bytes))=some (some (.agg #[.int .i64 0,.int .i64 0]),2,16):=by kernel_rfl
theorem dispN_len (W H:Int)(l:List Nat)(s:St):∀ k,(dispN W H l s k).2.length<=k
 | 0=>zL _
 | k+1=>by
   have:=dispN_len W H l s k
   rw [dispN]
   split
   · omega
   · rw [List.length_append,List.length_singleton];omega
theorem Copy0.cellT {w:World}{B lb i:Nat}{h:Sh}{s:St}(m:Copy0 w B h s)(ha:h.a2=some ⟨lb,0,none⟩)(hi:i<s.ts.length):RecAt w lb (i*5) (s.ts.getD i zr)/\∀ j,w.frozen? ⟨lb,j,none⟩=false:=by
 obtain ⟨lb',ha',_,_,hc,hf⟩:=(m.ts.full (by omega)).at (by omega)
 rw [ha] at ha'
 injection ha' with e
 injection e with e
 subst e
 exact ⟨hc i hi,hf⟩
theorem Copy0.cellR {w:World}{B lb i:Nat}{h:Sh}{s:St}(m:Copy0 w B h s)(ha:h.a1=some ⟨lb,0,none⟩)(hi:i<s.rs.length):RecAt w lb (i*5) (s.rs.getD i zr)/\∀ j,w.frozen? ⟨lb,j,none⟩=false:=by
 obtain ⟨lb',ha',_,_,hc,hf⟩:=(m.rs.full (by omega)).at (by omega)
 rw [ha] at ha'
 injection ha' with e
 injection e with e
 subst e
 exact ⟨hc i hi,hf⟩
theorem Copy0.lower {w:World}{B B':Nat}{h:Sh}{s:St}(c:Copy0 w B h s)(hB:B'<=B):Copy0 w B' h s:=⟨c.tick,c.rs.mono hB,c.ts.mono hB,c.bl.mono hB,c.n1,c.n2,c.n3⟩
theorem zax {w:World}{lb b j:Nat}{v:Value}{o:Obj}(h:w.heap[b]?=some o)(hne:b≠lb):(w.setCell ⟨lb,j,none⟩ v).heap[b]?=some o:=(Below.heap_setCell w ⟨lb,j,none⟩ v b hne).trans h
theorem zai {w:World}{b:Nat}{h:Sh}(e:w.heap[b]?=some (shO h)):StAt w b h :=
 ⟨(cell_of_row w b 0 _ _ (0,0) e).trans rfl,(cell_of_row w b 1 _ _ (0,0) e).trans rfl,(cell_of_row w b 2 _ _ (0,0) e).trans rfl,(cell_of_row w b 3 _ _ (0,0) e).trans rfl⟩
set_option maxHeartbeats 4000000 in
theorem rdisp_own:SaysDispO 24:=by
 intro W H g h s B w hok hin hB hrp hn3
 obtain ⟨i1,hi1,hy0,hy1,hy2⟩:=info_parts info_pairD
 obtain ⟨w2,hw2,hB2,hz2,hg2,hs2⟩:=zbv w W H g h
 obtain ⟨w3,hw3⟩:∃ w3,w3=w2.alloc (shO ⟨0,none,0,0,none,0,0,none,0,0⟩):=⟨_,rfl⟩
 have hb3:Below w2.heap.size w2 w3:=by rw [hw3];exact (zX _ _).alloc (zL _) _
 have hz3:w3.heap.size=w.heap.size+3:=by rw [hw3];simp [hz2]
 have hq3:StAt w3 (w.heap.size+2) ⟨0,none,0,0,none,0,0,none,0,0⟩:=by rw [hw3,<- hz2];exact zbo w2 _
 have hf3:∀ i,w3.frozen? ⟨w.heap.size+2,i,none⟩=false:=fun i=>by rw [hw3,<- hz2];simp
 have hB3:=hB2.trans (hb3.mono (by omega))
 have hrl:s.rs.length=h.n1:=hin.rs.1
 have htl:s.ts.length=h.n2:=hin.ts.1
 have hrn:=hrp.rn
 have htn:=hrp.tn
 have HCO:=qz (rcopy_any h s B w3 (hin.below (hB3.mono hB)) (Nat.le_trans hB hB3.size) (by omega) (by omega) (by omega))
 have HG3:=qz (hg2.below hb3 (by omega))
 have hs3:=hs2.below hb3 (by omega)
 have HQ3:=qz hq3
 have HF3:=qz hf3
 have HB3:=qz hB3
 have HW3:Hid (w3=((w.alloc (zar W H g)).alloc (shO h)).alloc (shO ⟨0,none,0,0,none,0,0,none,0,0⟩)):=by unfold Hid;rw [hw3,hw2]
 have HOK:=qz hok
 have HRP:=qz hrp
 rw [hz3] at HCO
 obtain ⟨s0,s1,s2,s3⟩:=hs3
 have hn3':s.bl.length=h.n3:=hin.bl.1
 obtain ⟨t,a1,n1,c1,a2,n2,c2,a3,n3,c3⟩:=h
 simp only [] at s0 s1 s2 s3 hrl htl hn3 hn3'
 rw [HW3.out] at s0 s1 s2 s3
 clear hw2 hB2 hg2 hs2 hw3 hb3 hq3 hf3 hB3 hrp hok hin hz2
 go_enter Tryz.func24,Tryz.ntmps24
 go_wp2_with fail
 rw [<- HW3.out]
 refine HCO.out.mono ?_
 rintro e w4 ⟨h',rfl,hc4,hb4⟩
 have hz4:w.heap.size+3<=w4.heap.size:=by have:=hb4.size;omega
 have hm1:h'.n1=s.rs.length:=hc4.n1
 have hm2:h'.n2=s.ts.length:=hc4.n2
 have hm3:h'.n3=s.bl.length:=hc4.n3
 have HL1:Hid (∀ lb,h'.a1=some ⟨lb,0,none⟩->0<h'.n1->lb<w4.heap.size):=fun lb e hn=>by
  have:=World.ownsRow.lt (hc4.rs.full (by omega)) lb (by rw [e];rfl)
  exact this.2
 have HL2:Hid (∀ lb,h'.a2=some ⟨lb,0,none⟩->0<h'.n2->lb<w4.heap.size):=fun lb e hn=>by
  have:=World.ownsRow.lt (hc4.ts.full (by omega)) lb (by rw [e];rfl)
  exact this.2
 obtain ⟨w5,hw5⟩:∃ w5,w5=w4.alloc (shO h'):=⟨_,rfl⟩
 have hz5:w5.heap.size=w4.heap.size+1:=by rw [hw5];simp
 have hb5:Below w4.heap.size w4 w5:=by rw [hw5];exact (zX _ _).alloc (zL _) _
 have HX5:Hid (w5.heap[w4.heap.size]?=some (shO h')):=by unfold Hid;rw [hw5];exact heap_alloc_new w4 _
 have HC4:=qz hc4
 have HC5:=qz (hc4.calls hb5)
 have HB5:=qz (Below.trans (show Below (w.heap.size+3) w3 w4 from hb4) (hb5.mono (by omega)))
 have HW5:=qz hw5
 obtain ⟨t',a1',n1',c1',a2',n2',c2',a3',n3',c3'⟩:=h'
 simp only [] at hm1 hm2 hm3 HL1 HL2
 obtain rfl:n1'=n1:=by omega
 obtain rfl:n2'=n2:=by omega
 obtain rfl:n3'=n3:=by omega
 clear hm1 hm2 hm3
 clear hc4 hb4 hb5 hw5 s0 s1 s2 s3
 go_wp2_with fail
 rw [<- HW5.out]
 go_loopw [7,8] (fun v i wr=>∃ (k:Nat) (st:St) (ps:List (Nat × Nat)),k<=n2'/\i=.int .i64 k/\Hid (dispN W H (zaa g) s k=(st,ps))/\Hid (OwnPr wr (w4.heap.size+1) 91 v ps)/\Hid (Copy0 wr (w.heap.size+3) ⟨t',a1',n1',c1',a2',n2',c2',a3',n3',c3'⟩ st)/\Hid (wr.heap[w4.heap.size]?=some (shO ⟨t',a1',n1',c1',a2',n2',c2',a3',n3',c3'⟩))/\Hid (Below (w.heap.size+3) w3 wr)) (fun _ i _=>n2'-(intOf i).toNat)
 case atStart=>exact ⟨0,s,[],Nat.zero_le _,rfl,rfl,OwnPr.nil _ _ _,HC5.out,HX5.out,HB5.out⟩
 case round =>
  obtain ⟨k,st,ps,hk,rfl,HD,HO,HC,HX,HB⟩:=hrel
  have hlb:w4.heap.size<wr.heap.size:=(Array.getElem?_eq_some_iff.1 HX.out).1
  obtain ⟨g0,g1,g2⟩:=HG3.out.below HB.out (by omega)
  obtain ⟨x0,x1,x2,x3⟩:=zai HX.out
  simp only [] at x0 x1 x2 x3
  have hdi:=dispN_is (W:=W) (H:=H) (l:=zaa g) HRP.out k (by omega)
  rw [HD.out] at hdi
  obtain ⟨hri,hdi⟩:=hdi
  simp only [] at hri hdi
  have hsr:st.rs.length=n1':=by rw [hdi.rl];omega
  have hst:st.ts.length=n2':=by rw [hdi.tl];omega
  by_cases hlt:k<n2'
  · have hkn:(k:Int)<(n2':Int):=by omega
    have HBE:=qz (rbest_any W H g ⟨t',a1',n1',c1',a2',n2',c2',a3',n3',c3'⟩ st (k:Int) wr.heap.size wr HOK.out HC.out.stIn (zL _) hri (by show n3'<=1000000;omega))
    rcases bestG_is (W:=W) (H:=H) (l:=zaa g) (s:=st) (k:Int) with ⟨h1,_⟩|⟨_,_,hd1,kk,hkk,hbe,hf⟩
    · have HD2:Hid (dispN W H (zaa g) s (k+1)=(st,ps)):=by unfold Hid;rw [dispN,HD.out];exact if_pos (by rw [h1];decide)
      rw [h1] at HBE
      clear hri hdi
      go_wp2_with fail
      refine HBE.out.mono ?_
      rintro e wa ⟨rfl,hba⟩
      have HO2:=qz (HO.out.calls hba)
      have HC2:=qz (HC.out.calls hba)
      have HX2:=qz ((hba.block w4.heap.size hlb).trans HX.out)
      have HB2:=qz (HB.out.trans (hba.mono (by omega)))
      clear hba
      go_wp2_with fail
      go_roundw
      case rel=>exact ⟨k+1,st,ps,by omega,by go_num,HD2,HO2,HC2,HX2,HB2⟩
      case measure=>simp [intOf];omega
    · have HD2:Hid (dispN W H (zaa g) s (k+1)=(giveS st k kk,ps++[(k,kk)])):=by
       unfold Hid
       rw [dispN,HD.out]
       simp only [hbe,Int.toNat_natCast]
       exact if_neg (by omega)
      rw [hbe] at HBE
      have hpl:ps.length<=k:=by have:=dispN_len W H (zaa g) s k;rw [HD.out] at this;exact this
      have hkkn:(kk:Int)<(n1':Int):=by omega
      have hk0:¬ (kk:Int)<0:=by omega
      clear hri hdi hf hd1
      go_wp2_with fail
      refine HBE.out.mono ?_
      rintro e wa ⟨rfl,hba⟩
      have m:=HC.out.calls hba
      obtain ⟨lb2,ha2,hq2,_,_,_⟩:=(m.ts.full (by omega)).at (by omega)
      obtain ⟨lb1,ha1,hq1,_,_,_⟩:=(m.rs.full (by omega)).at (by omega)
      simp only [] at ha1 ha2
      subst ha1 ha2
      have hl1:=HL1.out lb1 rfl (by omega)
      have hl2:=HL2.out lb2 rfl (by omega)
      have hxa:=(hba.block w4.heap.size hlb).trans HX.out
      have hoa:=HO.out.calls hba
      have hbe3:=HB.out.trans (hba.mono (by omega))
      have hza:=hba.size
      obtain ⟨z0,z1,z2,z3⟩:=zai hxa
      simp only [] at z0 z1 z2 z3
      obtain ⟨m1,q1⟩:=m.setT (i:=k) (j:=3) rfl (by omega) (by omega) 2
      have hk2:k<st.ts.length:=by omega
      obtain ⟨m2,q2⟩:=m1.setT (i:=k) (j:=4) rfl (by simp;omega) (by omega) (kk:Int)
      simp only [zba hk2] at m2 q2
      obtain ⟨m3,q3⟩:=m2.setR (i:=kk) (j:=1) rfl hkk (by omega) 1
      have f1:=(m.cellT (i:=k) rfl hk2).1.2.2.2.1
      have fz1:=(m.cellT (i:=k) rfl hk2).2 (k*5+3)
      have f2:=(m1.cellT (i:=k) rfl (by simp;omega)).1.2.2.2.2
      have fz2:=(m1.cellT (i:=k) rfl (by simp;omega)).2 (k*5+4)
      have f3:=(m2.cellR (i:=kk) rfl hkk).1.2.1
      have fz3:=(m2.cellR (i:=kk) rfl hkk).2 (kk*5+1)
      have hx1:=zax (lb:=lb2) (j:=k*5+3) (v:=.int .i64 2) hxa (by omega)
      have hx2:=zax (lb:=lb2) (j:=k*5+4) (v:=.int .i64 (kk:Int)) hx1 (by omega)
      have hx3:=zax (lb:=lb1) (j:=kk*5+1) (v:=.int .i64 1) hx2 (by omega)
      have y1:=(zai hx1).2.2.1
      have y2:=(zai hx2).2.1
      simp only [] at y1 y2
      have ho3:=((hoa.set (i:=k*5+3) (u:=.int .i64 2) (show lb2<w4.heap.size+1 by omega)).set (i:=k*5+4) (u:=.int .i64 (kk:Int)) (show lb2<w4.heap.size+1 by omega)).set (i:=kk*5+1) (u:=.int .i64 1) (show lb1<w4.heap.size+1 by omega)
      obtain ⟨X3,hX3⟩:∃ X3,X3=((wa.setCell ⟨lb2,k*5+3,none⟩ (.int .i64 2)).setCell ⟨lb2,k*5+4,none⟩ (.int .i64 (kk:Int))).setCell ⟨lb1,kk*5+1,none⟩ (.int .i64 1):=⟨_,rfl⟩
      have hz3x:X3.heap.size=wa.heap.size:=by rw [hX3];simp [World.setCell]
      have hb3x:Below (w.heap.size+3) w3 X3:=by rw [hX3];exact ((hbe3.trans q1).trans q2).trans q3
      rw [<- hX3] at m3 hx3 ho3
      obtain ⟨v0,v1,v2,v3⟩:=zai hx3
      simp only [] at v0 v1 v2 v3
      have f4:X3.cell? ⟨lb2,k*5,none⟩=some (.int .i64 (st.ts.getD k zr).a):=by
       have q:=(m3.cellT (i:=k) rfl (by simp;omega)).1.1
       simp only [List.set_set,zba hk2] at q
       exact q
      obtain ⟨Y,hY⟩:∃ Y,Y=X3.drew:=⟨_,rfl⟩
      have hbY:Below X3.heap.size X3 Y:=by rw [hY];exact Below.drew (zX _ _)
      have hxY:Y.heap[w4.heap.size]?=some (shO ⟨t',some ⟨lb1,0,none⟩,n1',c1',some ⟨lb2,0,none⟩,n2',c2',a3',n3',c3'⟩):=by rw [hY];exact hx3
      have hzY:Y.heap.size=X3.heap.size:=by rw [hY];rfl
      have mY:=m3.calls hbY
      have f5:=(mY.cellR (i:=kk) rfl (by simp;omega)).1.2.2.1
      have fz5:=(mY.cellR (i:=kk) rfl (by simp;omega)).2 (kk*5+2)
      obtain ⟨m4,q4⟩:=mY.setR (i:=kk) (j:=2) rfl (by simp;omega) (by omega) (st.ts.getD k zr).a
      simp only [zba hkk] at m4 q4
      rw [<- give_setF] at m4
      have hx4:=zax (lb:=lb1) (j:=kk*5+2) (v:=.int .i64 (st.ts.getD k zr).a) hxY (by omega)
      have h1:=(ho3.calls hbY).set (i:=kk*5+2) (u:=.int .i64 (st.ts.getD k zr).a) (show lb1<w4.heap.size+1 by omega)
      have hb4x:Below (w.heap.size+3) w3 (Y.setCell ⟨lb1,kk*5+2,none⟩ (.int .i64 (st.ts.getD k zr).a)):=(hb3x.trans (hbY.mono (by omega))).trans q4
      have hz4x:(Y.setCell ⟨lb1,kk*5+2,none⟩ (.int .i64 (st.ts.getD k zr).a)).heap.size=wa.heap.size:=by rw [<- hz3x,<- hzY];simp [World.setCell]
      have HY:=qz hY
      have HX3:=qz hX3
      have HM4:=qz m4
      have HX4:=qz hx4
      have HB4:=qz hb4x
      generalize (st.ts.getD k zr).a=id at f4 h1 hz4x HM4 HX4 HB4
      obtain ⟨o5,ho5⟩:∃ o5,Y.cell? ⟨lb1,kk*5+2,none⟩=some (.int .i64 o5):=⟨_,f5⟩
      clear f5
      generalize (st.ts.getD k zr).d=o1 at f1
      generalize (setF (st.ts.getD k zr) 3 2).e=o2 at f2
      simp only [zba hk2] at f2
      clear HL1 HL2 m m1 m2 m3 m4 q1 q2 q3 q4 hxa hx1 hx2 hx3 hx4 hoa ho3 hX3 hb3x hb4x hbY hxY mY hY hbe3 hba g0 g1 g2 x0 x1 x2 x3
      go_wp2_with fail
      rw [<- HX3.out]
      go_still_tail 11,(by kernel_rfl)
      change wpList _ _ _ _ _ X3.drew
      rw [<- HY.out]
      go_wp2_with (at_builtin;(refine wpList_append_own _ rfl (.tmp 53) (.tmp 57) 62 rfl (w4.heap.size+1) 91 i1 (.agg #[.int .i64 0,.int .i64 0]) 2 16 Tryz.underlying62 hi1 hy0 hy1 hy2 rfl (by decide) _ _ _ rfl (World.ownsRow.alloc h1 _) ⟨wa.heap.size,0,none⟩ 1 1 [.int .i64 (k:Nat),.int .i64 (kk:Nat)] rfl rfl (by rw [<- hz4x];exact two_cell _ _ _ _) (by simp [Value.oneCell']) (by simp only [maxLen];omega) (by omega) (by simp only [World.size_alloc,hz4x];omega) ?_;intro v6 w6 hown6 hgrow6 _))
      have hb46:Below (w4.heap.size+1) (Y.setCell ⟨lb1,kk*5+2,none⟩ (.int .i64 id)) w6:=((zX _ _).alloc (by omega) _).grown hgrow6 (by simp only [World.size_alloc,hz4x];omega) (fun k hk=>(World.ownsRow.lt h1 k hk).1)
      have HO6:Hid (OwnPr w6 (w4.heap.size+1) 91 v6 (ps++[(k,kk)])):=by
       unfold Hid OwnPr
       rw [List.length_append,List.length_singleton,pairsL_append]
       exact hown6
      have HM6:=qz (HC4.out.upto HM4.out hb46 (by omega))
      have HX6:=qz ((hb46.block w4.heap.size (by omega)).trans HX4.out)
      have HB6:=qz (HB4.out.trans (hb46.mono (by omega)))
      clear hown6 hgrow6 hb46 h1
      go_wp2_with fail
      go_roundw
      case rel=>exact ⟨k+1,_,_,by omega,by go_num,HD2,HO6,HM6,HX6,HB6⟩
      case measure=>simp [intOf];omega
  · obtain rfl:k=n2':=by omega
    have HDG:Hid (dispG W H (zaa g) s=(chargeS st,ps)):=by unfold Hid dispG;rw [htl,HD.out]
    obtain ⟨ap,cp,rfl,_⟩:=HO.out.row
    clear hri hdi
    go_wp2_with fail
    go_loopw [10] (fun i wr=>∃ j:Nat,j<=n1'/\i=.int .i64 j/\Hid (OwnPr wr (w4.heap.size+1) 91 (.slice ap ps.length cp) ps)/\Hid (Copy0 wr (w.heap.size+3) ⟨t',a1',n1',c1',a2',k,c2',a3',n3',c3'⟩ (zas st j))/\Hid (wr.heap[w4.heap.size]?=some (shO ⟨t',a1',n1',c1',a2',k,c2',a3',n3',c3'⟩))/\Hid (Below (w.heap.size+3) w3 wr)) (fun i _=>n1'-(intOf i).toNat)
    case atStart=>exact ⟨0,Nat.zero_le _,rfl,HO,HC,HX,HB⟩
    case round =>
     clear HO HC HX HB x0 x1 x2 x3 g0 g1 g2
     obtain ⟨j,hj,rfl,HO,HC,HX,HB⟩:=hrel
     have hlb2:w4.heap.size<wr.heap.size:=(Array.getElem?_eq_some_iff.1 HX.out).1
     obtain ⟨x0,x1,x2,x3⟩:=zai HX.out
     simp only [] at x0 x1 x2 x3
     by_cases hlt2:j<n1'
     · have hjn:(j:Int)<(n1':Int):=by omega
       have hcl:=(chargeN_len st (k:=j) (by omega)).1
       obtain ⟨lb1,ha1,hq1,_,_,_⟩:=(HC.out.rs.full (by omega)).at (by omega)
       simp only [] at ha1
       subst ha1
       have hl1:=HL1.out lb1 rfl (by omega)
       have hc:=HC.out.cellR (i:=j) rfl (by omega)
       have f1:=hc.1.2.1
       have f3:=hc.1.2.2.2.1
       have fz:=hc.2 (j*5+1)
       have HCH:Hid (zas st (j+1)=if ((zas st j).rs.getD j zr).b=0/\((zas st j).rs.getD j zr).d<100 then ⟨(zas st j).tick,(zas st j).rs.set j (setF ((zas st j).rs.getD j zr) 1 3),(zas st j).ts,(zas st j).bl⟩ else zas st j):=by unfold Hid;rw [zas]
       obtain ⟨m1,q1⟩:=HC.out.setR (i:=j) (j:=1) rfl (by omega) (by omega) 3
       generalize ((zas st j).rs.getD j zr).b=rb at f1 HCH
       generalize ((zas st j).rs.getD j zr).d=rd at f3 HCH
       have HM1:=qz m1
       have HO1:=qz (HO.out.set (i:=j*5+1) (u:=.int .i64 3) (show lb1<w4.heap.size+1 by omega))
       have HX1:=qz (zax (lb:=lb1) (j:=j*5+1) (v:=.int .i64 3) HX.out (by omega))
       have HB1:=qz (HB.out.trans q1)
       clear hc m1 q1 HL1 HL2
       by_cases h1:rb=0
       · have e1:(rb==0)=true:=by simpa using h1
         by_cases h2:rd<100
         · have e2:decide (rd<100)=true:=decide_eq_true h2
           have HY1:=qz (HCH.out.trans (if_pos ⟨h1,h2⟩))
           clear HCH
           go_wp2_with fail
           go_roundw
           case rel=>exact ⟨j+1,by omega,by go_num,HO1.out,by rw [HY1.out];exact HM1.out,HX1.out,HB1.out⟩
           case measure=>simp [intOf];omega
         · have e2:decide (rd<100)=false:=decide_eq_false h2
           have HY1:=qz (HCH.out.trans (if_neg (fun h=>h2 h.2)))
           clear HCH
           go_wp2_with fail
           go_roundw
           case rel=>exact ⟨j+1,by omega,by go_num,HO.out,by rw [HY1.out];exact HC.out,HX.out,HB.out⟩
           case measure=>simp [intOf];omega
       · have e1:(rb==0)=false:=by simpa using h1
         have HY1:=qz (HCH.out.trans (if_neg (fun h=>h1 h.1)))
         clear HCH
         go_wp2_with fail
         go_roundw
         case rel=>exact ⟨j+1,by omega,by go_num,HO.out,by rw [HY1.out];exact HC.out,HX.out,HB.out⟩
         case measure=>simp [intOf];omega
     · obtain rfl:j=n1':=by omega
       have hce:zas st j=chargeS st:=by rw [<- hsr];exact chargeN_end st
       have hc:=HC.out
       rw [hce] at hc
       obtain ⟨q0,q1,q2,q3⟩:=HQ3.out.below HB.out (by omega)
       have f0:=(HB.out.frozen (p:=⟨w.heap.size+2,0,none⟩) (show w.heap.size+2<w.heap.size+3 by omega)).trans (HF3.out 0)
       have f1:=(HB.out.frozen (p:=⟨w.heap.size+2,1,none⟩) (show w.heap.size+2<w.heap.size+3 by omega)).trans (HF3.out 1)
       have f2:=(HB.out.frozen (p:=⟨w.heap.size+2,2,none⟩) (show w.heap.size+2<w.heap.size+3 by omega)).trans (HF3.out 2)
       have f3:=(HB.out.frozen (p:=⟨w.heap.size+2,3,none⟩) (show w.heap.size+2<w.heap.size+3 by omega)).trans (HF3.out 3)
       simp only [] at q0 q1 q2 q3
       obtain ⟨r0,r1,r2,r3⟩:=zcg q0 q1 q2 q3 ⟨t',a1',j,c1',a2',k,c2',a3',n3',c3'⟩
       simp only [] at r0 r1 r2 r3
       have HSI:=qz (Copy0.lower (⟨hc.tick,zap hc.rs (show w.heap.size+2<w.heap.size+3 by omega) (.int .i64 t') (.slice a1' j c1') (.slice a2' k c2') (.slice a3' n3' c3'),zap hc.ts (show w.heap.size+2<w.heap.size+3 by omega) (.int .i64 t') (.slice a1' j c1') (.slice a2' k c2') (.slice a3' n3' c3'),zbh hc.bl (show w.heap.size+2<w.heap.size+3 by omega) (.int .i64 t') (.slice a1' j c1') (.slice a2' k c2') (.slice a3' n3' c3'),hc.n1,hc.n2,hc.n3⟩:Copy0 _ (w.heap.size+3) ⟨t',a1',j,c1',a2',k,c2',a3',n3',c3'⟩ (chargeS st)) (show w.heap.size<=w.heap.size+3 by omega))
       have hro:OwnPr _ _ _ _ _:=zbc HO.out (show w.heap.size+2<w4.heap.size+1 by omega) (.int .i64 t') (.slice a1' j c1') (.slice a2' k c2') (.slice a3' n3' c3')
       obtain ⟨ax,cx,ex,hrow⟩:=hro.row
       injection ex with ex1 ex2 ex3
       subst ex1 ex3
       have HRO:=qz hrow
       have HBF:=qz (zah (HB3.out.trans (HB.out.mono (by omega))) (show w.heap.size<=w.heap.size+2 by omega) (.int .i64 t') (.slice a1' j c1') (.slice a2' k c2') (.slice a3' n3' c3'))
       clear hrow hro hc hce ex2 HL1 HL2
       go_wp2_with fail
       exact bodyPost_ret (v:=.tuple #[shV ⟨t',a1',j,c1',a2',k,c2',a3',n3',c3'⟩,.slice ap ps.length cp]) (by simp [results,Tryz.results24,go_sem,r0,r1,r2,r3]) rfl
        ⟨⟨t',a1',j,c1',a2',k,c2',a3',n3',c3'⟩,ap,_,cp,rfl,by rw [HDG.out];exact HSI.out,by rw [HDG.out];exact HRO.out,HBF.out⟩
end Go.Proofs.YtknnnbpgkfaapaaGreat.Vm
