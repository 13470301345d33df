import Derived.Test.YtknnnbpgkfaapaaGreatQ
import Derived.Test.YtknnnbpgkfaapaaGreatVRefFinds
import Derived.Test.YtknnnbpgkfaapaaGreatVCopies0
set_option maxRecDepth 100000
set_option linter.unusedSimpArgs false
set_option linter.unusedVariables false
namespace Go.Proofs.YtknnnbpgkfaapaaGreat.Vm
open Go Go.RowKit
def fillR (cells:List Int)(k:Nat):List Rec:=newR (cells.take k)++List.replicate (cells.length-k) zr
theorem fillR_len (cells:List Int){k:Nat}(hk:k<=cells.length):(fillR cells k).length=cells.length:=by
 simp [fillR,newR];omega
theorem fillR_end (cells:List Int):fillR cells cells.length=newR cells:=by simp [fillR]
theorem fillR_set {cells:List Int}{k:Nat}(hk:k<cells.length):(fillR cells k).set k ⟨cells.getD k 0,0,0,1000,0⟩=fillR cells (k+1):=by
 have hl:(newR (cells.take k)).length=k:=by simp [newR];omega
 have e1:newR (cells.take (k+1))=newR (cells.take k)++[⟨cells.getD k 0,0,0,1000,0⟩]:=by
  rw [take_getD hk]
  simp [newR]
 unfold fillR
 rw [show cells.length-k=(cells.length-(k+1))+1 by omega,List.replicate_succ,List.set_append,hl,if_neg (Nat.lt_irrefl _),Nat.sub_self,List.set_cons_zero,e1,List.append_assoc]
 rfl
theorem recs_set {rs:List Rec}{i:Nat}(hi:i<rs.length)(r:Rec) :
 ((((((recs rs).set (i*5) (.int .i64 r.a)).set (i*5+1) (.int .i64 r.b)).set (i*5+2) (.int .i64 r.c)).set (i*5+3) (.int .i64 r.d)).set (i*5+4) (.int .i64 r.e))=recs (rs.set i r):=by
 have hlr:=zbj rs
 apply List.ext_getElem?
 intro j
 by_cases hj:j<rs.length*5
 · rw [recs_get (rs.set i r) j]
   by_cases hji:j / 5=i
   · have hm:j % 5<5:=Nat.mod_lt _ (by omega)
     have hj5:j=i*5+j % 5:=by omega
     rw [hji,List.getElem?_set_self hi]
     generalize j % 5=q at hm hj5
     subst hj5
     match q,hm with
     | 0,_=>simp [recL,List.getElem?_set,hlr];omega
     | 1,_=>simp [recL,List.getElem?_set,hlr];omega
     | 2,_=>simp [recL,List.getElem?_set,hlr];omega
     | 3,_=>simp [recL,List.getElem?_set,hlr];omega
     | 4,_=>simp [recL,List.getElem?_set,hlr];omega
   · rw [List.getElem?_set_ne (by omega),List.getElem?_set_ne (by omega),List.getElem?_set_ne (by omega),List.getElem?_set_ne (by omega),List.getElem?_set_ne (by omega),List.getElem?_set_ne (fun e=>hji e.symm),recs_get]
 · rw [List.getElem?_eq_none (by simp [hlr];omega),List.getElem?_eq_none (by rw [zbj,List.length_set];omega)]
theorem OwnR.set {w:World}{B lb c:Nat}{n:Nat}{ty:TypeId}{rs:List Rec}(h:OwnR w B ty (.slice (some ⟨lb,0,none⟩) n c) rs){i:Nat}(hi:i<rs.length)(r:Rec) :
 OwnR (((((w.setCell ⟨lb,i*5,none⟩ (.int .i64 r.a)).setCell ⟨lb,i*5+1,none⟩ (.int .i64 r.b)).setCell ⟨lb,i*5+2,none⟩ (.int .i64 r.c)).setCell ⟨lb,i*5+3,none⟩ (.int .i64 r.d)).setCell ⟨lb,i*5+4,none⟩ (.int .i64 r.e)) B ty (.slice (some ⟨lb,0,none⟩) n c) (rs.set i r):=by
 have hn:n=rs.length:=by
  obtain ⟨a',c',e⟩:=h.slice
  injection e
 subst hn
 have h1:=(World.ownsRow.stored h (i*5) (.int .i64 r.a)).1
 have h2:=(World.ownsRow.stored h1 (i*5+1) (.int .i64 r.b)).1
 have h3:=(World.ownsRow.stored h2 (i*5+2) (.int .i64 r.c)).1
 have h4:=(World.ownsRow.stored h3 (i*5+3) (.int .i64 r.d)).1
 have h5:=(World.ownsRow.stored h4 (i*5+4) (.int .i64 r.e)).1
 unfold OwnR
 rw [List.length_set,<- recs_set hi r]
 exact h5
theorem OwnR.frozen {w:World}{B lb n c:Nat}{ty:TypeId}{rs:List Rec}(h:OwnR w B ty (.slice (some ⟨lb,0,none⟩) n c) rs)(i:Nat):w.frozen? ⟨lb,i,none⟩=false:=by
 have hn:n=rs.length:=by
  obtain ⟨a',c',e⟩:=h.slice
  injection e
 subst hn
 exact World.ownsRow.frozenAt h i
theorem below_set5 {B b o:Nat}{a V:World}(h:Below B a V)(hb:B<=b)(v0 v1 v2 v3 v4:Value):Below B a (((((V.setCell ⟨b,o,none⟩ v0).setCell ⟨b,o+1,none⟩ v1).setCell ⟨b,o+2,none⟩ v2).setCell ⟨b,o+3,none⟩ v3).setCell ⟨b,o+4,none⟩ v4) :=
 ((((h.setCell (p:=⟨b,o,none⟩) hb v0).setCell (p:=⟨b,o+1,none⟩) hb v1).setCell (p:=⟨b,o+2,none⟩) hb v2).setCell (p:=⟨b,o+3,none⟩) hb v3).setCell (p:=⟨b,o+4,none⟩) hb v4
theorem shut_set5 {b o mb m:Nat}{V:World}{l:List Int}(h:ShutIn V mb m l)(hb:mb≠b)(v0 v1 v2 v3 v4:Value):ShutIn (((((V.setCell ⟨b,o,none⟩ v0).setCell ⟨b,o+1,none⟩ v1).setCell ⟨b,o+2,none⟩ v2).setCell ⟨b,o+3,none⟩ v3).setCell ⟨b,o+4,none⟩ v4) mb m l:=by
 have e:∀ (W:World) (o:Nat) (v:Value),(W.setCell ⟨b,o,none⟩ v).heap[mb]?=W.heap[mb]?:=fun W o v=>Below.heap_setCell W _ v mb hb
 exact h.keep ((e _ _ _).trans ((e _ _ _).trans ((e _ _ _).trans ((e _ _ _).trans (e _ _ _)))))
theorem make_robots (w:World)(N:Nat)(hN:N<=100000):(Instr.makeSlice 24 (.int .i64 (N:Int)) (.int .i64 (N:Int))).run Tryz.prog w=.ok (.slice (some ⟨w.heap.size,0,none⟩) N N) (w.alloc (.cells ⟨recs (List.replicate N zr)⟩ 46)):=by
 obtain ⟨j0,hj0,hy0,hy1,hy2⟩:=info_parts info_robot
 have hmk:=run_make (P:=Tryz.prog) w 24 46 j0 (.agg #[.int .i64 0,.int .i64 0,.int .i64 0,.int .i64 0,.int .i64 0]) Tryz.underlying24 hj0 hy0 .i64 .i64 N N (by omega) (Int.le_refl _) (by rw [hy2];omega) (by omega)
 simp only [Int.toNat_natCast] at hmk
 rw [hy1] at hmk
 have hmc:(madeCells (Value.agg #[.int .i64 0,.int .i64 0,.int .i64 0,.int .i64 0,.int .i64 0]).cells (N*5))=⟨recs (List.replicate N zr)⟩:=by
  apply Array.ext'
  apply List.ext_getElem?
  intro j
  rw [recs_get]
  by_cases hj:j<N*5
  · have hm:j % 5<5:=Nat.mod_lt _ (by omega)
    have hd:j / 5<N:=by omega
    simp only [madeCells,Value.cells,Array.getElem?_toList,Array.getElem?_map]
    rw [Array.getElem?_range,if_pos hj,List.getElem?_replicate,if_pos hd]
    have h5:(#[Value.int .i64 0,.int .i64 0,.int .i64 0,.int .i64 0,.int .i64 0]:Array Value).size=5:=rfl
    simp only [Option.map_some,h5,Option.bind_some]
    generalize j % 5=q at hm ⊢
    match q,hm with
    | 0,_=>rfl
    | 1,_=>rfl
    | 2,_=>rfl
    | 3,_=>rfl
    | 4,_=>rfl
  · rw [List.getElem?_eq_none (by simp [madeCells];omega),List.getElem?_replicate,if_neg (by omega)]
    rfl
 rw [hmc] at hmk
 exact hmk
theorem robots_made (w:World)(N:Nat)(hN:N<=100000):OwnR (w.alloc (.cells ⟨recs (List.replicate N zr)⟩ 46)) w.heap.size 46 (.slice (some ⟨w.heap.size,0,none⟩) N N) (List.replicate N zr):=by
 have:=World.ownsRow_lit (base:=w.heap.size) (e:=46) (size:=5) w ⟨recs (List.replicate N zr)⟩ N (zL _) (by unfold maxLen;omega) (by simp [zbj])
 unfold OwnR
 rw [List.length_replicate]
 exact this
def NewPost (w:World)(fl:Int->Bool)(cells:List Int)(e:Ending)(w':World):Prop :=
 ∃ h':Sh,e=.returned (.tuple #[shV h',.int .i64 (newE fl cells)])/\CopyIn w' w.heap.size h' (newS fl cells)/\Below w.heap.size w w'
theorem newPost_err {w w':World}{fl:Int->Bool}{cells:List Int}{x:Int}(h:newE fl cells=x)(hx:x≠0)(hb:Below w.heap.size w w') :
 NewPost w fl cells (.returned (.tuple #[.agg #[.int .i64 0,.slice none 0 0,.slice none 0 0,.slice none 0 0],.int .i64 x])) w':=by
 refine ⟨⟨0,none,0,0,none,0,0,none,0,0⟩,by rw [h],?_,hb⟩
 unfold newS
 rw [if_neg (by rw [h];exact hx)]
 exact ⟨rfl,ownR_nil _ _ _,ownR_nil _ _ _,World.ownsRow_nil _ _ _ _,rfl,rfl,rfl⟩
theorem newPost_ok {w w':World}{fl:Int->Bool}{cells:List Int}{a:Option Addr}{n c:Nat}(h:newE fl cells=0)(hn:n=cells.length)(hr:OwnR w' w.heap.size 46 (.slice a n c) (newR cells))(hb:Below w.heap.size w w') :
 NewPost w fl cells (.returned (.tuple #[.agg #[.int .i64 0,.slice a n c,.slice none 0 0,.slice none 0 0],.int .i64 0])) w':=by
 refine ⟨⟨0,a,n,c,none,0,0,none,0,0⟩,by rw [h],?_,hb⟩
 unfold newS
 rw [if_pos h]
 exact ⟨rfl,hr,ownR_nil _ _ _,World.ownsRow_nil _ _ _ _,by simp [newR,hn],rfl,rfl⟩
set_option maxHeartbeats 2000000 in
theorem new_any (W H:Int)(g:ByteArray)(a:Option Addr)(n c B:Nat)(cells:List Int)(w:World)(hg:g.size<=maxLen)(hin:RowZ .i64 w B a n c cells)(hB:B<=w.heap.size) :
 Calls Tryz.prog 13 #[zam W H g,.slice a n c] w (NewPost w (zac (zaa g)) cells):=by
 obtain ⟨w2,hw2,hB2,hz2,hg2,hs2⟩:=zbv w W H g ⟨0,none,0,0,none,0,0,none,0,0⟩
 have hf0:∀ i,w2.frozen? ⟨w.heap.size+1,i,none⟩=false:=fun i=>by rw [hw2];simp
 have HW2:=qz hw2
 have HG:=qz hg
 have HG2:=qz hg2
 have HS2:=qz hs2
 have HF0:=qz hf0
 have HL:=qz hin.1
 have HC:=qz hin.cells
 have hnm:=Nat.le_trans hin.2.1 hin.2.2.1
 unfold maxLen at hnm
 have HBA:=qz hB2
 rw [HW2.out] at HBA
 clear hw2 hg hg2 hs2 hf0 hin
 obtain ⟨fl,hfl⟩:∃ fl,zac (zaa g)=fl:=⟨_,rfl⟩
 rw [hfl]
 have HFL:=qz hfl
 clear hfl
 by_cases hbig:1024<n
 · have HE:Hid (newE fl cells=4):=by unfold Hid newE;rw [HL.out,if_pos hbig]
   go_enter Tryz.func13,Tryz.ntmps13
   go_wp2_with fail
   exact bodyPost_ret (v:=.tuple #[.agg #[.int .i64 0,.slice none 0 0,.slice none 0 0,.slice none 0 0],.int .i64 4]) (by simp [results,Tryz.results13,go_sem]) rfl (newPost_err HE.out (by decide) HBA.out)
 have HE:Hid (newE fl cells=scanNew fl (cells.take 0) (cells.drop 0)):=by unfold Hid newE;rw [HL.out,if_neg hbig];rfl
 have hmk:=makeSet n w2
 have hmr:=make_robots (w2.alloc (.map #[] 0)) n (by omega)
 have hw3:Below w2.heap.size w2 ((w2.alloc (.map #[] 0)).alloc (.cells ⟨recs (List.replicate n zr)⟩ 46)):=((zX _ _).alloc (zL _) _).alloc (by simp) _
 have hms:ShutIn (w2.alloc (.map #[] 0)) (w.heap.size+2) 0 []:=by
  have:=World.ownsMap_made (H:=Unit) w2 Tryz.prog 3 unitElem
  rwa [hz2] at this
 have hms:=hms.keep (w':=(w2.alloc (.map #[] 0)).alloc (.cells ⟨recs (List.replicate n zr)⟩ 46)) (Below.heap_alloc _ _ _ (by simp [hz2]))
 have hrm:=robots_made (w2.alloc (.map #[] 0)) n (by omega)
 have hz3:(w2.alloc (.map #[] 0)).heap.size=w.heap.size+3:=by simp [hz2]
 rw [hz3] at hrm hmr
 have hfill:fillR cells 0=List.replicate n zr:=by simp [fillR,newR,HL.out]
 have hzz:((w2.alloc (.map #[] 0)).alloc (.cells ⟨recs (List.replicate n zr)⟩ 46)).heap.size=w.heap.size+4:=by simp [hz2]
 obtain ⟨w3,hw3e⟩:∃ w3,w3=(w2.alloc (.map #[] 0)).alloc (.cells ⟨recs (List.replicate n zr)⟩ 46):=⟨_,rfl⟩
 rw [<- hw3e] at hw3 hms hrm hzz
 rw [<- hfill] at hrm
 have HW3:=qz hw3e
 have HMS:=qz hms
 have HRM:=qz hrm
 rw [hz2] at hmk
 rw [HW2.out] at hmk hmr
 have HV3:=qz hw3
 clear hw3e hms hrm hz3 hfill hw3
 go_enter Tryz.func13,Tryz.ntmps13
 go_wp2_with fail
 rw [<- HW2.out,<- HW3.out]
 clear hmk hmr
 go_loopw [22] (fun i wr=>∃ k:Nat,k<=n/\i=.int .i64 k/\Hid (ShutIn wr (w.heap.size+2) k (cells.take k))/\Hid (OwnR wr (w.heap.size+3) 46 (.slice (some ⟨w.heap.size+3,0,none⟩) n n) (fillR cells k))/\Below w2.heap.size w2 wr/\w.heap.size+3<wr.heap.size/\Hid (newE fl cells=scanNew fl (cells.take k) (cells.drop k))) (fun i _=>n-(intOf i).toNat)
 case atStart=>exact ⟨0,Nat.zero_le _,rfl,HMS.out,HRM.out,HV3.out,by omega,HE.out⟩
 case round =>
  obtain ⟨k,hk,rfl,HM,HR,hbel,hmb,HA⟩:=hrel
  have hBr:=hB2.trans (hbel.mono hB2.size)
  have hgr:=HG2.out.below hbel (by omega)
  have hsr:=HS2.out.below hbel (by omega)
  by_cases hlt:k<n
  · obtain ⟨b,off,rfl,hb,hcs⟩:=HC.out (by omega)
    have hcell:=(hBr.cell (p:=⟨b,off+k,none⟩) (show b<w.heap.size by omega)).trans (hcs k hlt)
    have HKN:Hid (k<cells.length):=by unfold Hid;rw [HL.out];exact hlt
    have hx:∃ x,cells.getD k 0=x:=⟨_,rfl⟩
    obtain ⟨x,hx⟩:=hx
    rw [hx] at hcell
    have HX:=qz hx
    obtain ⟨g1,g2,g3⟩:=id hgr
    clear hcs hx
    cases hf:fl x
    · have HY:Hid (newE fl cells=5):=HA.out.trans (scan_5 HKN.out (by rw [HX.out];exact hf))
      have HF:=qz fun (V:World)=>floor_no (W:=W) (H:=H) V HG.out (by rw [HFL.out];exact hf)
      clear hf hgr
      go_wp2_with fail
      refine (HF.out _).mono ?_
      rintro e w4 ⟨rfl,hv4⟩
      have hb4:=hbel.trans (hv4.mono hbel.size)
      obtain ⟨q0,q1,q2,q3⟩:=hsr.below hv4 (by omega)
      simp only [] at q0 q1 q2 q3
      have f0:=(hb4.frozen (p:=⟨w.heap.size+1,0,none⟩) (show w.heap.size+1<w2.heap.size by omega)).trans (HF0.out 0)
      have f1:=(hb4.frozen (p:=⟨w.heap.size+1,1,none⟩) (show w.heap.size+1<w2.heap.size by omega)).trans (HF0.out 1)
      have f2:=(hb4.frozen (p:=⟨w.heap.size+1,2,none⟩) (show w.heap.size+1<w2.heap.size by omega)).trans (HF0.out 2)
      have f3:=(hb4.frozen (p:=⟨w.heap.size+1,3,none⟩) (show w.heap.size+1<w2.heap.size by omega)).trans (HF0.out 3)
      have HB4:=qz (hB2.trans (hb4.mono hB2.size))
      clear hsr hb4 hbel hBr
      go_wp2_with fail
      refine bodyPost_ret (v:=.tuple #[.agg #[.int .i64 0,.slice none 0 0,.slice none 0 0,.slice none 0 0],.int .i64 5]) (by simp [results,Tryz.results13,go_sem,q0,q1,q2,q3]) rfl (newPost_err HY.out (by decide) ?_)
      exact zah HB4.out (by omega) _ _ _ _
    have HF:=qz fun (V:World)=>floor_yes (W:=W) (H:=H) V HG.out (by rw [HFL.out];exact hf)
    have HWF:=qz (floor_wf HG.out (show zac (zaa g) x=true by rw [HFL.out];exact hf))
    have HFX:Hid (fl (cells.getD k 0)=true):=by unfold Hid;rw [HX.out];exact hf
    clear hf hgr
    go_wp2_with fail
    refine (HF.out _).mono ?_
    rintro e w4 ⟨rfl,hv4⟩
    have hb4:=hbel.trans (hv4.mono hbel.size)
    have HM4:=qz (HM.out.keep (hv4.block _ (by omega)))
    have HR4:=qz (HR.out.below hv4 (fun k hk=>by simp [Value.ownBlock] at hk;omega))
    have hs4:=hsr.below hv4 (by omega)
    have hz4:=hv4.size
    clear HF HM HR hsr hv4 g1 g2 g3
    by_cases hinn:x∈cells.take k
    · have HY:Hid (newE fl cells=6):=HA.out.trans (scan_6 HKN.out HFX.out (by rw [HX.out];exact hinn))
      have HADD:=qz (add_no _ _ _ _ w4 HM4.out HWF.out hinn)
      clear hinn
      go_wp2_with fail
      refine HADD.out.mono ?_
      rintro e w5 ⟨rfl,hv5⟩
      have hb5:=hb4.trans (hv5.mono hb4.size)
      obtain ⟨q0,q1,q2,q3⟩:=hs4.below hv5 (by omega)
      simp only [] at q0 q1 q2 q3
      have f0:=(hb5.frozen (p:=⟨w.heap.size+1,0,none⟩) (show w.heap.size+1<w2.heap.size by omega)).trans (HF0.out 0)
      have f1:=(hb5.frozen (p:=⟨w.heap.size+1,1,none⟩) (show w.heap.size+1<w2.heap.size by omega)).trans (HF0.out 1)
      have f2:=(hb5.frozen (p:=⟨w.heap.size+1,2,none⟩) (show w.heap.size+1<w2.heap.size by omega)).trans (HF0.out 2)
      have f3:=(hb5.frozen (p:=⟨w.heap.size+1,3,none⟩) (show w.heap.size+1<w2.heap.size by omega)).trans (HF0.out 3)
      have HB5:=qz (hB2.trans (hb5.mono hB2.size))
      clear hs4 hb4 hb5 hbel hBr HADD
      go_wp2_with fail
      refine bodyPost_ret (v:=.tuple #[.agg #[.int .i64 0,.slice none 0 0,.slice none 0 0,.slice none 0 0],.int .i64 6]) (by simp [results,Tryz.results13,go_sem,q0,q1,q2,q3]) rfl (newPost_err HY.out (by decide) ?_)
      exact zah HB5.out (by omega) _ _ _ _
    · have HADD:=qz (add_yes _ _ _ _ w4 HM4.out HWF.out (by omega) hinn)
      have HA1:Hid (newE fl cells=scanNew fl (cells.take (k+1)) (cells.drop (k+1))):=HA.out.trans (scan_step HKN.out HFX.out (by rw [HX.out];exact hinn))
      clear hinn
      go_wp2_with fail
      refine HADD.out.mono ?_
      rintro e w5 ⟨rfl,hm5,hg5⟩
      have hr5:OwnR w5 (w.heap.size+3) 46 (.slice (some ⟨w.heap.size+3,0,none⟩) n n) (fillR cells k):=by
       refine ⟨HR4.out.1,?_⟩
       rcases HR4.out.2 with h2|⟨gg,cap,cur,hv,hb',hh,r⟩
       · exact .inl h2
       · have hgg:w.heap.size+3=gg:=by injection hv with h1;injection h1 with h1;injection h1
         exact .inr ⟨gg,cap,cur,hv,hb',(hg5.block gg (Array.getElem?_eq_some_iff.1 hh).1 (by intro e;injection e;omega)).trans hh,r⟩
      have hz5:=hg5.size
      have hb5:Below w2.heap.size w2 w5:=hb4.grown hg5 (by omega) (fun j hj=>by injection hj;omega)
      have hfl2:(fillR cells k).length=n:=by rw [fillR_len _ (by have:=HKN.out;omega),HL.out]
      have hrow:=hr5.row
      obtain ⟨b',off',e',_,hcs'⟩:=hrow.cells (by omega)
      injection e' with e'
      injection e' with e1 e2
      subst e1 e2
      obtain ⟨p1,p2,p3,p4,p5⟩:=hcs' k (by omega)
      simp only [Nat.zero_add] at p1 p2 p3 p4 p5
      have f1:=hr5.frozen (k*5)
      have f2:=hr5.frozen (k*5+1)
      have f3:=hr5.frozen (k*5+2)
      have f4:=hr5.frozen (k*5+3)
      have f5:=hr5.frozen (k*5+4)
      have HR5:=qz (hr5.set (i:=k) (by rw [fillR_len _ (by have:=HKN.out;omega)];exact HKN.out) ⟨x,0,0,1000,0⟩)
      have HM5:=qz hm5
      have HB5:=qz hb5
      have HSZ5:Hid (w.heap.size+3<w5.heap.size):=by unfold Hid;omega
      clear hs4 hb4 hb5 hbel hBr HADD hm5 hg5 hr5 hrow hcs' hfl2 HR4 HM4
      go_wp2_with fail
      go_roundw
      case rel =>
       refine ⟨k+1,by omega,by go_num,?_,?_,below_set5 HB5.out (by omega) _ _ _ _ _,?_,HA1.out⟩
       · unfold Hid
         rw [take_getD HKN.out,HX.out]
         exact shut_set5 HM5.out (by omega) _ _ _ _ _
       · have h5:=HR5.out
         rw [<- HX.out,fillR_set HKN.out] at h5
         rw [<- HX.out]
         exact h5
       · have:=HSZ5.out
         simpa [World.setCell] using this
      case measure=>simp [intOf];omega
  · have hkn:k=n:=by omega
    have HY:Hid (newE fl cells=0):=by
     have h1:=HA.out
     rw [hkn,<- HL.out,List.drop_length] at h1
     exact h1
    have HRR:Hid (OwnR wr (w.heap.size+3) 46 (.slice (some ⟨w.heap.size+3,0,none⟩) n n) (newR cells)):=by
     have h1:=HR.out
     rw [hkn,<- HL.out,fillR_end,HL.out] at h1
     exact h1
    have HNL:Hid (n=cells.length):=HL.out.symm
    obtain ⟨q0,q1,q2,q3⟩:=hsr
    simp only [] at q0 q1 q2 q3
    have f0:=(hbel.frozen (p:=⟨w.heap.size+1,0,none⟩) (show w.heap.size+1<w2.heap.size by omega)).trans (HF0.out 0)
    have f1:=(hbel.frozen (p:=⟨w.heap.size+1,1,none⟩) (show w.heap.size+1<w2.heap.size by omega)).trans (HF0.out 1)
    have f2:=(hbel.frozen (p:=⟨w.heap.size+1,2,none⟩) (show w.heap.size+1<w2.heap.size by omega)).trans (HF0.out 2)
    have f3:=(hbel.frozen (p:=⟨w.heap.size+1,3,none⟩) (show w.heap.size+1<w2.heap.size by omega)).trans (HF0.out 3)
    have HBR:=qz hBr
    clear HA HR HM hkn hk hbel hgr hBr
    go_wp2_with fail
    refine bodyPost_ret (v:=.tuple #[.agg #[.int .i64 0,.slice (some ⟨w.heap.size+3,0,none⟩) n n,.slice none 0 0,.slice none 0 0],.int .i64 0]) (by simp [results,Tryz.results13,go_sem,q0,q1,q2,q3]) rfl (newPost_ok HY.out HNL.out ?_ ?_)
    · exact OwnR.mono (zbc HRR.out (show w.heap.size+1<w.heap.size+3 by omega) _ _ _ _) (by omega)
    · exact zah HBR.out (by omega) _ _ _ _
end Go.Proofs.YtknnnbpgkfaapaaGreat.Vm
