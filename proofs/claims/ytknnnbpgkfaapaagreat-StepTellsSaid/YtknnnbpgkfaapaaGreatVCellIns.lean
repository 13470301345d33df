import Derived.Test.YtknnnbpgkfaapaaGreatVSliceLays
import Derived.Test.YtknnnbpgkfaapaaGreatVAppendZ
import Derived.Test.YtknnnbpgkfaapaaGreatVInMath
set_option maxRecDepth 100000
set_option linter.unusedSimpArgs false
set_option linter.unusedVariables false
namespace Go.Proofs.YtknnnbpgkfaapaaGreat.Vm
open Go Go.RowKit
theorem search_any (a:Option Addr)(n c B:Nat)(l:List Int)(x:Int)(w:World)(h:RowZ .i64 w B a n c l)(hu:l.Pairwise (·<·))(hn:n<=1000000) :
 Calls Tryz.prog 128 #[.slice a n c,.int .i64 x] w fun e w'=>e=.returned (.tuple #[.int .i64 (lowZ l x:Nat),.bool (decide (x∈l))])/\∃ q,w'=w.drewN q:=by
 by_cases h0:n=0
 · subst h0
   obtain rfl:=List.eq_nil_of_length_eq_zero h.1
   have h1:Calls Tryz.prog 128 #[.slice a 0 c,.int .i64 x] w fun e w'=>e=.returned (.tuple #[.int .i64 0,.bool false])/\w'=w:=Any.slices_BinarySearch_int_empty lays25 a c x w
   refine h1.mono ?_
   rintro e w' ⟨rfl,rfl⟩
   exact ⟨by simp [lowZ],0,rfl⟩
 · obtain ⟨b,off,rfl,_,hc⟩:=h.cells (by omega)
   have hl:=h.1
   have ht:l.take n=l:=List.take_of_length_le (by omega)
   have h1:Calls Tryz.prog 128 #[.slice (some ⟨b,off,none⟩) n c,.int .i64 x] w fun e w'=>e=.returned (.tuple #[.int .i64 ((l.take n).countP (·<x):Nat),.bool ((l.take n).contains x)])/\∃ q,w'=w.drewN q :=
    Any.slices_BinarySearch_int lays25 b off n c l x w (by omega) (by omega) (fun j hj=>hc j (by omega)) (by rw [ht];exact hu.imp (fun h=>Int.le_of_lt h))
   rw [ht] at h1
   refine h1.mono ?_
   rintro e w' ⟨rfl,q,rfl⟩
   refine ⟨?_,q,rfl⟩
   congr 3
   simp [lowZ]
theorem zcb (b:Nat)(t:TypeId):∀ (vs:List Value) (o:Nat) (w:World) (cs:Array Value),w.heap[b]?=some (.cells cs t (0,0))->o+vs.length<=cs.size ->
 ∃ cs',(w.setCells b o vs).heap[b]?=some (.cells cs' t (0,0))/\cs'.toList=cs.toList.take o++vs++cs.toList.drop (o+vs.length)
 | [],o,w,cs,h,_=>⟨cs,h,by simp⟩
 | v :: r,o,w,cs,h,hl=>by
   have h1:=heap_setCell_same w b o cs t v h
   simp only [List.length_cons] at hl
   obtain ⟨cs',h2,h3⟩:=zcb b t r (o+1) (w.setCell ⟨b,o,none⟩ v) _ h1 (by simp;omega)
   refine ⟨cs',h2,?_⟩
   rw [h3,Array.toList_setIfInBounds]
   have hlt:o<cs.toList.length:=by rw [Array.length_toList];omega
   have e1:(cs.toList.set o v).take (o+1)=cs.toList.take o++[v]:=by
    rw [List.take_succ_eq_append_getElem (by simpa using hlt),List.take_set_of_le (Nat.le_refl o),List.getElem_set_self]
   have e2:(cs.toList.set o v).drop (o+1+r.length)=cs.toList.drop (o+(r.length+1)):=by
    rw [List.drop_set_of_lt (by omega)]
    congr 1
    omega
   rw [e1,e2,List.length_cons]
   simp
theorem grown_setCells (b:Nat):∀ (vs:List Value) (o:Nat) (w:World),w.grownBy (w.setCells b o vs) (some b)
 | [],_,w=>⟨rfl,rfl,rfl,Nat.le_refl _,fun _ _ _=>rfl⟩
 | v :: r,o,w=>by
   have h:=grown_setCells b r (o+1) (w.setCell ⟨b,o,none⟩ v)
   exact ⟨h.os,h.tape,h.output,by have:=h.size;simpa [World.setCells,World.setCell] using this,fun k hk hne=>by
    have h2:=h.block k (by simpa [World.setCell] using hk) hne
    rw [World.setCells,h2]
    exact Below.heap_setCell _ _ _ _ (fun e=>hne (by rw [e]))⟩
theorem below_setCells {B b:Nat}(hb:B<=b){A:World}:∀ (vs:List Value) (o:Nat) (w:World),Below B A w->Below B A (w.setCells b o vs)
 | [],_,_,h=>h
 | v :: r,o,w,h=>below_setCells hb r (o+1) _ (h.setCell (p:=⟨b,o,none⟩) hb v)
theorem grown_trans {a b c:World}{k:Option Nat}(h:a.grownBy b k)(h2:b.grownBy c k):a.grownBy c k :=
 ⟨h2.os.trans h.os,h2.tape.trans h.tape,h2.output.trans h.output,Nat.le_trans h.size h2.size,fun i hi hne=>(h2.block i (Nat.lt_of_lt_of_le hi h.size) hne).trans (h.block i hi hne)⟩
theorem grown_below {a b:World}{k:Option Nat}(h:Below a.heap.size a b):a.grownBy b k:=⟨h.os,h.tape,h.output,h.size,fun i hi _=>h.block i hi⟩
theorem grown_drewN (w:World)(q:Nat)(k:Option Nat):w.grownBy (w.drewN q) k:=⟨rfl,rfl,rfl,Nat.le_refl _,fun _ _ _=>rfl⟩
theorem own_of {w:World}{B g n c:Nat}{cur:Array Value}{l:List Int}(hg:w.heap[g]?=some (.cells cur 3 (0,0)))(hB:B<=g)(hl:l.length=n)(hn:n<=c)(hc:c<=maxLen)(hs:cur.size=c)(ht:cur.toList.take n=zan l):OwnZ w B (.slice (some ⟨g,0,none⟩) n c) l:=by
 subst hl
 exact ⟨by rw [zch,Nat.mul_one],.inr ⟨g,c,cur,rfl,hB,hg,hn,hc,by omega,by rw [Nat.mul_one];exact ht⟩⟩
theorem OwnZ.parts {w:World}{B n c:Nat}{a:Option Addr}{l:List Int}(h:OwnZ w B (.slice a n c) l):l.length=n/\((a=none/\n=0/\c=0)\/∃ g cur,a=some ⟨g,0,none⟩/\B<=g/\w.heap[g]?=some (.cells cur 3 (0,0))/\n<=c/\c<=maxLen/\cur.size=c/\cur.toList.take n=zan l):=by
 rcases h.2 with ⟨hv,hn⟩|⟨g,cap,cur,hv,hb,hg,hnc,hm,hs,ht⟩
 · injection hv with h1 h2 h3
   exact ⟨by omega,.inl ⟨h1,h2,h3⟩⟩
 · injection hv with h1 h2 h3
   subst h1 h3
   rw [Nat.mul_one] at hs ht
   exact ⟨h2.symm,.inr ⟨g,cur,rfl,hb,hg,by omega,hm,hs,by rw [h2];exact ht⟩⟩
theorem intsZ_one (l:List Int):∀ v∈zan l,v.oneCell'=true:=by
 intro u hu
 obtain ⟨_,_,rfl⟩:=List.mem_map.1 hu
 rfl
theorem cell_list {w:World}{g n:Nat}{cur:Array Value}{t:TypeId}{xs:List Value}(hg:w.heap[g]?=some (.cells cur t (0,0)))(ht:cur.toList.take n=xs)(j:Nat)(v:Value)(hj:xs[j]?=some v):w.cell? ⟨g,0+j,none⟩=some v:=by
 rw [cell_of_row w g (0+j) cur t (0,0) hg,Nat.zero_add]
 rw [<- ht,List.getElem?_take] at hj
 split at hj
 · rw [<- hj];simp
 · cases hj
theorem shift_list {C I c1 c2:List Value}{x:Value}{i n:Nat}(hI:C.take n=I)(hn:n+1<=C.length)(hi:i<=n)(q1:c1=C.take (0+(i+1))++I.drop i++C.drop (0+(i+1)+(I.drop i).length))(q2:c2=c1.take (0+i)++[x]++c1.drop (0+i+[x].length)) :
 c2.take (n+1)=I.take i++x :: I.drop i:=by
 have hl:I.length=n:=by rw [<- hI,List.length_take];omega
 simp only [Nat.zero_add,List.length_singleton] at q1 q2
 have e1:c1.take i=I.take i:=by
  rw [q1,List.append_assoc,List.take_append_of_le_length (by simp;omega),List.take_take,Nat.min_eq_left (by omega),<- hI,List.take_take,Nat.min_eq_left hi]
 have e2:c1.drop (i+1)=I.drop i++C.drop (i+1+(I.drop i).length):=by
  rw [q1,List.append_assoc]
  exact List.drop_left' (by simp;omega)
 rw [q2,e1,e2,<- List.append_assoc]
 rw [List.take_left' (by simp;omega)]
 simp
theorem grow_list {R I c1 c2:List Value}{x:Value}{i n:Nat}(hR:R.take i=I.take i)(hl:I.length=n)(hn:n+1<=R.length)(hi:i<=n)(q1:c1=R.take i++[x]++R.drop (i+[x].length))(q2:c2=c1.take (i+1)++I.drop i++c1.drop (i+1+(I.drop i).length)) :
 c2.take (n+1)=I.take i++x :: I.drop i:=by
 have e1:c1.take (i+1)=I.take i++[x]:=by
  rw [q1,hR,List.take_left' (by simp;omega)]
 rw [q2,e1,List.take_left' (by simp;omega)]
 simp
set_option maxHeartbeats 1000000 in
theorem insert_any {w:World}{B vb n c i:Nat}{a:Option Addr}{l:List Int}{x:Int}{tv:TypeId}(h:OwnZ w B (.slice a n c) l)(hB:B<=w.heap.size)(hi:i<=n)(hn:n<=1000000)(hv:w.heap[vb]?=some (.cells #[.int .i64 x] tv (0,0)))(hvb:∀ g,a=some ⟨g,0,none⟩->vb≠g) :
 Calls Tryz.prog 129 #[.slice a n c,.int .i64 (i:Int),.slice (some ⟨vb,0,none⟩) 1 1] w fun e w'=>∃ a' c',e=.returned (.slice a' (n+1) c')/\OwnZ w' B (.slice a' (n+1) c') (l.take i++x :: l.drop i)/\w.grownBy w' (Value.slice a n c).ownBlock:=by
 obtain ⟨hl,hp⟩:=h.parts
 have hvs:∀ j v,[Value.int .i64 x][j]?=some v->w.cell? ⟨vb,0+j,none⟩=some v:=fun j v hj=>cell_list (n:=1) hv (by simp) j v hj
 have h1v:∀ v∈[Value.int .i64 x],v.oneCell'=true:=by simp [Value.oneCell']
 have hlen:(l.take i++x :: l.drop i).length=n+1:=by simp;omega
 have hint:zan (l.take i++x :: l.drop i)=(zan l).take i++Value.int .i64 x :: (zan l).drop i:=by simp [zan]
 have hil:=zch l
 have hgrown:n+1<=grownCap w (n+1) c 3/\grownCap w (n+1) c 3<=maxLen:=⟨grownCap_ge w _ _ _,grownCap_le_maxLen w _ _ _ (by unfold maxLen;omega)⟩
 obtain ⟨g1,g2⟩:=hgrown
 have hendP:i=n->∀ e w',(e=Ending.returned (.slice (some ⟨w.heap.size,0,none⟩) (n+1) (grownCap w (n+1) c 3)) /\
  w'=w.drew.alloc (.cells ((zan l++[Value.int .i64 x]).toArray++Builtin.zeroCells (Value.int .i64 0).cells (grownCap w (n+1) c 3-(n+1))) 3)) ->
  ∃ a' c',e=.returned (.slice a' (n+1) c')/\OwnZ w' B (.slice a' (n+1) c') (l.take i++x :: l.drop i)/\w.grownBy w' (Value.slice a n c).ownBlock:=by
  rintro hin e w' ⟨rfl,rfl⟩
  refine ⟨_,_,rfl,own_of (heap_alloc_new w.drew _) hB hlen g1 g2 ?_ ?_,grown_below (((Below.refl _ _).drew).alloc (Nat.le_refl _) _)⟩
  · simp [Builtin.zeroCells,Value.cells,hil];omega
  · rw [hint,hin,List.take_of_length_le (show (zan l).length<=n by omega),List.drop_of_length_le (show (zan l).length<=n by omega)]
    simp only [Array.toList_append]
    exact List.take_left' (by simp [hil,hl])
 rcases hp with ⟨rfl,rfl,rfl⟩|⟨g,cur,rfl,hg,hh,hnc,hm,hs,ht⟩
 · obtain rfl:i=0:=by omega
   have h1:Calls Tryz.prog 129 #[.slice none 0 0,.int .i64 (0:Nat),.slice (some ⟨vb,0,none⟩) 1 1] w _ :=
    Any2.slices_Insert_int_end_grow lays21 none 0 0 vb 0 1 1 (zan l) [.int .i64 x] w (by omega) (Nat.le_refl _) (by omega) (by omega) (by omega) rfl (fun _=>rfl) (fun ad e=>by cases e) hvs h1v
   exact h1.mono fun e w' hh=>hendP rfl e w' hh
 · have hcs:∀ j v,(zan l)[j]?=some v->w.cell? ⟨g,0+j,none⟩=some v:=fun j v hj=>cell_list hh ht j v hj
   have hsp:∀ j,j<c->(w.cell? ⟨g,j,none⟩).isSome=true:=fun j hj=>by
    rw [cell_of_row w g j cur _ (0,0) hh,Array.getElem?_eq_getElem (by omega)];rfl
   have hfz:∀ j,w.frozen? ⟨g,j,none⟩=false:=fun j=>frozen_of_row w g j cur _ hh
   have hmm:c<=9223372036854775807:=by unfold maxLen at hm;exact hm
   have hcl:cur.toList.length=c:=by rw [Array.length_toList];exact hs
   by_cases hroom:n+1<=c
   · by_cases hin:i<n
     · have h1:Calls Tryz.prog 129 #[.slice (some ⟨g,0,none⟩) n c,.int .i64 i,.slice (some ⟨vb,0,none⟩) 1 1] w _ :=
        Any2.slices_Insert_int_shift lays21 g 0 n c i vb 0 1 1 (zan l) [.int .i64 x] w hin (by omega) hroom hmm (hvb g rfl) (by omega) rfl hcs (fun j hj=>hsp _ (by omega)) (fun j _=>hfz _) hvs (intsZ_one l) h1v tv 3 1 c
         (by simp [World.shape?,hv]) (by simp [World.shape?,hh,hs]) (by omega) (frozen_of_row w vb 0 _ _ hv) (frozen_of_row w vb 1 _ _ hv)
       refine h1.mono ?_
       rintro e w' ⟨rfl,rfl⟩
       have hlz:((zan l).drop i).length=n-i:=by simp [hil,hl]
       obtain ⟨c1,p1,q1⟩:=zcb g 3 ((zan l).drop i) (0+(i+1)) w.drew cur hh (by rw [hlz,hs];omega)
       have hz1:c1.size=c:=by rw [<- Array.length_toList,q1];simp [hlz,hs];omega
       obtain ⟨c2,p2,q2⟩:=zcb g 3 [.int .i64 x] (0+i) (w.drew.setCells g (0+(i+1)) ((zan l).drop i)) c1 p1 (by simp;omega)
       have hz2:c2.size=c:=by rw [<- Array.length_toList,q2];simp;omega
       exact ⟨_,_,rfl,own_of p2 hg hlen hroom hm hz2 (by rw [hint];exact shift_list ht (by omega) hi q1 q2),grown_trans (grown_drewN w 1 _) (grown_trans (grown_setCells g _ _ _) (grown_setCells g _ _ _))⟩
     · obtain rfl:i=n:=by omega
       have h1:Calls Tryz.prog 129 #[.slice (some ⟨g,0,none⟩) i c,.int .i64 i,.slice (some ⟨vb,0,none⟩) 1 1] w _ :=
        Any2.slices_Insert_int_end_room lays21 g 0 i c vb 0 1 1 [.int .i64 x] w (by omega) hroom hmm rfl (fun j hj=>hsp _ (by omega)) (fun j _=>hfz _) hvs h1v
       refine h1.mono ?_
       rintro e w' ⟨rfl,rfl⟩
       obtain ⟨c1,p1,q1⟩:=zcb g 3 [.int .i64 x] (0+i) w cur hh (by simp;omega)
       have hz1:c1.size=c:=by rw [<- Array.length_toList,q1];simp;omega
       refine ⟨_,_,rfl,own_of p1 hg hlen hroom hm hz1 ?_,grown_setCells g _ _ _⟩
       rw [hint,q1,Nat.zero_add,ht,List.take_of_length_le (show (zan l).length<=i by omega),List.drop_of_length_le (show (zan l).length<=i by omega)]
       exact List.take_left' (by simp;omega)
   · by_cases hin:i<n
     · have h1:Calls Tryz.prog 129 #[.slice (some ⟨g,0,none⟩) n c,.int .i64 i,.slice (some ⟨vb,0,none⟩) 1 1] w _ :=
        Any2.slices_Insert_int_grow lays21 g 0 n c i vb 0 1 1 (zan l) [.int .i64 x] w hin (by omega) hnc (by omega) (by omega) (by omega) rfl hcs hvs (intsZ_one l) h1v
       refine h1.mono ?_
       have hlz:((zan l).drop i).length=n-i:=by simp [hil,hl]
       generalize hG:grownCap w (n+1) c 3=G at g1 g2
       rintro e w' ⟨rfl,rfl⟩
       rw [show grownCap w (n+1) c (lays21_ren.t 3)=G from hG]
       generalize hR:((zan l).take i).toArray++Builtin.zeroCells (Value.int .i64 0).cells (n+1-i)++Builtin.zeroCells (Value.int .i64 0).cells (G-(n+1))=R
       have hRs:R.size=G:=by rw [<- hR];simp [Builtin.zeroCells,Value.cells,hil,hl];omega
       have hRt:R.toList.take i=(zan l).take i:=by
        rw [<- hR]
        simp only [Array.toList_append,List.append_assoc]
        exact List.take_left' (by simp;omega)
       obtain ⟨c1,p1,q1⟩:=zcb w.heap.size 3 [.int .i64 x] i (w.alloc (.cells R 3)).drew R (heap_alloc_new w _) (by simp;omega)
       have hz1:c1.size=G:=by rw [<- Array.length_toList,q1];simp;omega
       obtain ⟨c2,p2,q2⟩:=zcb w.heap.size 3 ((zan l).drop i) (i+1) ((w.alloc (.cells R 3)).drew.setCells w.heap.size i [.int .i64 x]).drew c1 p1 (by rw [hlz];omega)
       have hz2:c2.size=G:=by rw [<- Array.length_toList,q2];simp [hlz];omega
       exact ⟨_,_,rfl,own_of p2 hB hlen g1 g2 hz2 (by rw [hint];exact grow_list hRt (by omega) (by rw [Array.length_toList];omega) hi q1 q2),
        grown_below (below_setCells (Nat.le_refl _) _ _ _ ((below_setCells (Nat.le_refl _) _ _ _ (((Below.refl _ _).alloc (Nat.le_refl _) _).drew)).drew))⟩
     · obtain rfl:i=n:=by omega
       have h1:Calls Tryz.prog 129 #[.slice (some ⟨g,0,none⟩) i c,.int .i64 i,.slice (some ⟨vb,0,none⟩) 1 1] w _ :=
        Any2.slices_Insert_int_end_grow lays21 (some ⟨g,0,none⟩) i c vb 0 1 1 (zan l) [.int .i64 x] w (by omega) hnc (by omega) (by omega) (by omega) rfl (fun e=>by cases e) (fun ad e j v hj=>by injection e with e;subst e;rw [Row.add];exact hcs j v hj) hvs h1v
       exact h1.mono fun e w' hh=>hendP rfl e w' hh
theorem delete_any {w:World}{B n c i:Nat}{a:Option Addr}{l:List Int}(h:OwnZ w B (.slice a n c) l)(hi:i<n) :
 Calls Tryz.prog 130 #[.slice a n c,.int .i64 (i:Int),.int .i64 ((i+1:Nat):Int)] w fun e w'=>∃ a' c',e=.returned (.slice a' (n-1) c')/\OwnZ w' B (.slice a' (n-1) c') (l.take i++l.drop (i+1))/\w.grownBy w' (Value.slice a n c).ownBlock:=by
 obtain ⟨hl,hp⟩:=h.parts
 have hil:=zch l
 rcases hp with ⟨rfl,rfl,rfl⟩|⟨g,cur,rfl,hg,hh,hnc,hm,hs,ht⟩
 · omega
 · have hcs:∀ j v,(zan l)[j]?=some v->w.cell? ⟨g,0+j,none⟩=some v:=fun j v hj=>cell_list hh ht j v hj
   have hcl:cur.toList.length=c:=by rw [Array.length_toList];exact hs
   have h1:Calls Tryz.prog 130 #[.slice (some ⟨g,0,none⟩) n c,.int .i64 i,.int .i64 (i+1:Nat)] w _ :=
    Any.slices_Delete_int_cells lays23 g 0 n c i (i+1) l w (by omega) hnc (by unfold maxLen at hm;exact hm) (by omega) (by omega) (fun j hj=>hcs j _ (by simp [zan,List.getD,hj])) (fun j _=>frozen_of_row w g _ cur _ hh)
   refine h1.mono ?_
   rintro e w' ⟨rfl,q,rfl⟩
   have htl:l.take n=l:=List.take_of_length_le (by omega)
   rw [htl,show i+1-i=1 by omega]
   generalize hL:(l.take i++l.drop (i+1)++List.replicate 1 0).map (Value.int .i64)=L
   have hLl:L.length=n:=by rw [<- hL];simp;omega
   obtain ⟨c1,p1,q1⟩:=zcb g 3 L 0 (w.drewN q) cur hh (by omega)
   have hz1:c1.size=c:=by rw [<- Array.length_toList,q1];simp [hLl];omega
   refine ⟨_,_,rfl,own_of p1 hg (by simp;omega) (by omega) hm hz1 ?_,grown_trans (grown_drewN w q _) (grown_setCells g _ _ _)⟩
   rw [q1,<- hL,List.take_zero,List.nil_append,List.map_append,List.append_assoc]
   exact List.take_left' (by simp;omega)
end Go.Proofs.YtknnnbpgkfaapaaGreat.Vm
