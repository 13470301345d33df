import Derived.Test.YtknnnbpgkfaapaaGreatVInMath
import Derived.Test.YtknnnbpgkfaapaaGreatQ
import Derived.Test.YtknnnbpgkfaapaaGreatChecked
import Derived.Test.YtknnnbpgkfaapaaGreatVGridMath
import Derived.Laws.BytesArg
import Derived.Lib.Hide
import Derived.Deep.QuietTactic
import Derived.BigQuiet
set_option maxRecDepth 100000
set_option linter.unusedSimpArgs false
set_option linter.unusedVariables false
namespace Go.Proofs.YtknnnbpgkfaapaaGreat.Vm
open Go.RowKit
def zaa (s:ByteArray):List Nat:=s.data.toList.map UInt8.toNat
theorem zag (s:ByteArray):(zaa s).length=s.size:=by simp [zaa]
theorem bytesOf_at (s:ByteArray)(k:Nat)(h:k<s.size):(zaa s).getD k 0=(s[k]'h).toNat:=by
 have h':k<s.data.size:=h
 simp [zaa,List.getD,Array.getElem?_eq_getElem h']
 rfl
theorem letter_case {x:Nat}(h:zcf x=true):x=46\/x=35\/x=83\/x=67\/x=62\/x=60\/x=94\/x=118:=by
 unfold zcf at h
 simp only [Bool.or_eq_true,beq_iff_eq] at h
 omega
theorem letterS_lt {x:Nat}(h:zcf x=true):x<128:=by have:=letter_case h;omega
def sideB (n:Int):Bool:=decide (1<=n/\n<=256)
def lettersA:ByteArray:=⟨#[46,35,83,67,62,60,94,118]⟩
theorem letterS_at {x:Nat}(k:Nat)(hk:k<8)(h:x=(lettersA[k]'hk).toNat):zcf x=true:=by
 subst h
 match k,hk with
 | 0,_=>rfl
 | 1,_=>rfl
 | 2,_=>rfl
 | 3,_=>rfl
 | 4,_=>rfl
 | 5,_=>rfl
 | 6,_=>rfl
 | 7,_=>rfl
theorem letterS_not {x:Nat}(h:∀ i (hi:i<8),(lettersA[i]'hi).toNat≠x):zcf x=false:=by
 cases hc:zcf x
 · rfl
 · exfalso
   rcases letter_case hc with rfl|rfl|rfl|rfl|rfl|rfl|rfl|rfl
   · exact h 0 (by omega) rfl
   · exact h 1 (by omega) rfl
   · exact h 2 (by omega) rfl
   · exact h 3 (by omega) rfl
   · exact h 4 (by omega) rfl
   · exact h 5 (by omega) rfl
   · exact h 6 (by omega) rfl
   · exact h 7 (by omega) rfl
theorem letter_more {x k:Nat}(hlt:k<8)(h:∀ i (hi:i<8),i<k->(lettersA[i]'hi).toNat≠x)(hx:¬ (lettersA[k]'hlt).toNat=x):∀ i (hi:i<8),i<k+1->(lettersA[i]'hi).toNat≠x:=by
 intro i hi h2
 by_cases h3:i<k
 · exact h i hi h3
 · obtain rfl:i=k:=by omega
   exact hx
set_option maxHeartbeats 400000 in
theorem rletter_any (x:Nat)(w:World):Calls Tryz.prog 33 #[.int .u8 (x:Nat)] w fun e w'=>e=.returned (.bool (zcf x))/\w=w':=by
 go_enter Tryz.func33,Tryz.ntmps33
 go_wp2
 go_loop [4] (fun i=>∃ k:Nat,k<=8/\i=.int .i64 k/\Hid (∀ i (hi:i<8),i<k->(lettersA[i]'hi).toNat≠x)) (fun i=>8-(intOf i).toNat)
 case atStart=>exact ⟨0,by omega,rfl,fun i _ h=>absurd h (by omega)⟩
 case round =>
  obtain ⟨k,hk,rfl,HN⟩:=hrel
  by_cases hlt:k<8
  · by_cases hx:(lettersA[k]'hlt).toNat=x
    · have HX:=qz hx
      clear hx
      have e1:(((({ data:=#[46,35,83,67,62,60,94,118] }:ByteArray)[k]'hlt).toNat:Int)==(x:Int))=true:=by simp only [beq_iff_eq];exact congrArg Int.ofNat HX.out
      go_wp2
      go_ret
      exact ⟨zad (letterS_at k hlt HX.out.symm).symm,rfl⟩
    · have HX:=qz hx
      clear hx
      have e1:(((({ data:=#[46,35,83,67,62,60,94,118] }:ByteArray)[k]'hlt).toNat:Int)==(x:Int))=false:=by rw [beq_eq_false_iff_ne];exact fun h=>HX.out (Int.ofNat.inj h)
      go_wp2
      go_round
      case rel=>exact ⟨k+1,by omega,by go_num,letter_more hlt HN.out HX.out⟩
      case measure=>simp [intOf];omega
  · go_wp2
    go_ret
    exact ⟨zad (letterS_not fun i hi=>HN.out i hi (by omega)).symm,rfl⟩
abbrev zam (W H:Int)(s:ByteArray):Value:=.agg #[.int .i64 W,.int .i64 H,.string s]
abbrev zar (W H:Int)(s:ByteArray):Obj:=.cells #[.int .i64 W,.int .i64 H,.string s] 23
theorem bcell {W w1:World}(hb:Below W.heap.size W w1):(∀ b o,b<W.heap.size->w1.cell? ⟨b,o,none⟩=W.cell? ⟨b,o,none⟩)/\(∀ b o,b<W.heap.size->w1.frozen? ⟨b,o,none⟩=W.frozen? ⟨b,o,none⟩) :=
 ⟨fun b o h=>hb.cell (p:=⟨b,o,none⟩) h,fun b o h=>hb.frozen (p:=⟨b,o,none⟩) h⟩
theorem floorS_neg {l:List Nat}{c:Int}(h:c<0):zac l c=false:=by unfold zac;rw [decide_eq_false (by omega)];rfl
theorem floorS_big {l:List Nat}{c:Int}(h:(l.length:Int)<=c):zac l c=false:=by unfold zac;rw [decide_eq_false (by omega)];rfl
theorem floorS_at {s:ByteArray}{k:Nat}(h:k<s.size):zac (zaa s) (k:Int)=((s[k]'h).toNat != 35):=by
 unfold zac
 rw [decide_eq_true (by rw [zag];omega),Int.toNat_natCast,bytesOf_at s k h];rfl
theorem zaq {l:List Nat}{c:Int}(h:zac l c=true):0<=c/\c<(l.length:Int):=by
 unfold zac at h
 rw [Bool.and_eq_true,decide_eq_true_eq] at h
 exact h.1
set_option maxHeartbeats 400000 in
theorem zcd (W H c:Int)(s:ByteArray)(w:World)(hs:s.size<=maxLen) :
 Calls Tryz.prog 31 #[zam W H s,.int .i64 c] w fun e w'=>e=.returned (.bool (zac (zaa s) c))/\Below w.heap.size w w':=by
 unfold maxLen at hs
 by_cases h0:0<=c
 · obtain ⟨k,rfl⟩:=Int.eq_ofNat_of_zero_le h0
   by_cases hk:k<s.size
   · by_cases hx:(s[k]'hk).toNat=35
     · have e1:(((s[k]'hk).toNat:Int) != 35)=false:=by simp;omega
       have HF:=qz ((floorS_at hk).trans (bne_eq_false_iff_eq.2 hx))
       clear hx
       go_enter Tryz.func31,Tryz.ntmps31
       go_wp2
       go_ret
       exact ⟨zad HF.out.symm,(zX _ _).alloc (zL _) _⟩
     · have e1:(((s[k]'hk).toNat:Int) != 35)=true:=by rw [bne_iff_ne];omega
       have HF:=qz ((floorS_at hk).trans (bne_iff_ne.2 hx))
       clear hx
       go_enter Tryz.func31,Tryz.ntmps31
       go_wp2
       go_ret
       exact ⟨zad HF.out.symm,(zX _ _).alloc (zL _) _⟩
   · have HF:=qz (floorS_big (l:=zaa s) (c:=k) (by rw [zag];omega))
     go_enter Tryz.func31,Tryz.ntmps31
     go_wp2
     go_ret
     exact ⟨zad HF.out.symm,(zX _ _).alloc (zL _) _⟩
 · have HF:=qz (floorS_neg (l:=zaa s) (c:=c) (by omega))
   go_enter Tryz.func31,Tryz.ntmps31
   go_wp2
   go_ret
   exact ⟨zad HF.out.symm,(zX _ _).alloc (zL _) _⟩
set_option maxHeartbeats 400000 in
theorem zaw (W H c:Int)(s:ByteArray)(w:World)(hs:s.size<=maxLen) :
 Calls Tryz.prog 36 #[zam W H s,.int .i64 c] w fun e w'=>e=.returned (.bool (zac (zaa s) c))/\Below w.heap.size w w':=by
 unfold maxLen at hs
 by_cases h0:0<=c
 · obtain ⟨k,rfl⟩:=Int.eq_ofNat_of_zero_le h0
   by_cases hk:k<s.size
   · by_cases hx:(s[k]'hk).toNat=35
     · have e1:(((s[k]'hk).toNat:Int) != 35)=false:=by simp;omega
       have HF:=qz ((floorS_at hk).trans (bne_eq_false_iff_eq.2 hx))
       clear hx
       go_enter Tryz.func36,Tryz.ntmps36
       go_wp2
       go_ret
       exact ⟨zad HF.out.symm,(zX _ _).alloc (zL _) _⟩
     · have e1:(((s[k]'hk).toNat:Int) != 35)=true:=by rw [bne_iff_ne];omega
       have HF:=qz ((floorS_at hk).trans (bne_iff_ne.2 hx))
       clear hx
       go_enter Tryz.func36,Tryz.ntmps36
       go_wp2
       go_ret
       exact ⟨zad HF.out.symm,(zX _ _).alloc (zL _) _⟩
   · have HF:=qz (floorS_big (l:=zaa s) (c:=k) (by rw [zag];omega))
     go_enter Tryz.func36,Tryz.ntmps36
     go_wp2
     go_ret
     exact ⟨zad HF.out.symm,(zX _ _).alloc (zL _) _⟩
 · have HF:=qz (floorS_neg (l:=zaa s) (c:=c) (by omega))
   go_enter Tryz.func36,Tryz.ntmps36
   go_wp2
   go_ret
   exact ⟨zad HF.out.symm,(zX _ _).alloc (zL _) _⟩
def letsB (x:Nat)(way:Int):Bool:=decide (way=0\/¬ Barred x way)
theorem letsB_mk {x:Nat}{way:Int}{b:Bool}(h:(way=0\/¬ Barred x way) ↔ b=true):b=letsB x way:=by
 unfold letsB
 cases b
 · exact (decide_eq_false (fun h2=>by simpa using h.1 h2)).symm
 · exact (decide_eq_true (h.2 rfl)).symm
set_option maxHeartbeats 400000 in
theorem lets_any (x:Nat)(way:Int)(w:World) :
 Calls Tryz.prog 97 #[.int .u8 (x:Nat),.int .i64 way] w fun e w'=>e=.returned (.bool (letsB x way))/\w=w':=by
 by_cases h0:way=0
 · subst h0
   go_enter Tryz.func97,Tryz.ntmps97
   go_wp2
   go_ret
   exact ⟨zad (letsB_mk (by simp)),rfl⟩
 · have e0:(way==0)=false:=by simpa using h0
   by_cases h1:x=94
   · subst h1
     go_enter Tryz.func97,Tryz.ntmps97
     go_wp2
     go_ret
     exact ⟨zad (letsB_mk (by unfold Barred;rw [beq_iff_eq];omega)),rfl⟩
   · have e1:((x:Int)==94)=false:=by simp;omega
     by_cases h2:x=62
     · subst h2
       clear h1
       go_enter Tryz.func97,Tryz.ntmps97
       go_wp2
       go_ret
       exact ⟨zad (letsB_mk (by unfold Barred;rw [beq_iff_eq];omega)),rfl⟩
     · have e2:((x:Int)==62)=false:=by simp;omega
       by_cases h3:x=118
       · subst h3
         clear h1 h2
         go_enter Tryz.func97,Tryz.ntmps97
         go_wp2
         go_ret
         exact ⟨zad (letsB_mk (by unfold Barred;rw [beq_iff_eq];omega)),rfl⟩
       · have e3:((x:Int)==118)=false:=by simp;omega
         by_cases h4:x=60
         · subst h4
           clear h1 h2 h3
           go_enter Tryz.func97,Tryz.ntmps97
           go_wp2
           go_ret
           exact ⟨zad (letsB_mk (by unfold Barred;rw [beq_iff_eq];omega)),rfl⟩
         · have e4:((x:Int)==60)=false:=by simp;omega
           have HN:=qz (⟨h0,h1,h2,h3,h4⟩:way≠0/\x≠94/\x≠62/\x≠118/\x≠60)
           clear h0 h1 h2 h3 h4
           go_enter Tryz.func97,Tryz.ntmps97
           go_wp2
           go_ret
           exact ⟨zad (letsB_mk (by have:=HN.out;unfold Barred;simp only [iff_true];omega)),rfl⟩
set_option maxHeartbeats 400000 in
theorem lastOfRow_any (W H c:Int)(s:ByteArray)(w:World)(hW:1<=W)(hW2:W<=256)(hc:0<=c)(hc2:c<=1000000) :
 Calls Tryz.prog 123 #[zam W H s,.int .i64 c] w fun e w'=>e=.returned (.bool (c % W==W-1))/\Below w.heap.size w w':=by
 go_enter Tryz.func123,Tryz.ntmps123
 go_wp2
 go_quiet (fail)
 go_wp2
 go_ret
 refine ⟨rfl,?_⟩
 · exact zaf ((zX _ _).alloc (zL _) _) _
def zbf (W c way:Int):Int × Bool :=
 if way=0 then (c,true) else if way=1 then (c-W,true) else if way=2 then (c+1,!(c % W==W-1)) else if way=3 then (c+W,true) else if way=4 then (c-1,c % W != 0) else (0,false)
theorem zau {R:Int × Bool}{a:Int}{b:Bool}(h:R=(a,b)):Ending.returned (.tuple #[.int .i64 a,.bool b])=.returned (.tuple #[.int .i64 R.1,.bool R.2]):=by rw [h]
set_option maxHeartbeats 400000 in
theorem beside_any (W H c way:Int)(s:ByteArray)(w:World)(hW:1<=W)(hW2:W<=256)(hc:0<=c)(hc2:c<=1000000) :
 Calls Tryz.prog 98 #[zam W H s,.int .i64 c,.int .i64 way] w fun e w'=>e=.returned (.tuple #[.int .i64 (zbf W c way).1,.bool (zbf W c way).2])/\Below w.heap.size w w':=by
 have hB:Below w.heap.size w (w.alloc (zar W H s)):=(zX _ _).alloc (zL _) _
 by_cases h0:way=0
 · subst h0
   go_enter Tryz.func98,Tryz.ntmps98
   go_wp2
   go_ret2
   exact ⟨zau (by simp [zbf]),hB⟩
 by_cases h1:way=1
 · subst h1
   go_enter Tryz.func98,Tryz.ntmps98
   go_wp2
   go_ret2
   exact ⟨zau (by simp [zbf]),hB⟩
 by_cases h2:way=2
 · subst h2
   clear h0 h1
   go_enter Tryz.func98,Tryz.ntmps98
   go_wp2_with fail
   refine (lastOfRow_any W H c s _ hW hW2 hc hc2).mono ?_
   rintro e w1 ⟨rfl,hb⟩
   have hb2:=hB.trans (hb.mono hB.size)
   go_wp2
   go_ret2
   exact ⟨zau (by simp [zbf]),hb2⟩
 by_cases h3:way=3
 · subst h3
   clear h0 h1 h2
   go_enter Tryz.func98,Tryz.ntmps98
   go_wp2
   go_ret2
   exact ⟨zau (by simp [zbf]),hB⟩
 by_cases h4:way=4
 · subst h4
   clear h0 h1 h2 h3
   go_enter Tryz.func98,Tryz.ntmps98
   go_wp2
   go_quiet (fail)
   go_wp2
   go_ret2
   exact ⟨zau (by simp [zbf]),zaf hB _⟩
 have HE:Hid (zbf W c way=(0,false)):=by unfold Hid zbf;simp [h0,h1,h2,h3,h4]
 have e0:(way==0)=false:=by simpa using h0
 have e1:(way==1)=false:=by simpa using h1
 have e2:(way==2)=false:=by simpa using h2
 have e3:(way==3)=false:=by simpa using h3
 have e4:(way==4)=false:=by simpa using h4
 clear h0 h1 h2 h3 h4
 go_enter Tryz.func98,Tryz.ntmps98
 go_wp2
 go_ret2
 exact ⟨zau HE.out,hB⟩
structure Okay (W H:Int)(s:ByteArray):Prop where
 w1:1<=W
 w2:W<=256
 h1:1<=H
 h2:H<=256
 len:(s.size:Int)=W*H
 le:s.size<=65536
 ok:(zaa s).all zcf=true
theorem Okay.of {W H:Int}{s:ByteArray}(h:rightS W H (zaa s)=true):Okay W H s:=by
 unfold rightS at h
 rw [Bool.and_eq_true,decide_eq_true_eq,zag] at h
 obtain ⟨⟨h1,h2,h3,h4,h5⟩,h6⟩:=h
 refine ⟨h1,h3,h2,h4,h5,?_,h6⟩
 have:=Int.mul_le_mul h3 h4 (by omega) (by omega)
 omega
theorem Okay.at {W H:Int}{s:ByteArray}(h:Okay W H s){k:Nat}(hk:k<s.size):zcf (s[k]'hk).toNat=true:=by
 rw [<- bytesOf_at s k hk]
 refine List.all_eq_true.1 h.ok _ ?_
 have:=zag s
 simp [List.getD,show k<(zaa s).length by omega]
def goesI (W:Int)(l:List Nat)(c way:Int):Int × Bool :=
 if zac l c=false\/letsB (l.getD c.toNat 0) way=false then (0,false) else
 if (zbf W c way).2=false\/zac l (zbf W c way).1=false then (0,false) else ((zbf W c way).1,true)
theorem goesI_eq {W H:Int}{l:List Nat}{c way:Int}(h1:1<=W)(hlen:(l.length:Int)=W*H):goesI W l c way=zak W H l c way:=by
 unfold goesI zak
 cases hf:zac l c
 · simp
 obtain ⟨hc0,hc1⟩:=zaq hf
 have hx0:=Int.emod_nonneg c (show W≠0 by omega)
 have hx1:=Int.emod_lt_of_pos c (show 0<W by omega)
 have hy0:0<=c / W:=Int.ediv_nonneg hc0 (by omega)
 have hy1:c / W<H:=by
  apply Int.ediv_lt_of_lt_mul (by omega)
  rw [Int.mul_comm,<- hlen]
  exact hc1
 have hce:=of_cell c W
 by_cases w0:way=0
 · subst w0
   have e1:letsB (l.getD c.toNat 0) 0=true:=by simp [letsB]
   rw [e1]
   simp [zbf,hf]
 by_cases wout:way<0\/4<way
 · have e1:(zbf W c way)=(0,false):=by unfold zbf;simp [w0,show way≠1 by omega,show way≠2 by omega,show way≠3 by omega,show way≠4 by omega]
   simp [e1,wout]
 have wout':¬ (way<0\/4<way):=wout
 rw [if_neg (show ¬ ((true=false)\/way<0\/4<way) by simpa using wout'),if_neg w0]
 by_cases hb:Barred (l.getD c.toNat 0) way
 · have e1:letsB (l.getD c.toNat 0) way=false:=by unfold letsB;exact decide_eq_false (fun h=>h.elim w0 (fun h=>h hb))
   rw [if_pos (.inr e1),if_pos hb]
 have e1:letsB (l.getD c.toNat 0) way=true:=by unfold letsB;exact decide_eq_true (.inr hb)
 rw [if_neg hb,if_neg (by rw [e1];simp)]
 have hcase:way=1\/way=2\/way=3\/way=4:=by omega
 have hd1:c / W*W=c-c % W:=by omega
 rcases hcase with rfl|rfl|rfl|rfl
 · have e:(c / W+dyS 1)*W+(c % W+dxS 1)=c-W:=by simp only [dyS,dxS];rw [Int.add_mul];simp;omega
   rw [e]
   have eb:zbf W c 1=(c-W,true):=by simp [zbf]
   rw [eb]
   simp only [Bool.true_eq_false,false_or]
   by_cases hr:c / W=0
   · have hneg:c-W<0:=by rw [hr] at hd1;omega
     rw [if_pos (floorS_neg hneg),if_pos (.inr (.inl (by simp [dyS,hr])))]
   · have g1:¬ (c % W+dxS 1<0):=by simp [dxS];omega
     have g2:¬ (c / W+dyS 1<0):=by simp [dyS];omega
     have g3:¬ (W<=c % W+dxS 1):=by simp [dxS];omega
     have g4:¬ (H<=c / W+dyS 1):=by simp [dyS];omega
     simp only [g1,g2,g3,g4,false_or]
 · have e:(c / W+dyS 2)*W+(c % W+dxS 2)=c+1:=by simp [dyS,dxS];omega
   rw [e]
   have eb:zbf W c 2=(c+1,!(c % W==W-1)):=by simp [zbf]
   rw [eb]
   by_cases hr:c % W=W-1
   · rw [if_pos (.inl (by simp [hr])),if_pos (.inr (.inr (.inl (by simp [dxS,hr]))))]
   · have g0:(!(c % W==W-1))=true:=by simpa using hr
     have g1:¬ (c % W+dxS 2<0):=by simp [dxS];omega
     have g2:¬ (c / W+dyS 2<0):=by simp [dyS];omega
     have g3:¬ (W<=c % W+dxS 2):=by simp [dxS];omega
     have g4:¬ (H<=c / W+dyS 2):=by simp [dyS];omega
     simp only [g0,g1,g2,g3,g4,false_or,Bool.true_eq_false]
 · have e:(c / W+dyS 3)*W+(c % W+dxS 3)=c+W:=by simp only [dyS,dxS];rw [Int.add_mul];simp;omega
   rw [e]
   have eb:zbf W c 3=(c+W,true):=by simp [zbf]
   rw [eb]
   simp only [Bool.true_eq_false,false_or]
   by_cases hr:c / W+1=H
   · have hbig:(l.length:Int)<=c+W:=by rw [hlen,<- hr,Int.mul_add,Int.mul_comm W];omega
     rw [if_pos (floorS_big hbig),if_pos (.inr (.inr (.inr (.inl (by simp [dyS];omega)))))]
   · have g1:¬ (c % W+dxS 3<0):=by simp [dxS];omega
     have g2:¬ (c / W+dyS 3<0):=by simp [dyS];omega
     have g3:¬ (W<=c % W+dxS 3):=by simp [dxS];omega
     have g4:¬ (H<=c / W+dyS 3):=by simp [dyS];omega
     simp only [g1,g2,g3,g4,false_or]
 · have e:(c / W+dyS 4)*W+(c % W+dxS 4)=c-1:=by simp [dyS,dxS];omega
   rw [e]
   have eb:zbf W c 4=(c-1,c % W != 0):=by simp [zbf]
   rw [eb]
   by_cases hr:c % W=0
   · rw [if_pos (.inl (by simp [hr])),if_pos (.inl (by simp [dxS,hr]))]
   · have g0:(c % W != 0)=true:=by simpa using hr
     have g1:¬ (c % W+dxS 4<0):=by simp [dxS];omega
     have g2:¬ (c / W+dyS 4<0):=by simp [dyS];omega
     have g3:¬ (W<=c % W+dxS 4):=by simp [dxS];omega
     have g4:¬ (H<=c / W+dyS 4):=by simp [dyS];omega
     simp only [g0,g1,g2,g3,g4,false_or,Bool.true_eq_false]
theorem below_two' {w w1:World}{o1 o2:Obj}(h:Below w.heap.size w w1):Below w.heap.size w ((w1.alloc o1).alloc o2).drew.drew :=
 (((h.alloc h.size _).alloc (by have:=h.size;simp;omega) _).drew).drew
theorem below_two {w1 w3:World}{o1 o2:Obj}(h:Below ((w1.alloc o1).alloc o2).drew.drew.heap.size ((w1.alloc o1).alloc o2).drew.drew w3):Below w1.heap.size w1 w3 :=
 (below_two' (zX _ w1)).trans (h.mono (below_two' (o1:=o1) (o2:=o2) (zX _ w1)).size)
set_option maxHeartbeats 800000 in
theorem goes_any (W H c way:Int)(s:ByteArray)(w:World)(h:Okay W H s) :
 Calls Tryz.prog 73 #[zam W H s,.int .i64 c,.int .i64 way] w fun e w' =>
  e=.returned (.tuple #[.int .i64 (zak W H (zaa s) c way).1,.bool (zak W H (zaa s) c way).2])/\Below w.heap.size w w':=by
 have hw1:=h.w1
 have hw2:=h.w2
 have hle:=h.le
 have hE:zak W H (zaa s) c way=goesI W (zaa s) c way:=(goesI_eq h.w1 (by rw [zag];exact h.len)).symm
 rw [hE]
 clear hE
 have hB:Below w.heap.size w (w.alloc (zar W H s)):=(zX _ _).alloc (zL _) _
 have hfl:=fun w=>zcd W H c s w (by unfold maxLen;omega)
 clear h
 cases hf:zac (zaa s) c
 · have HE:Hid (goesI W (zaa s) c way=(0,false)):=by unfold Hid goesI;rw [if_pos (.inl hf)]
   rw [hf] at hfl
   have HFL:=qz hfl
   clear hfl hf
   go_enter Tryz.func73,Tryz.ntmps73
   go_wp2_with fail
   refine (HFL.out _).mono ?_
   rintro e w1 ⟨rfl,hb⟩
   have hb2:=hB.trans (hb.mono hB.size)
   go_wp2
   go_ret2
   exact ⟨zau HE.out,hb2⟩
 obtain ⟨hc0,hc1⟩:=zaq hf
 rw [zag] at hc1
 obtain ⟨k,rfl⟩:=Int.eq_ofNat_of_zero_le hc0
 have hk:k<s.size:=by omega
 rw [hf] at hfl
 have HFL:=qz hfl
 have hat:(zaa s).getD (k:Int).toNat 0=(s[k]'hk).toNat:=bytesOf_at s k hk
 have hlt:=fun w=>lets_any (s[k]'hk).toNat way w
 rw [<- hat] at hlt
 clear hfl
 cases hl:letsB ((zaa s).getD (k:Int).toNat 0) way
 · have HE:Hid (goesI W (zaa s) k way=(0,false)):=by unfold Hid goesI;rw [if_pos (.inr hl)]
   rw [hl,hat] at hlt
   have HLT:=qz hlt
   clear hlt hl hat hf
   go_enter Tryz.func73,Tryz.ntmps73
   go_wp2_with fail
   refine (HFL.out _).mono ?_
   rintro e w1 ⟨rfl,hb⟩
   have hb2:=hB.trans (hb.mono hB.size)
   obtain ⟨hc,hfz⟩:=bcell hb
   go_wp2_with fail
   refine (HLT.out _).mono ?_
   rintro e w2 ⟨rfl,rfl⟩
   go_wp2
   go_ret2
   exact ⟨zau HE.out,hb2⟩
 rw [hl,hat] at hlt
 have HLT:=qz hlt
 have hE:goesI W (zaa s) k way=if (zbf W k way).2=false\/zac (zaa s) (zbf W k way).1=false then (0,false) else ((zbf W k way).1,true):=by
  unfold goesI;rw [if_neg (by rw [hf,hl];simp)]
 have hbe:=fun w=>beside_any W H k way s w hw1 hw2 (by omega) (by omega)
 have hfl2:=fun c w=>zcd W H c s w (by unfold maxLen;omega)
 clear hlt hl hat hf
 obtain ⟨to,ok,hD⟩:∃ to ok,zbf W k way=(to,ok):=⟨_,_,rfl⟩
 rw [hD] at hbe hE
 simp only [] at hbe hE
 have HBE:=qz hbe
 clear hbe hD
 cases ok
 · have HE:=qz (hE.trans (if_pos (.inl rfl)))
   clear hE hfl2
   go_enter Tryz.func73,Tryz.ntmps73
   go_wp2_with fail
   refine (HFL.out _).mono ?_
   rintro e w1 ⟨rfl,hb⟩
   have hb2:=hB.trans (hb.mono hB.size)
   obtain ⟨hc,hfz⟩:=bcell hb
   go_wp2_with fail
   refine (HLT.out _).mono ?_
   rintro e w2 ⟨rfl,rfl⟩
   go_wp2_with fail
   refine (HBE.out _).mono ?_
   rintro e w2 ⟨rfl,hb3⟩
   have hb4:=hb2.trans (hb3.mono hb2.size)
   go_wp2
   go_ret2
   exact ⟨zau HE.out,hb4⟩
 have hfl3:=hfl2 to
 clear hfl2
 cases hf:zac (zaa s) to
 · have HE:=qz (hE.trans (if_pos (.inr hf)))
   rw [hf] at hfl3
   have HFL3:=qz hfl3
   clear hE hfl3 hf
   go_enter Tryz.func73,Tryz.ntmps73
   go_wp2_with fail
   refine (HFL.out _).mono ?_
   rintro e w1 ⟨rfl,hb⟩
   have hb2:=hB.trans (hb.mono hB.size)
   obtain ⟨hc,hfz⟩:=bcell hb
   go_wp2_with fail
   refine (HLT.out _).mono ?_
   rintro e w2 ⟨rfl,rfl⟩
   go_wp2_with fail
   refine (HBE.out _).mono ?_
   rintro e w2 ⟨rfl,hb3⟩
   have hb4:=hb2.trans (hb3.mono hb2.size)
   obtain ⟨hc3,hfz3⟩:=bcell hb3
   have hz:w.heap.size<w1.heap.size:=by have:=hb.size;simp at this;omega
   go_wp2_with fail
   refine (HFL3.out _).mono ?_
   rintro e w3 ⟨rfl,hb5⟩
   have hb6:=hb4.trans (hb5.mono hb4.size)
   go_wp2
   go_ret2
   exact ⟨zau HE.out,hb6⟩
 · have HE:=qz (hE.trans (if_neg (by rw [hf];simp)))
   rw [hf] at hfl3
   have HFL3:=qz hfl3
   clear hE hfl3 hf
   go_enter Tryz.func73,Tryz.ntmps73
   go_wp2_with fail
   refine (HFL.out _).mono ?_
   rintro e w1 ⟨rfl,hb⟩
   have hb2:=hB.trans (hb.mono hB.size)
   obtain ⟨hc,hfz⟩:=bcell hb
   go_wp2_with fail
   refine (HLT.out _).mono ?_
   rintro e w2 ⟨rfl,rfl⟩
   go_wp2_with fail
   refine (HBE.out _).mono ?_
   rintro e w2 ⟨rfl,hb3⟩
   have hb4:=hb2.trans (hb3.mono hb2.size)
   obtain ⟨hc3,hfz3⟩:=bcell hb3
   have hz:w.heap.size<w1.heap.size:=by have:=hb.size;simp at this;omega
   go_wp2_with fail
   refine (HFL3.out _).mono ?_
   rintro e w3 ⟨rfl,hb5⟩
   have hb6:=hb4.trans (hb5.mono hb4.size)
   go_wp2
   go_ret2
   exact ⟨zau HE.out,hb6⟩
end Go.Proofs.YtknnnbpgkfaapaaGreat.Vm
namespace Go.Proofs.YtknnnbpgkfaapaaGreat.Vm
def zca (W cell way:Int):Int:=if way=1 then cell+W else if way=2 then cell-1 else if way=3 then cell-W else cell+1
def leadS (W H:Int)(l:List Nat)(bl:List Int)(cell way:Nat):Int × Bool :=
 (zca W cell way,(zak W H l (zca W cell way) way).2 && !decide ((cell:Int)∈bl))
def fromS (W H:Int)(l:List Nat)(bl:List Int)(cell way:Nat):Int × Bool :=
 ((zak W H l cell way).1,(zak W H l cell way).2 && !decide ((zak W H l cell way).1∈bl))
def backS' (W H:Int)(l:List Nat)(bl:List Int)(c:Nat):List Nat:=(List.range l.length).filter fun b=>decide (c∈zav W H l bl b)
section
variable {W H:Int} {l:List Nat} {bl:List Int}
theorem back_mem {b c:Nat}:b∈backS' W H l bl c ↔ b<l.length/\c∈zav W H l bl b:=by
 unfold backS'
 rw [List.mem_filter,List.mem_range,decide_eq_true_eq]
theorem step_from {c x:Nat}(h:x∈zav W H l bl c):c<l.length:=by
 obtain ⟨way,_,h1,_⟩:=steps_mem.1 h
 unfold zak at h1
 by_cases hf:zac l (c:Int)=true
 · have:=zaq hf;omega
 · have hf':zac l (c:Int)=false:=by simpa using hf
   simp [hf'] at h1
theorem goes_beside {c to:Int}{way:Nat}(h1:1<=W)(hlen:(l.length:Int)=W*H)(hw:1<=way/\way<=4)(h:zak W H l c way=(to,true)):zca W to way=c:=by
 rw [<- goesI_eq h1 hlen] at h
 unfold goesI at h
 split at h
 · cases h
 · split at h
   · cases h
   · have ht:=congrArg Prod.fst h
     simp only [] at ht
     subst ht
     have hcase:way=1\/way=2\/way=3\/way=4:=by omega
     rcases hcase with rfl|rfl|rfl|rfl <;> simp [zbf,zca] <;> omega
theorem goes_origin {cell:Int}{way:Nat}(h1:1<=W)(hlen:(l.length:Int)=W*H)(hw:1<=way/\way<=4)(h:(zak W H l (zca W cell way) way).2=true):zak W H l (zca W cell way) way=(cell,true):=by
 obtain ⟨to,ok,hR⟩:∃ to ok,zak W H l (zca W cell way) way=(to,ok):=⟨_,_,rfl⟩
 rw [hR] at h ⊢
 simp only [] at h
 subst h
 have h2:=goes_beside h1 hlen hw hR
 have hcase:way=1\/way=2\/way=3\/way=4:=by omega
 have h3:to=cell:=by rcases hcase with rfl|rfl|rfl|rfl <;> simp [zca] at h2 <;> omega
 rw [h3]
theorem lead_graph (h1:1<=W)(hlen:(l.length:Int)=W*H):Graph (zav W H l bl) (leadS W H l bl) l.length where
 edge:=fun b c hb=>by
  rw [steps_mem]
  constructor
  · rintro ⟨way,hw,hg,hn⟩
    have ho:=goes_beside h1 hlen hw hg
    refine ⟨way,hw.1,hw.2,?_⟩
    unfold leadS
    rw [ho,hg]
    simp [hn]
  · rintro ⟨way,hw1,hw2,hs⟩
    unfold leadS at hs
    have e1:zca W b way=(c:Int):=congrArg Prod.fst hs
    have e2:((zak W H l (zca W b way) way).2 && !decide ((b:Int)∈bl))=true:=congrArg Prod.snd hs
    rw [Bool.and_eq_true] at e2
    have e3:=goes_origin h1 hlen ⟨hw1,hw2⟩ e2.1
    rw [e1] at e3
    exact ⟨way,⟨hw1,hw2⟩,e3,by simpa using e2.2⟩
 into:=fun b c h=>⟨step_from h,steps_in h⟩
 to:=fun b way o hb h=>by
  unfold leadS at h
  have e1:zca W b way=o:=congrArg Prod.fst h
  have e2:((zak W H l (zca W b way) way).2 && !decide ((b:Int)∈bl))=true:=congrArg Prod.snd h
  rw [Bool.and_eq_true,e1] at e2
  have e3:=e2.1
  unfold zak at e3
  by_cases hf:zac l o=true
  · exact zaq hf
  · have hf':zac l o=false:=by simpa using hf
    simp [hf'] at e3
theorem from_graph:Graph (backS' W H l bl) (fromS W H l bl) l.length where
 edge:=fun b c hb=>by
  rw [back_mem,steps_mem]
  constructor
  · rintro ⟨_,way,hw,hg,hn⟩
    refine ⟨way,hw.1,hw.2,?_⟩
    unfold fromS
    rw [hg]
    simp [hn]
  · rintro ⟨way,hw1,hw2,hs⟩
    unfold fromS at hs
    have e1:(zak W H l b way).1=(c:Int):=congrArg Prod.fst hs
    have e2:((zak W H l b way).2 && !decide ((zak W H l b way).1∈bl))=true:=congrArg Prod.snd hs
    rw [Bool.and_eq_true,e1] at e2
    exact ⟨hb,way,⟨hw1,hw2⟩,Prod.ext e1 e2.1,by simpa using e2.2⟩
 into:=fun b c h=>⟨steps_in (back_mem.1 h).2,(back_mem.1 h).1⟩
 to:=fun b way o hb h=>by
  unfold fromS at h
  have e1:(zak W H l b way).1=o:=congrArg Prod.fst h
  have e2:((zak W H l b way).2 && !decide ((zak W H l b way).1∈bl))=true:=congrArg Prod.snd h
  rw [Bool.and_eq_true] at e2
  exact goesS_nat (Prod.ext e1 e2.1)
theorem Reach.more_end {S:Nat->List Nat}{b c:Nat}(hb:b∈S c):∀ n a,Reach S c n a->Reach S b (n+1) a:=by
 intro n
 induction n with
 | zero=>intro a h;have:a=c:=h;subst this;exact ⟨b,hb,rfl⟩
 | succ n ih=>intro a ⟨x,hx,hr⟩;exact ⟨x,hx,ih x hr⟩
theorem reach_turn {S S':Nat->List Nat}(h:∀ b c,b∈S' c ↔ c∈S b){a:Nat}:∀ n c,Reach S' a n c->Reach S c n a:=by
 intro n
 induction n with
 | zero=>intro c hc;have:c=a:=hc;subst this;rfl
 | succ n ih =>
   intro c ⟨b,hb,hr⟩
   exact Reach.more_end ((h b c).1 hb) n a (ih b hr)
theorem far_turn {S S':Nat->List Nat}(h:∀ b c,b∈S' c ↔ c∈S b){a c n:Nat}:FarS S' a c n ↔ FarS S c a n :=
 ⟨fun ⟨h1,h2⟩=>⟨reach_turn h n c h1,fun m hm h3=>h2 m hm (reach_turn (S:=S') (S':=S) (fun b c=>(h c b).symm) m a h3)⟩,
  fun ⟨h1,h2⟩=>⟨reach_turn (S:=S') (S':=S) (fun b c=>(h c b).symm) n a h1,fun m hm h3=>h2 m hm (reach_turn h m c h3)⟩⟩
theorem far_back {a c n:Nat}:FarS (backS' W H l bl) a c n ↔ FarS (zav W H l bl) c a n :=
 far_turn fun b c=>⟨fun h=>(back_mem.1 h).2,fun h=>back_mem.2 ⟨step_from h,h⟩⟩
end
end Go.Proofs.YtknnnbpgkfaapaaGreat.Vm
namespace Go.Proofs.YtknnnbpgkfaapaaGreat.Vm
def IsNear (d:Int->Int)(of:List Int)(R:Int × Int):Prop :=
 (R=(-1,-1)/\∀ x∈of,d x<0)\/(R.1∈of/\R.2=d R.1/\0<=R.2/\∀ x∈of,0<=d x->R.2<d x\/(R.2=d x/\R.1<=x))
theorem IsNear.only {d:Int->Int}{of:List Int}{R R':Int × Int}(h:IsNear d of R)(h':IsNear d of R'):R=R':=by
 rcases h with ⟨h1,h2⟩|⟨h1,h2,h3,h4⟩ <;> rcases h' with ⟨k1,k2⟩|⟨k1,k2,k3,k4⟩
 · rw [h1,k1]
 · have:=h2 _ k1;omega
 · have:=k2 _ h1;omega
 · have a1:=h4 _ k1 (by omega)
   have a2:=k4 _ h1 (by omega)
   have e1:R.2=R'.2:=by omega
   have e2:R.1=R'.1:=by omega
   exact Prod.ext e2 e1
theorem nearS_is (d:Int->Int):∀ of:List Int,IsNear d of (nearS d of):=by
 intro of
 rw [<- List.reverse_reverse of]
 induction of.reverse with
 | nil=>exact .inl ⟨rfl,by simp⟩
 | cons x t ih =>
   rw [List.reverse_cons,nearS_snoc]
   generalize nearS d t.reverse=R at ih ⊢
   unfold nearStep
   by_cases hc:0<=d x/\(R.2<0\/d x<R.2\/(d x=R.2/\x<R.1))
   · rw [if_pos hc]
     refine .inr ⟨by simp,rfl,hc.1,fun y hy h0=>?_⟩
     show d x<d y\/(d x=d y/\x<=y)
     rcases List.mem_append.1 hy with h1|h1
     · rcases ih with ⟨k1,k2⟩|⟨k1,k2,k3,k4⟩
       · have:=k2 y h1;omega
       · have:=k4 y h1 h0
         omega
     · have:y=x:=by simpa using h1
       subst this
       omega
   · rw [if_neg hc]
     rcases ih with ⟨k1,k2⟩|⟨k1,k2,k3,k4⟩
     · refine .inl ⟨k1,fun y hy=>?_⟩
       rcases List.mem_append.1 hy with h1|h1
       · exact k2 y h1
       · have:y=x:=by simpa using h1
         subst this
         rw [k1] at hc
         simp only [] at hc
         omega
     · refine .inr ⟨List.mem_append.2 (.inl k1),k2,k3,fun y hy h0=>?_⟩
       rcases List.mem_append.1 hy with h1|h1
       · exact k4 y h1 h0
       · have:y=x:=by simpa using h1
         subst this
         omega
def NearP (of:List Int)(pre:List (Nat × Nat))(R:Int × Int):Prop :=
 (R=(-1,-1)/\∀ c e,(c,e)∈pre->(c:Int) ∉ of) \/
 ∃ b n:Nat,R=((b:Int),(n:Int))/\(b,n)∈pre/\(b:Int)∈of/\∀ c e,(c,e)∈pre->(c:Int)∈of->n<e\/(n=e/\b<=c)
def Tells (S:Nat->List Nat)(s:Nat)(d:Int->Int):Prop :=
 ∀ x:Int,(∃ c e:Nat,x=c/\d x=e/\FarS S s c e)\/(d x=-1/\∀ c e:Nat,x=c->¬ FarS S s c e)
section
variable {S:Nat->List Nat} {s N c e b n:Nat} {of:List Int} {pre:List (Nat × Nat)} {R:Int × Int} {d:Int->Int}
theorem NearP.nil:NearP of [] (-1,-1):=.inl ⟨rfl,by simp⟩
theorem snoc_mem {c e c' e':Nat}(h:(c',e')∈pre++[(c,e)]):(c',e')∈pre\/(c'=c/\e'=e):=by
 rcases List.mem_append.1 h with h1|h1
 · exact .inl h1
 · have:(c',e')=(c,e):=by simpa using h1
   injection this with h2 h3
   exact .inr ⟨h2,h3⟩
theorem NearP.none (h:NearP of pre (-1,-1)):∀ c e,(c,e)∈pre->(c:Int) ∉ of:=by
 rcases h with ⟨_,h⟩|⟨b,n,h,_⟩
 · exact h
 · have:=congrArg Prod.fst h;simp only [] at this;omega
theorem NearP.some (h:NearP of pre ((b:Int),(n:Int))):(b,n)∈pre/\(b:Int)∈of/\∀ c e,(c,e)∈pre->(c:Int)∈of->n<e\/(n=e/\b<=c):=by
 rcases h with ⟨h,_⟩|⟨b',n',h,h1⟩
 · have:=congrArg Prod.fst h;simp only [] at this;omega
 · have e1:=congrArg Prod.fst h
   have e2:=congrArg Prod.snd h
   simp only [] at e1 e2
   obtain rfl:b=b':=by omega
   obtain rfl:n=n':=by omega
   exact h1
theorem NearP.form (h:NearP of pre R):R=(-1,-1)\/∃ b n:Nat,R=((b:Int),(n:Int)):=by
 rcases h with ⟨h,_⟩|⟨b,n,h,_⟩
 · exact .inl h
 · exact .inr ⟨b,n,h⟩
theorem NearP.first (h:NearP of pre (-1,-1))(hc:(c:Int)∈of):NearP of (pre++[(c,e)]) ((c:Int),(e:Int)) :=
 .inr ⟨c,e,rfl,by simp,hc,fun c' e' h1 h2=>by
  rcases snoc_mem h1 with h3|⟨rfl,rfl⟩
  · exact absurd h2 (h.none c' e' h3)
  · exact .inr ⟨rfl,Nat.le_refl _⟩⟩
theorem NearP.not (h:NearP of pre R)(hc:(c:Int) ∉ of):NearP of (pre++[(c,e)]) R:=by
 rcases h with ⟨h,h1⟩|⟨b,n,h,h1,h2,h3⟩
 · refine .inl ⟨h,fun c' e' k=>?_⟩
   rcases snoc_mem k with k1|⟨rfl,rfl⟩
   · exact h1 c' e' k1
   · exact hc
 · refine .inr ⟨b,n,h,List.mem_append.2 (.inl h1),h2,fun c' e' k hk=>?_⟩
   rcases snoc_mem k with k1|⟨rfl,rfl⟩
   · exact h3 c' e' k1 hk
   · exact absurd hk hc
theorem NearP.level (hb:Begun S s N pre)(hg:Good S s N pre (c,e))(h:NearP of pre ((b:Int),(n:Int)))(hc:(c:Int)∈of):n<=e:=by
 obtain ⟨h1,h2,h3⟩:=h.some
 rcases Nat.lt_or_ge e n with h4|h4
 · obtain ⟨p,q,rfl⟩:=List.append_of_mem h1
   have h5:=(hb p (b,n) q rfl).2.2.2 c e hg.2.2.1 h4
   have:=h3 c e (List.mem_append.2 (.inl h5)) hc
   omega
 · exact h4
theorem NearP.less (hb:Begun S s N pre)(hg:Good S s N pre (c,e))(h:NearP of pre ((b:Int),(n:Int)))(hc:(c:Int)∈of)(he:e<=n)(hlt:c<b):NearP of (pre++[(c,e)]) ((c:Int),(e:Int)):=by
 have hl:=h.level hb hg hc
 obtain ⟨h1,h2,h3⟩:=h.some
 refine .inr ⟨c,e,rfl,by simp,hc,fun c' e' k hk=>?_⟩
 rcases snoc_mem k with k1|⟨rfl,rfl⟩
 · have:=h3 c' e' k1 hk;omega
 · exact .inr ⟨rfl,Nat.le_refl _⟩
theorem NearP.more (hb:Begun S s N pre)(hg:Good S s N pre (c,e))(h:NearP of pre ((b:Int),(n:Int)))(hc:(c:Int)∈of)(hge:b<=c):NearP of (pre++[(c,e)]) ((b:Int),(n:Int)):=by
 have hl:=h.level hb hg hc
 obtain ⟨h1,h2,h3⟩:=h.some
 refine .inr ⟨b,n,rfl,List.mem_append.2 (.inl h1),h2,fun c' e' k hk=>?_⟩
 rcases snoc_mem k with k1|⟨rfl,rfl⟩
 · exact h3 c' e' k1 hk
 · omega
theorem Tells.at (ht:Tells S s d)(h:FarS S s c e):d c=e:=by
 rcases ht c with ⟨c',e',h1,h2,h3⟩|⟨_,h2⟩
 · obtain rfl:c=c':=by omega
   rw [h2,h3.only h]
 · exact absurd h (h2 c e rfl)
theorem Tells.far (ht:Tells S s d){x:Int}(h:0<=d x):∃ c e:Nat,x=c/\d x=e/\FarS S s c e:=by
 rcases ht x with h1|⟨h1,_⟩
 · exact h1
 · omega
theorem NearP.ended (ht:Tells S s d)(hx:AllCome S s N pre)(h:NearP of pre R):R=nearS d of:=by
 refine IsNear.only ?_ (nearS_is d of)
 rcases h with ⟨h,h1⟩|⟨b,n,rfl,h1,h2,h3⟩
 · refine .inl ⟨h,fun x hx'=>?_⟩
   rcases ht x with ⟨c,e,rfl,_,h4⟩|⟨h4,_⟩
   · exact absurd hx' (h1 c e (hx.2 c e h4))
   · omega
 · refine .inr ⟨h2,(ht.at (hx.1.at h1).2.2).symm,by simp,fun x hx' h0=>?_⟩
   obtain ⟨c,e,rfl,h5,h6⟩:=ht.far h0
   have:=h3 c e (hx.2 c e h6) hx'
   rw [h5]
   simp only []
   omega
theorem NearP.broken (ht:Tells S s d)(hb:Begun S s N pre)(hg:Good S s N pre (c,e))(h:NearP of pre ((b:Int),(n:Int)))(he:n<e):((b:Int),(n:Int))=nearS d of:=by
 refine IsNear.only ?_ (nearS_is d of)
 obtain ⟨h1,h2,h3⟩:=h.some
 refine .inr ⟨h2,(ht.at (hb.at h1).2.2).symm,by simp,fun x hx' h0=>?_⟩
 obtain ⟨c',e',rfl,h5,h6⟩:=ht.far h0
 rw [h5]
 simp only []
 rcases Nat.lt_or_ge e' e with h7|h7
 · have:=h3 c' e' (hg.2.2.2 c' e' h6 h7) hx'
   omega
 · omega
end
theorem tells_from {W H:Int}{l:List Nat}{bl:List Int}{fr:Nat}(hf:zac l fr=true):Tells (backS' W H l bl) fr (fun x=>farG W H l bl fr x):=by
 intro x
 have hno:zac l x=false->∀ c e:Nat,x=c->¬ FarS (backS' W H l bl) fr c e:=by
  rintro h c e rfl hfar
  have h2:=far_back.1 hfar
  cases e with
  | zero =>
    have:fr=c:=far_zero.1 h2
    subst this
    rw [hf] at h;cases h
  | succ e =>
    have h3:∀ n a,Reach (zav W H l bl) c (n+1) a->zac l (c:Int)=true:=by
     intro n
     induction n with
     | zero =>
       intro a ⟨y,hy,hr⟩
       have:y=c:=hr
       subst this
       obtain ⟨way,_,hg,_⟩:=steps_mem.1 hy
       exact (goesS_step hg).1
     | succ n ih=>intro a ⟨y,_,hr⟩;exact ih y hr
    rw [h3 e fr h2.1] at h;cases h
 by_cases hx:zac l x=true
 · obtain ⟨h0,h1⟩:=zaq hx
   obtain ⟨c,rfl⟩:=Int.eq_ofNat_of_zero_le h0
   have e1:farG W H l bl fr c=farI (zav W H l bl) c fr:=by unfold farG;rw [if_pos ⟨hf,hx⟩];simp
   rcases farI_case (zav W H l bl) c fr with ⟨n,h2,h3⟩|⟨h2,h3⟩
   · exact .inl ⟨c,n,rfl,by simp only [];rw [e1,h2],far_back.2 h3⟩
   · refine .inr ⟨by simp only [];rw [e1,h2],fun c' e hc hfar=>?_⟩
     obtain rfl:c=c':=by omega
     exact h3 e (far_back.1 hfar).1
 · have hx':zac l x=false:=by simpa using hx
   exact .inr ⟨by simp only [];unfold farG;rw [if_neg (by rw [hx'];simp)],hno hx'⟩
end Go.Proofs.YtknnnbpgkfaapaaGreat.Vm
namespace Go.Proofs.YtknnnbpgkfaapaaGreat.Vm
def reachB (S:Nat->List Nat)(to:Nat):Nat->Nat->Bool
 | 0,c=>c==to
 | n+1,c=>(S c).any (reachB S to n)
theorem reachB_iff (S:Nat->List Nat)(to:Nat):∀ n c,reachB S to n c=true ↔ Reach S to n c:=by
 intro n
 induction n with
 | zero=>intro c;simp [reachB,Reach]
 | succ n ih =>
   intro c
   simp only [reachB,Reach,List.any_eq_true]
   constructor
   · rintro ⟨x,hx,h⟩;exact ⟨x,hx,(ih x).1 h⟩
   · rintro ⟨x,hx,h⟩;exact ⟨x,hx,(ih x).2 h⟩
def farB (S:Nat->List Nat)(to c n:Nat):Bool:=reachB S to n c && (List.range n).all fun m=>!reachB S to m c
theorem farB_far {S:Nat->List Nat}{to c n:Nat}(h:farB S to c n=true):FarS S to c n:=by
 unfold farB at h
 rw [Bool.and_eq_true,List.all_eq_true] at h
 refine ⟨(reachB_iff S to n c).1 h.1,fun m hm hr=>?_⟩
 have h2:=h.2 m (List.mem_range.2 hm)
 rw [(reachB_iff S to m c).2 hr] at h2
 cases h2
def fieldB (S:Nat->List Nat)(to N:Nat)(l:List Int):Bool :=
 l.length==N && (List.range N).all fun c=>(0<=l.getD c 0 && farB S to c (l.getD c 0).toNat) || (l.getD c 0==-1 && (S c).isEmpty && c != to)
theorem fieldB_field {S:Nat->List Nat}{to N:Nat}{l:List Int}(h:fieldB S to N l=true):IsField S to N l:=by
 unfold fieldB at h
 rw [Bool.and_eq_true,List.all_eq_true] at h
 refine ⟨by simpa using h.1,fun c hc=>?_⟩
 have h2:=h.2 c (List.mem_range.2 hc)
 rw [Bool.or_eq_true] at h2
 rcases h2 with h2|h2
 · rw [Bool.and_eq_true,decide_eq_true_eq] at h2
   exact .inl ⟨_,by omega,farB_far h2.2⟩
 · rw [Bool.and_eq_true,Bool.and_eq_true,beq_iff_eq,List.isEmpty_iff,bne_iff_ne] at h2
   refine .inr ⟨h2.1.1,fun n hr=>?_⟩
   cases n with
   | zero=>exact h2.2 hr
   | succ n =>
     obtain ⟨x,hx,_⟩:=hr
     rw [h2.1.2] at hx
     cases hx
end Go.Proofs.YtknnnbpgkfaapaaGreat.Vm
namespace Go.Proofs.YtknnnbpgkfaapaaGreat.Vm
theorem pigeon {N n:Nat}(f:Nat->Nat)(hf:∀ m,m<=n->f m<N)(hi:∀ i j,i<j->j<=n->f i≠f j):n<N:=by
 have key:∀ m,m<=n+1->∃ l:List Bool,l.length=N/\seenN l=m/\∀ c,l.getD c false=true->∃ k,k<m/\f k=c:=by
  intro m
  induction m with
  | zero=>intro _;exact ⟨List.replicate N false,by simp,seenN_none N,fun c hc=>by
   simp [List.getD,List.getElem?_replicate] at hc
   split at hc <;> simp at hc⟩
  | succ m ih =>
    intro hm
    obtain ⟨l,h1,h2,h3⟩:=ih (by omega)
    have hfm:=hf m (by omega)
    have hno:l.getD (f m) false=false:=by
     cases hb:l.getD (f m) false with
     | false=>rfl
     | true =>
       obtain ⟨k,hk,hk2⟩:=h3 _ hb
       exact absurd hk2 (hi k m hk (by omega))
    refine ⟨l.set (f m) true,by simpa using h1,by rw [seenN_set _ _ (by omega) hno,h2],fun c hc=>?_⟩
    by_cases hc2:c=f m
    · exact ⟨m,by omega,hc2.symm⟩
    · rw [getD_set_ne hc2] at hc
      obtain ⟨k,hk,hk2⟩:=h3 c hc
      exact ⟨k,by omega,hk2⟩
 obtain ⟨l,h1,h2,_⟩:=key (n+1) (Nat.le_refl _)
 have:=seenN_le l
 omega
theorem FarS.downs {S:Nat->List Nat}{to:Nat}:∀ {n c:Nat},FarS S to c n->∀ m,m<=n->∃ x,FarS S to x m:=by
 intro n
 induction n with
 | zero => intro c h m hm; obtain rfl : m = 0 := by omega
           exact ⟨c,h⟩
 | succ n ih =>
   intro c h m hm
   by_cases he:m=n+1
   · subst he;exact ⟨c,h⟩
   · obtain ⟨x,_,hx⟩:=h.step
     exact ih hx m (by omega)
theorem FarS.lt {S:Nat->List Nat}{to c n N:Nat}(h:FarS S to c n)(hS:∀ b c,b∈S c->c<N)(hto:to<N):n<N:=by
 have hd:=h.downs
 refine pigeon (fun m=>if hm:m<=n then (hd m hm).choose else 0) (fun m hm=>?_) (fun i j hij hj=>?_)
 · simp only [hm,dif_pos]
   have h2:=(hd m hm).choose_spec
   generalize (hd m hm).choose=x at h2
   cases m with
   | zero=>have:x=to:=far_zero.1 h2;omega
   | succ m=>obtain ⟨y,hy,_⟩:=h2.step;exact hS y x hy
 · have hi:i<=n:=by omega
   simp only [hi,hj,dif_pos]
   intro e
   have h1:=(hd i hi).choose_spec
   have h2:=(hd j hj).choose_spec
   rw [e] at h1
   have:=h1.only h2
   omega
end Go.Proofs.YtknnnbpgkfaapaaGreat.Vm
namespace Go.Proofs.YtknnnbpgkfaapaaGreat.Vm
open Go.RowKit
def GridAt (w:World)(b:Nat)(W H:Int)(s:ByteArray):Prop :=
 w.cell? ⟨b,0,none⟩=some (.int .i64 W)/\w.cell? ⟨b,1,none⟩=some (.int .i64 H)/\w.cell? ⟨b,2,none⟩=some (.string s)
theorem GridAt.below {w w':World}{b B:Nat}{W H:Int}{s:ByteArray}(h:GridAt w b W H s)(hb:Below B w w')(hB:b<B):GridAt w' b W H s :=
 ⟨(hb.cell (p:=⟨b,0,none⟩) hB).trans h.1,(hb.cell (p:=⟨b,1,none⟩) hB).trans h.2.1,(hb.cell (p:=⟨b,2,none⟩) hB).trans h.2.2⟩
theorem zbq (w:World)(W H:Int)(s:ByteArray):GridAt (w.alloc (zar W H s)) w.heap.size W H s:=⟨by simp,by simp,by simp⟩
end Go.Proofs.YtknnnbpgkfaapaaGreat.Vm
namespace Go.Proofs.YtknnnbpgkfaapaaGreat.Vm
open Go.RowKit
structure Sh where
 t:Int
 a1:Option Addr
 n1:Nat
 c1:Nat
 a2:Option Addr
 n2:Nat
 c2:Nat
 a3:Option Addr
 n3:Nat
 c3:Nat
abbrev shV (h:Sh):Value:=.agg #[.int .i64 h.t,.slice h.a1 h.n1 h.c1,.slice h.a2 h.n2 h.c2,.slice h.a3 h.n3 h.c3]
abbrev shO (h:Sh):Obj:=.cells #[.int .i64 h.t,.slice h.a1 h.n1 h.c1,.slice h.a2 h.n2 h.c2,.slice h.a3 h.n3 h.c3] 28
def StAt (w:World)(b:Nat)(h:Sh):Prop :=
 w.cell? ⟨b,0,none⟩=some (.int .i64 h.t)/\w.cell? ⟨b,1,none⟩=some (.slice h.a1 h.n1 h.c1)/\w.cell? ⟨b,2,none⟩=some (.slice h.a2 h.n2 h.c2)/\w.cell? ⟨b,3,none⟩=some (.slice h.a3 h.n3 h.c3)
theorem StAt.below {w w':World}{b B:Nat}{h:Sh}(hs:StAt w b h)(hb:Below B w w')(hB:b<B):StAt w' b h :=
 ⟨(hb.cell (p:=⟨b,0,none⟩) hB).trans hs.1,(hb.cell (p:=⟨b,1,none⟩) hB).trans hs.2.1,(hb.cell (p:=⟨b,2,none⟩) hB).trans hs.2.2.1,(hb.cell (p:=⟨b,3,none⟩) hB).trans hs.2.2.2⟩
theorem zbo (w:World)(h:Sh):StAt (w.alloc (shO h)) w.heap.size h:=⟨by simp,by simp,by simp,by simp⟩
structure StIn (w:World)(B:Nat)(h:Sh)(s:St):Prop where
 tick:h.t=s.tick
 rs:RowR w B h.a1 h.n1 h.c1 s.rs
 ts:RowR w B h.a2 h.n2 h.c2 s.ts
 bl:RowZ .i64 w B h.a3 h.n3 h.c3 s.bl
theorem StIn.below {w w':World}{B:Nat}{h:Sh}{s:St}(hs:StIn w B h s)(hb:Below B w w'):StIn w' B h s:=⟨hs.tick,hs.rs.below hb,hs.ts.below hb,hs.bl.below hb⟩
theorem StIn.mono {w:World}{B B':Nat}{h:Sh}{s:St}(hs:StIn w B h s)(hB:B<=B'):StIn w B' h s :=
 ⟨hs.tick,hs.rs.mono hB,hs.ts.mono hB,by
  obtain ⟨h1,h2,h3,h4⟩:=hs.bl
  exact ⟨h1,h2,h3,fun hn=>by obtain ⟨b,off,e,hb,hc⟩:=h4 hn;exact ⟨b,off,e,by omega,hc⟩⟩⟩
theorem zbv (w:World)(W H:Int)(s:ByteArray)(h:Sh) :
 ∃ w2,w2=(w.alloc (zar W H s)).alloc (shO h)/\Below w.heap.size w w2/\w2.heap.size=w.heap.size+2/\GridAt w2 w.heap.size W H s/\StAt w2 (w.heap.size+1) h:=by
 have h1:Below w.heap.size w (w.alloc (zar W H s)):=(Below.refl _ _).alloc (Nat.le_refl _) _
 have z1:(w.alloc (zar W H s)).heap.size=w.heap.size+1:=by simp
 have g1:=zbq w W H s
 generalize w.alloc (zar W H s)=u at h1 z1 g1
 have h2:Below u.heap.size u (u.alloc (shO h)):=(Below.refl _ _).alloc (Nat.le_refl _) _
 have g2:=zbo u h
 rw [z1] at g2
 exact ⟨_,rfl,h1.trans (h2.mono (by omega)),by simp [z1],g1.below h2 (by omega),g2⟩
theorem ss_head (w:World)(h h':Sh) :
 ∃ w2,w2=(w.alloc (shO h)).alloc (shO h')/\Below w.heap.size w w2/\w2.heap.size=w.heap.size+2/\StAt w2 w.heap.size h/\StAt w2 (w.heap.size+1) h':=by
 have h1:Below w.heap.size w (w.alloc (shO h)):=(Below.refl _ _).alloc (Nat.le_refl _) _
 have z1:(w.alloc (shO h)).heap.size=w.heap.size+1:=by simp
 have g1:=zbo w h
 generalize w.alloc (shO h)=u at h1 z1 g1
 have h2:Below u.heap.size u (u.alloc (shO h')):=(Below.refl _ _).alloc (Nat.le_refl _) _
 have g2:=zbo u h'
 rw [z1] at g2
 exact ⟨_,rfl,h1.trans (h2.mono (by omega)),by simp [z1],g1.below h2 (by omega),g2⟩
theorem recAt_new (w:World)(r:Rec)(t:TypeId):RecAt (w.alloc (.cells #[.int .i64 r.a,.int .i64 r.b,.int .i64 r.c,.int .i64 r.d,.int .i64 r.e] t)) w.heap.size 0 r:=⟨by simp,by simp,by simp,by simp,by simp⟩
end Go.Proofs.YtknnnbpgkfaapaaGreat.Vm
namespace Go.Proofs.YtknnnbpgkfaapaaGreat.Vm
open Go Go.RowKit
def InpAt (w:World)(b:Nat)(x:Inp):Prop :=
 w.cell? ⟨b,0,none⟩=some (.int .i64 x.k)/\w.cell? ⟨b,1,none⟩=some (.int .i64 x.a)/\w.cell? ⟨b,2,none⟩=some (.int .i64 x.b)/\w.cell? ⟨b,3,none⟩=some (.int .i64 x.c)
theorem InpAt.below {w w':World}{b B:Nat}{x:Inp}(h:InpAt w b x)(hb:Below B w w')(hB:b<B):InpAt w' b x :=
 ⟨(hb.cell (p:=⟨b,0,none⟩) hB).trans h.1,(hb.cell (p:=⟨b,1,none⟩) hB).trans h.2.1,(hb.cell (p:=⟨b,2,none⟩) hB).trans h.2.2.1,(hb.cell (p:=⟨b,3,none⟩) hB).trans h.2.2.2⟩
theorem inpAt_new (w:World)(x:Inp)(t:TypeId):InpAt (w.alloc (inpO x t)) w.heap.size x:=⟨by simp,by simp,by simp,by simp⟩
theorem gsx_head (w:World)(W H:Int)(g:ByteArray)(h:Sh)(x:Inp) :
 ∃ w3,w3=((w.alloc (zar W H g)).alloc (shO h)).alloc (inpO x 44)/\Below w.heap.size w w3/\w3.heap.size=w.heap.size+3/\GridAt w3 w.heap.size W H g/\StAt w3 (w.heap.size+1) h/\InpAt w3 (w.heap.size+1+1) x:=by
 obtain ⟨u,hu,h1,z1,g1,s1⟩:=zbv w W H g h
 have h3:Below u.heap.size u (u.alloc (inpO x 44)):=(Below.refl _ _).alloc (Nat.le_refl _) _
 have x3:=inpAt_new u x 44
 rw [z1] at x3
 exact ⟨u.alloc (inpO x 44),by rw [hu],h1.trans (h3.mono (by omega)),by simp [z1],g1.below h3 (by omega),s1.below h3 (by omega),x3⟩
end Go.Proofs.YtknnnbpgkfaapaaGreat.Vm
