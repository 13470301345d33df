import Derived.Test.YtknnnbpgkfaapaaGreatQ
import Derived.Test.YtknnnbpgkfaapaaGreatVLeadMath
import Derived.Test.YtknnnbpgkfaapaaGreatVOwnIs
import Derived.Deep.RegionWith
set_option maxRecDepth 100000
set_option linter.unusedSimpArgs false
set_option linter.unusedVariables false
namespace Go.Proofs.YtknnnbpgkfaapaaGreat.Vm
open Go.RowKit
set_option maxHeartbeats 800000 in
theorem rgoes_1 (W H:Int)(k:Nat)(s:ByteArray)(w:World)(hw1:1<=W)(hw2:W<=256)(hh1:1<=H)(hh2:H<=256)(hle:s.size<=65536)(hk:k<s.size)
 (hy0:0<=(k:Int) / W) (hy1:(k:Int) / W<H) (hx0:0<=(k:Int) % W) (hx1:(k:Int) % W<W) (hf:zac (zaa s) k=true) (g2:(((s[k]'hk).toNat:Int)==62)=false) (g3:(((s[k]'hk).toNat:Int)==118)=false) (g4:(((s[k]'hk).toNat:Int)==60)=false) (R:Int × Bool)
 (hE:R=if (k:Int) % W+dxS 1<0\/(k:Int) / W+dyS 1<0\/W<=(k:Int) % W+dxS 1\/H<=(k:Int) / W+dyS 1\/zac (zaa s) (((k:Int) / W+dyS 1)*W+((k:Int) % W+dxS 1))=false then (0,false) else
  (((k:Int) / W+dyS 1)*W+((k:Int) % W+dxS 1),true)) :
 Calls Tryz.prog 27 #[zam W H s,.int .i64 k,.int .i64 1] w fun e w'=>e=.returned (.tuple #[.int .i64 R.1,.bool R.2])/\Below w.heap.size w w':=by
 have hB:Below w.heap.size w (w.alloc (zar W H s)):=(zX _ _).alloc (zL _) _
 have hfl:=fun w=>zaw W H k s w (by unfold maxLen;omega)
 rw [hf] at hfl
 have HFL:=qz hfl
 have hfl3:=fun w=>zaw W H (((k:Int) / W+-1)*W+((k:Int) % W)) s w (by unfold maxLen;omega)
 rw [show dxS 1=0 from rfl,show dyS 1=-1 from rfl,Int.add_zero] at hE
 generalize zac (zaa s) (((k:Int) / W+-1)*W+((k:Int) % W))=fl at hE hfl3
 have HE:=qz hE
 have HFL3:=qz hfl3
 clear hE hf hfl hfl3
 cases e1:(((s[k]'hk).toNat:Int)==94)
 all_goals
  go_enter Tryz.func27,Tryz.ntmps27
  go_wp2_with fail
  refine (HFL.out _).mono ?_
  rintro e w1 ⟨rfl,hb⟩
  have hb2:=hB.trans (hb.mono hB.size)
  obtain ⟨hc,hfz⟩:=bcell hb
  have hz:w.heap.size<w1.heap.size:=by have:=hb.size;simp at this;omega
  go_wp2
  go_region
  go_wp2
  go_region
  by_cases hP:(k:Int) / W+-1<0
  · have HE2:=qz (HE.out.trans (if_pos (by omega)))
    clear HE
    go_wp2_with fail
    go_ret2
    exact ⟨zau HE2.out,below_two' hb2⟩
  · have hp0:0<=((k:Int) / W+-1)*W:=Int.mul_nonneg (by omega) (by omega)
    have hp1:((k:Int) / W+-1)*W<=65536:=Int.le_trans (Int.mul_le_mul (show (k:Int) / W+-1<=256 by omega) hw2 (by omega) (by omega)) (by omega)
    go_wp2_with fail
    refine (HFL3.out _).mono ?_
    rintro e w3 ⟨rfl,hb5⟩
    have hbx:Below w1.heap.size w1 w3:=below_two hb5
    obtain ⟨hc5,hfz5⟩:=bcell hbx
    clear hb5
    cases fl
    · have HE2:=qz (HE.out.trans (if_pos (.inr (.inr (.inr (.inr rfl))))))
      clear HE
      go_wp2_with fail
      go_ret2
      exact ⟨zau HE2.out,hb2.trans (hbx.mono hb2.size)⟩
    · have HE2:=qz (HE.out.trans (if_neg (by simp;omega)))
      clear HE
      go_wp2_with fail
      go_ret2
      exact ⟨zau HE2.out,hb2.trans (hbx.mono hb2.size)⟩
set_option maxHeartbeats 800000 in
theorem rgoes_2 (W H:Int)(k:Nat)(s:ByteArray)(w:World)(hw1:1<=W)(hw2:W<=256)(hh1:1<=H)(hh2:H<=256)(hle:s.size<=65536)(hk:k<s.size)
 (hy0:0<=(k:Int) / W) (hy1:(k:Int) / W<H) (hx0:0<=(k:Int) % W) (hx1:(k:Int) % W<W) (hf:zac (zaa s) k=true) (g1:(((s[k]'hk).toNat:Int)==94)=false) (g3:(((s[k]'hk).toNat:Int)==118)=false) (g4:(((s[k]'hk).toNat:Int)==60)=false) (R:Int × Bool)
 (hE:R=if (k:Int) % W+dxS 2<0\/(k:Int) / W+dyS 2<0\/W<=(k:Int) % W+dxS 2\/H<=(k:Int) / W+dyS 2\/zac (zaa s) (((k:Int) / W+dyS 2)*W+((k:Int) % W+dxS 2))=false then (0,false) else
  (((k:Int) / W+dyS 2)*W+((k:Int) % W+dxS 2),true)) :
 Calls Tryz.prog 27 #[zam W H s,.int .i64 k,.int .i64 2] w fun e w'=>e=.returned (.tuple #[.int .i64 R.1,.bool R.2])/\Below w.heap.size w w':=by
 have hB:Below w.heap.size w (w.alloc (zar W H s)):=(zX _ _).alloc (zL _) _
 have hfl:=fun w=>zaw W H k s w (by unfold maxLen;omega)
 rw [hf] at hfl
 have HFL:=qz hfl
 have hfl3:=fun w=>zaw W H (((k:Int) / W)*W+((k:Int) % W+1)) s w (by unfold maxLen;omega)
 rw [show dxS 2=1 from rfl,show dyS 2=0 from rfl,Int.add_zero] at hE
 generalize zac (zaa s) (((k:Int) / W)*W+((k:Int) % W+1))=fl at hE hfl3
 have HE:=qz hE
 have HFL3:=qz hfl3
 clear hE hf hfl hfl3
 cases e2:(((s[k]'hk).toNat:Int)==62)
 all_goals
  go_enter Tryz.func27,Tryz.ntmps27
  go_wp2_with fail
  refine (HFL.out _).mono ?_
  rintro e w1 ⟨rfl,hb⟩
  have hb2:=hB.trans (hb.mono hB.size)
  obtain ⟨hc,hfz⟩:=bcell hb
  have hz:w.heap.size<w1.heap.size:=by have:=hb.size;simp at this;omega
  go_wp2
  go_region
  go_wp2
  go_region
  by_cases hP:W<=(k:Int) % W+1
  · have HE2:=qz (HE.out.trans (if_pos (by omega)))
    clear HE
    go_wp2_with fail
    go_ret2
    exact ⟨zau HE2.out,below_two' hb2⟩
  · have hp0:0<=((k:Int) / W)*W:=Int.mul_nonneg (by omega) (by omega)
    have hp1:((k:Int) / W)*W<=65536:=Int.le_trans (Int.mul_le_mul (show (k:Int) / W<=256 by omega) hw2 (by omega) (by omega)) (by omega)
    go_wp2_with fail
    refine (HFL3.out _).mono ?_
    rintro e w3 ⟨rfl,hb5⟩
    have hbx:Below w1.heap.size w1 w3:=below_two hb5
    obtain ⟨hc5,hfz5⟩:=bcell hbx
    clear hb5
    cases fl
    · have HE2:=qz (HE.out.trans (if_pos (.inr (.inr (.inr (.inr rfl))))))
      clear HE
      go_wp2_with fail
      go_ret2
      exact ⟨zau HE2.out,hb2.trans (hbx.mono hb2.size)⟩
    · have HE2:=qz (HE.out.trans (if_neg (by simp;omega)))
      clear HE
      go_wp2_with fail
      go_ret2
      exact ⟨zau HE2.out,hb2.trans (hbx.mono hb2.size)⟩
set_option maxHeartbeats 800000 in
theorem rgoes_3 (W H:Int)(k:Nat)(s:ByteArray)(w:World)(hw1:1<=W)(hw2:W<=256)(hh1:1<=H)(hh2:H<=256)(hle:s.size<=65536)(hk:k<s.size)
 (hy0:0<=(k:Int) / W) (hy1:(k:Int) / W<H) (hx0:0<=(k:Int) % W) (hx1:(k:Int) % W<W) (hf:zac (zaa s) k=true) (g1:(((s[k]'hk).toNat:Int)==94)=false) (g2:(((s[k]'hk).toNat:Int)==62)=false) (g4:(((s[k]'hk).toNat:Int)==60)=false) (R:Int × Bool)
 (hE:R=if (k:Int) % W+dxS 3<0\/(k:Int) / W+dyS 3<0\/W<=(k:Int) % W+dxS 3\/H<=(k:Int) / W+dyS 3\/zac (zaa s) (((k:Int) / W+dyS 3)*W+((k:Int) % W+dxS 3))=false then (0,false) else
  (((k:Int) / W+dyS 3)*W+((k:Int) % W+dxS 3),true)) :
 Calls Tryz.prog 27 #[zam W H s,.int .i64 k,.int .i64 3] w fun e w'=>e=.returned (.tuple #[.int .i64 R.1,.bool R.2])/\Below w.heap.size w w':=by
 have hB:Below w.heap.size w (w.alloc (zar W H s)):=(zX _ _).alloc (zL _) _
 have hfl:=fun w=>zaw W H k s w (by unfold maxLen;omega)
 rw [hf] at hfl
 have HFL:=qz hfl
 have hfl3:=fun w=>zaw W H (((k:Int) / W+1)*W+((k:Int) % W)) s w (by unfold maxLen;omega)
 rw [show dxS 3=0 from rfl,show dyS 3=1 from rfl,Int.add_zero] at hE
 generalize zac (zaa s) (((k:Int) / W+1)*W+((k:Int) % W))=fl at hE hfl3
 have HE:=qz hE
 have HFL3:=qz hfl3
 clear hE hf hfl hfl3
 cases e3:(((s[k]'hk).toNat:Int)==118)
 all_goals
  go_enter Tryz.func27,Tryz.ntmps27
  go_wp2_with fail
  refine (HFL.out _).mono ?_
  rintro e w1 ⟨rfl,hb⟩
  have hb2:=hB.trans (hb.mono hB.size)
  obtain ⟨hc,hfz⟩:=bcell hb
  have hz:w.heap.size<w1.heap.size:=by have:=hb.size;simp at this;omega
  go_wp2
  go_region
  go_wp2
  go_region
  by_cases hP:H<=(k:Int) / W+1
  · have HE2:=qz (HE.out.trans (if_pos (by omega)))
    clear HE
    go_wp2_with fail
    go_ret2
    exact ⟨zau HE2.out,below_two' hb2⟩
  · have hp0:0<=((k:Int) / W+1)*W:=Int.mul_nonneg (by omega) (by omega)
    have hp1:((k:Int) / W+1)*W<=65536:=Int.le_trans (Int.mul_le_mul (show (k:Int) / W+1<=256 by omega) hw2 (by omega) (by omega)) (by omega)
    go_wp2_with fail
    refine (HFL3.out _).mono ?_
    rintro e w3 ⟨rfl,hb5⟩
    have hbx:Below w1.heap.size w1 w3:=below_two hb5
    obtain ⟨hc5,hfz5⟩:=bcell hbx
    clear hb5
    cases fl
    · have HE2:=qz (HE.out.trans (if_pos (.inr (.inr (.inr (.inr rfl))))))
      clear HE
      go_wp2_with fail
      go_ret2
      exact ⟨zau HE2.out,hb2.trans (hbx.mono hb2.size)⟩
    · have HE2:=qz (HE.out.trans (if_neg (by simp;omega)))
      clear HE
      go_wp2_with fail
      go_ret2
      exact ⟨zau HE2.out,hb2.trans (hbx.mono hb2.size)⟩
set_option maxHeartbeats 800000 in
theorem rgoes_4 (W H:Int)(k:Nat)(s:ByteArray)(w:World)(hw1:1<=W)(hw2:W<=256)(hh1:1<=H)(hh2:H<=256)(hle:s.size<=65536)(hk:k<s.size)
 (hy0:0<=(k:Int) / W) (hy1:(k:Int) / W<H) (hx0:0<=(k:Int) % W) (hx1:(k:Int) % W<W) (hf:zac (zaa s) k=true) (g1:(((s[k]'hk).toNat:Int)==94)=false) (g2:(((s[k]'hk).toNat:Int)==62)=false) (g3:(((s[k]'hk).toNat:Int)==118)=false) (R:Int × Bool)
 (hE:R=if (k:Int) % W+dxS 4<0\/(k:Int) / W+dyS 4<0\/W<=(k:Int) % W+dxS 4\/H<=(k:Int) / W+dyS 4\/zac (zaa s) (((k:Int) / W+dyS 4)*W+((k:Int) % W+dxS 4))=false then (0,false) else
  (((k:Int) / W+dyS 4)*W+((k:Int) % W+dxS 4),true)) :
 Calls Tryz.prog 27 #[zam W H s,.int .i64 k,.int .i64 4] w fun e w'=>e=.returned (.tuple #[.int .i64 R.1,.bool R.2])/\Below w.heap.size w w':=by
 have hB:Below w.heap.size w (w.alloc (zar W H s)):=(zX _ _).alloc (zL _) _
 have hfl:=fun w=>zaw W H k s w (by unfold maxLen;omega)
 rw [hf] at hfl
 have HFL:=qz hfl
 have hfl3:=fun w=>zaw W H (((k:Int) / W)*W+((k:Int) % W+-1)) s w (by unfold maxLen;omega)
 rw [show dxS 4=-1 from rfl,show dyS 4=0 from rfl,Int.add_zero] at hE
 generalize zac (zaa s) (((k:Int) / W)*W+((k:Int) % W+-1))=fl at hE hfl3
 have HE:=qz hE
 have HFL3:=qz hfl3
 clear hE hf hfl hfl3
 cases e4:(((s[k]'hk).toNat:Int)==60)
 all_goals
  go_enter Tryz.func27,Tryz.ntmps27
  go_wp2_with fail
  refine (HFL.out _).mono ?_
  rintro e w1 ⟨rfl,hb⟩
  have hb2:=hB.trans (hb.mono hB.size)
  obtain ⟨hc,hfz⟩:=bcell hb
  have hz:w.heap.size<w1.heap.size:=by have:=hb.size;simp at this;omega
  go_wp2
  go_region
  go_wp2
  go_region
  by_cases hP:(k:Int) % W+-1<0
  · have HE2:=qz (HE.out.trans (if_pos (by omega)))
    clear HE
    go_wp2_with fail
    go_ret2
    exact ⟨zau HE2.out,below_two' hb2⟩
  · have hp0:0<=((k:Int) / W)*W:=Int.mul_nonneg (by omega) (by omega)
    have hp1:((k:Int) / W)*W<=65536:=Int.le_trans (Int.mul_le_mul (show (k:Int) / W<=256 by omega) hw2 (by omega) (by omega)) (by omega)
    go_wp2_with fail
    refine (HFL3.out _).mono ?_
    rintro e w3 ⟨rfl,hb5⟩
    have hbx:Below w1.heap.size w1 w3:=below_two hb5
    obtain ⟨hc5,hfz5⟩:=bcell hbx
    clear hb5
    cases fl
    · have HE2:=qz (HE.out.trans (if_pos (.inr (.inr (.inr (.inr rfl))))))
      clear HE
      go_wp2_with fail
      go_ret2
      exact ⟨zau HE2.out,hb2.trans (hbx.mono hb2.size)⟩
    · have HE2:=qz (HE.out.trans (if_neg (by simp;omega)))
      clear HE
      go_wp2_with fail
      go_ret2
      exact ⟨zau HE2.out,hb2.trans (hbx.mono hb2.size)⟩
set_option maxHeartbeats 800000 in
theorem rgoes_any (W H c way:Int)(s:ByteArray)(w:World)(h:Okay W H s) :
 Calls Tryz.prog 27 #[zam W H s,.int .i64 c,.int .i64 way] w fun e w' =>
  e=.returned (.tuple #[.int .i64 (zak W H (zaa s) c way).1,.bool (zak W H (zaa s) c way).2])/\Below w.heap.size w w':=by
 have hw1:=h.w1
 have hw2:=h.w2
 have hh1:=h.h1
 have hh2:=h.h2
 have hle:=h.le
 have hlen:(s.size:Int)=W*H:=h.len
 have hB:Below w.heap.size w (w.alloc (zar W H s)):=(zX _ _).alloc (zL _) _
 have hfl:=fun w=>zaw W H c s w (by unfold maxLen;omega)
 clear h
 cases hf:zac (zaa s) c
 · have HE:Hid (zak W H (zaa s) c way=(0,false)):=by unfold Hid zak;rw [if_pos (.inl hf)]
   rw [hf] at hfl
   have HFL:=qz hfl
   clear hfl hf hlen
   go_enter Tryz.func27,Tryz.ntmps27
   go_wp2_with fail
   refine (HFL.out _).mono ?_
   rintro e w1 ⟨rfl,hb⟩
   have hb2:=hB.trans (hb.mono hB.size)
   go_wp2
   go_ret2
   exact ⟨zau HE.out,hb2⟩
 rw [hf] at hfl
 have HFL:=qz hfl
 clear hfl
 by_cases hway:way<0\/4<way
 · have HE:Hid (zak W H (zaa s) c way=(0,false)):=by unfold Hid zak;rw [if_pos (.inr hway)]
   clear hf hlen
   rcases hway with hway|hway
   all_goals
    go_enter Tryz.func27,Tryz.ntmps27
    go_wp2_with fail
    refine (HFL.out _).mono ?_
    rintro e w1 ⟨rfl,hb⟩
    have hb2:=hB.trans (hb.mono hB.size)
    go_wp2
    go_ret2
    exact ⟨zau HE.out,hb2⟩
 have hg:=show zak W H (zaa s) c way=_ from by unfold zak;rw [if_neg (by rw [hf];simpa using hway)]
 by_cases h0:way=0
 · subst h0
   have HE:=qz (hg.trans (if_pos rfl))
   clear hf hlen hg hway
   go_enter Tryz.func27,Tryz.ntmps27
   go_wp2_with fail
   refine (HFL.out _).mono ?_
   rintro e w1 ⟨rfl,hb⟩
   have hb2:=hB.trans (hb.mono hB.size)
   go_wp2
   go_ret2
   exact ⟨zau HE.out,hb2⟩
 obtain ⟨hc0,hc1⟩:=zaq hf
 rw [zag] at hc1
 obtain ⟨k,rfl⟩:=Int.eq_ofNat_of_zero_le hc0
 have hk:k<s.size:=by omega
 have hat:(zaa s).getD (k:Int).toNat 0=(s[k]'hk).toNat:=bytesOf_at s k hk
 rw [hat,if_neg h0] at hg
 have hy0:0<=(k:Int) / W:=Int.ediv_nonneg hc0 (by omega)
 have hy1:(k:Int) / W<H:=by
  apply Int.ediv_lt_of_lt_mul (by omega)
  rw [Int.mul_comm,<- hlen]
  exact hc1
 have hx0:=Int.emod_nonneg k (show W≠0 by omega)
 have hx1:=Int.emod_lt_of_pos k (show 0<W by omega)
 have hf0:=hf
 clear hat hlen hf
 generalize hx:(s[k]'hk).toNat=x at hg
 have HX:=qz hx
 have hcase:way=1\/way=2\/way=3\/way=4:=by omega
 clear h0 hway hx
 by_cases hb:Barred x way
 · have HE:=qz (hg.trans (if_pos hb))
   clear hg
   have hw0:0<way:=by omega
   have hw4:way<=4:=by omega
   have e0:(way==0)=false:=by simp;omega
   clear hcase hf0
   rcases hb with ⟨rfl,hb⟩|⟨rfl,hb⟩|⟨rfl,hb⟩|⟨rfl,hb⟩
   · have c1:(((s[k]'hk).toNat:Int)==94)=true:=by rw [HX.out];rfl
     have c2:(way != 1)=true:=by simpa using hb
     clear HX hb
     go_enter Tryz.func27,Tryz.ntmps27
     go_wp2_with fail
     refine (HFL.out _).mono ?_
     rintro e w1 ⟨rfl,hb⟩
     have hb2:=hB.trans (hb.mono hB.size)
     obtain ⟨hc,hfz⟩:=bcell hb
     go_wp2_with fail
     go_ret2
     exact ⟨zau HE.out,hb2⟩
   · have c0:(((s[k]'hk).toNat:Int)==94)=false:=by rw [HX.out];rfl
     have c1:(((s[k]'hk).toNat:Int)==62)=true:=by rw [HX.out];rfl
     have c2:(way != 2)=true:=by simpa using hb
     clear HX hb
     go_enter Tryz.func27,Tryz.ntmps27
     go_wp2_with fail
     refine (HFL.out _).mono ?_
     rintro e w1 ⟨rfl,hb⟩
     have hb2:=hB.trans (hb.mono hB.size)
     obtain ⟨hc,hfz⟩:=bcell hb
     go_wp2_with fail
     go_ret2
     exact ⟨zau HE.out,hb2⟩
   · have c0:(((s[k]'hk).toNat:Int)==94)=false:=by rw [HX.out];rfl
     have c3:(((s[k]'hk).toNat:Int)==62)=false:=by rw [HX.out];rfl
     have c1:(((s[k]'hk).toNat:Int)==118)=true:=by rw [HX.out];rfl
     have c2:(way != 3)=true:=by simpa using hb
     clear HX hb
     go_enter Tryz.func27,Tryz.ntmps27
     go_wp2_with fail
     refine (HFL.out _).mono ?_
     rintro e w1 ⟨rfl,hb⟩
     have hb2:=hB.trans (hb.mono hB.size)
     obtain ⟨hc,hfz⟩:=bcell hb
     go_wp2_with fail
     go_ret2
     exact ⟨zau HE.out,hb2⟩
   · have c0:(((s[k]'hk).toNat:Int)==94)=false:=by rw [HX.out];rfl
     have c3:(((s[k]'hk).toNat:Int)==62)=false:=by rw [HX.out];rfl
     have c4:(((s[k]'hk).toNat:Int)==118)=false:=by rw [HX.out];rfl
     have c1:(((s[k]'hk).toNat:Int)==60)=true:=by rw [HX.out];rfl
     have c2:(way != 4)=true:=by simpa using hb
     clear HX hb
     go_enter Tryz.func27,Tryz.ntmps27
     go_wp2_with fail
     refine (HFL.out _).mono ?_
     rintro e w1 ⟨rfl,hb⟩
     have hb2:=hB.trans (hb.mono hB.size)
     obtain ⟨hc,hfz⟩:=bcell hb
     go_wp2_with fail
     go_ret2
     exact ⟨zau HE.out,hb2⟩
 · have hE:=hg.trans (if_neg hb)
   have g1:way=1\/(((s[k]'hk).toNat:Int)==94)=false:=by rw [HX.out];simp only [beq_eq_false_iff_ne];omega
   have g2:way=2\/(((s[k]'hk).toNat:Int)==62)=false:=by rw [HX.out];simp only [beq_eq_false_iff_ne];omega
   have g3:way=3\/(((s[k]'hk).toNat:Int)==118)=false:=by rw [HX.out];simp only [beq_eq_false_iff_ne];omega
   have g4:way=4\/(((s[k]'hk).toNat:Int)==60)=false:=by rw [HX.out];simp only [beq_eq_false_iff_ne];omega
   rcases hcase with rfl|rfl|rfl|rfl
   · exact rgoes_1 W H k s w hw1 hw2 hh1 hh2 hle hk hy0 hy1 hx0 hx1 hf0 (g2.resolve_left (by omega)) (g3.resolve_left (by omega)) (g4.resolve_left (by omega)) _ hE
   · exact rgoes_2 W H k s w hw1 hw2 hh1 hh2 hle hk hy0 hy1 hx0 hx1 hf0 (g1.resolve_left (by omega)) (g3.resolve_left (by omega)) (g4.resolve_left (by omega)) _ hE
   · exact rgoes_3 W H k s w hw1 hw2 hh1 hh2 hle hk hy0 hy1 hx0 hx1 hf0 (g1.resolve_left (by omega)) (g2.resolve_left (by omega)) (g4.resolve_left (by omega)) _ hE
   · exact rgoes_4 W H k s w hw1 hw2 hh1 hh2 hle hk hy0 hy1 hx0 hx1 hf0 (g1.resolve_left (by omega)) (g2.resolve_left (by omega)) (g3.resolve_left (by omega)) _ hE
set_option maxHeartbeats 400000 in
theorem selected_any (fn:FuncId)(lb:Array Value)(p:Nat->Bool)(w:World)(hfn:∀ args w,(callFunc fn args).run Tryz.prog w=.ok (.enter fn args) w)
 (hp:∀ (wr:World) (k:Nat),k<=4->Below w.heap.size w wr->Calls Tryz.prog fn (#[.int .i64 k]++lb) wr fun e w'=>e=.returned (.bool (p k))/\Below wr.heap.size wr w') :
 Calls Tryz.prog 138 #[.func (.func fn) #[] lb] w (ListPost w ((List.range 5).filter p)):=by
 obtain ⟨i0,hi0,hz0,hz1,hz2⟩:=info_parts info_int
 have HP:=qz hp
 clear hp
 go_enter Tryz.func138,Tryz.ntmps138
 go_wp2_with fail
 go_loopw [3,4] (fun v i wr=>∃ (k:Nat) (out:List Nat),k<=5/\out.length<=k/\i=.int .i64 k/\OwnI wr w.heap.size v out/\Below w.heap.size w wr/\Hid (out=(List.range k).filter p)) (fun _ i _=>5-(intOf i).toNat)
 case atStart=>exact ⟨0,[],Nat.zero_le _,zL _,rfl,World.ownsRow_nil _ _ _ _,zX _ _,rfl⟩
 case round =>
  obtain ⟨k,out,hk,hol,rfl,hown,hbel,HO⟩:=hrel
  by_cases hlt:k<5
  · have hcall:=HP.out wr k (by omega) hbel
    have hsn:=filter_snoc p k
    rw [<- HO.out] at hsn
    cases hpk:p k
    · rw [hpk] at hcall
      have HCALL:=qz hcall
      have HSN:Hid (out=(List.range (k+1)).filter p):=by unfold Hid;rw [hsn,hpk];simp
      clear hcall hsn hpk HO
      go_wp2_with fail
      refine HCALL.out.mono ?_
      rintro e w1 ⟨rfl,hb1⟩
      have hown1:OwnI w1 w.heap.size u3 out:=ownI_below hown hb1
      have hbel1:=hbel.trans (hb1.mono hbel.size)
      go_wp2_with fail
      go_roundw
      case rel=>exact ⟨k+1,out,by omega,by omega,by go_num,hown1,hbel1,HSN.out⟩
      case measure=>simp [intOf];omega
    · rw [hpk] at hcall
      have HCALL:=qz hcall
      have HSN:Hid (out++[k]=(List.range (k+1)).filter p):=by unfold Hid;rw [hsn,hpk];simp
      clear hcall hsn hpk HO
      go_wp2_with fail
      refine HCALL.out.mono ?_
      rintro e w1 ⟨rfl,hb1⟩
      have hown1:OwnI w1 w.heap.size u3 out:=ownI_below hown hb1
      have hbel1:=hbel.trans (hb1.mono hbel.size)
      clear hown hbel
      go_wp2_with (at_builtin;refine wpList_append_own _ rfl (.tmp 12) (.tmp 14) 26 rfl w.heap.size 3 i0 (.int .i64 0) 1 8 Tryz.underlying26 hi0 hz0 hz1 hz2 rfl (by decide) _ _ _ rfl (World.ownsRow.alloc hown1 _) ⟨w1.heap.size,0,none⟩ 1 1 [.int .i64 (k:Int)] rfl rfl (one_cell _ _ _) (by simp [Value.oneCell']) (by simp only [maxLen];omega) (by omega) (by have:=hbel1.size;simp;omega) ?_;intro v' w2 hown2 hgrow2 _)
      have RR:=push_stepI rfl hown1 hbel1 (zL _) hown2 hgrow2
      clear hown2 hgrow2 hown1 hbel1
      go_wp2_with fail
      go_roundw
      case rel=>exact ⟨k+1,out++[k],by omega,by simp;omega,by go_num,RR.1,RR.2,HSN.out⟩
      case measure=>simp [intOf];omega
  · obtain rfl:k=5:=by omega
    go_wp2_with fail
    go_ret
    rw [<- HO.out]
    exact ⟨_,rfl,hown,hbel⟩
set_option maxHeartbeats 400000 in
theorem waysFit_any (W H c way:Int)(s:ByteArray)(b1 b2:Nat)(w:World)(h:Okay W H s)(hg:GridAt w b1 W H s)(hc:w.cell? ⟨b2,0,none⟩=some (.int .i64 c)) :
 Calls Tryz.prog 139 #[.int .i64 way,.pointer (some ⟨b1,0,none⟩),.pointer (some ⟨b2,0,none⟩)] w fun e w'=>e=.returned (.bool (zak W H (zaa s) c way).2)/\Below w.heap.size w w':=by
 obtain ⟨g1,g2,g3⟩:=hg
 have HG:=qz (goes_any W H c way s w h)
 generalize zak W H (zaa s) c way=R at HG
 go_enter Tryz.func139,Tryz.ntmps139
 go_wp2_with fail
 refine HG.out.mono ?_
 rintro e w1 ⟨rfl,hb⟩
 go_wp2_with fail
 go_ret
 exact ⟨rfl,hb⟩
set_option maxHeartbeats 400000 in
theorem ways_any (W H c:Int)(s:ByteArray)(w:World)(h:Okay W H s) :
 Calls Tryz.prog 121 #[zam W H s,.int .i64 c] w (ListPost w (waysS W H (zaa s) c)):=by
 have hB:Below w.heap.size w ((w.alloc (zar W H s)).alloc (.cells #[.int .i64 c] 3)):=((zX _ _).alloc (zL _) _).alloc (by simp) _
 have HS:=qz (selected_any 139 #[.pointer (some ⟨w.heap.size,0,none⟩),.pointer (some ⟨w.heap.size+1,0,none⟩)] (fun way=>(zak W H (zaa s) c (way:Nat)).2) ((w.alloc (zar W H s)).alloc (.cells #[.int .i64 c] 3)) (by intro args w;rfl)
  (fun wr k hk hb=>waysFit_any W H c k s w.heap.size (w.heap.size+1) wr h (GridAt.below (w:=(w.alloc (zar W H s)).alloc (.cells #[.int .i64 c] 3)) ⟨by simp,by simp,by simp⟩ hb (by simp;omega)) ((hb.cell (p:=⟨w.heap.size+1,0,none⟩) (by simp)).trans (by simp))))
 go_enter Tryz.func121,Tryz.ntmps121
 go_wp2_with fail
 refine HS.out.mono ?_
 rintro e w1 ⟨v,rfl,hown,hb⟩
 go_wp2_with fail
 go_ret
 exact ⟨v,rfl,hown.mono (by simp;omega),hB.trans (hb.mono hB.size)⟩
end Go.Proofs.YtknnnbpgkfaapaaGreat.Vm
