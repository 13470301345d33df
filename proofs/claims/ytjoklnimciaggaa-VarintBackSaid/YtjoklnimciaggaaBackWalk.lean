/- tuggerlaw01.VarintBack returns true for every input: what was put is taken, one behind the other, and the text behind it. -/
import Derived.Test.YtjoklnimciaggaaPutsWalk
import Derived.Test.YtjoklnimciaggaaWordsZ
namespace Go.Proofs.Ytjoklnimciaggaa.Vm
open Go.RowKit

/-- A number that was put is taken, whatever stands ahead and behind. -/
theorem takeS_at (ahead behind : List Nat) (x : Nat) (hx : x < 18446744073709551616) : takeS (ahead ++ (enc x ++ behind)) (ahead.length : Nat) = (x, ahead.length + (enc x).length, 0) := by
  have hd : dec 0 ((ahead ++ (enc x ++ behind)).drop ((ahead.length : Nat) : Int).toNat) = (x, (enc x).length, 0) := by
    rw [Int.toNat_natCast, List.drop_left]
    exact dec_enc64 x behind hx
  unfold takeS
  rw [if_neg (by simp; omega), hd, if_pos rfl, Int.toNat_natCast]

/-- A text that was put is read. -/
theorem textS_at (ahead : List Nat) (s : ByteArray) (hs : s.size < 18446744073709551616) : textS (ahead ++ (enc s.size ++ bytesOf s)) (ahead.length : Nat) = (bytesOf s, (ahead ++ (enc s.size ++ bytesOf s)).length, 0) := by
  rw [textS_eq (n := (ahead ++ (enc s.size ++ bytesOf s)).length) rfl (takeS_at ahead (bytesOf s) s.size hs), if_pos rfl, if_neg (by simp [bytesOf_len]; omega)]
  refine Prod.ext ?_ (Prod.ext ?_ rfl)
  · simp only []
    rw [← List.append_assoc, show ahead.length + (enc s.size).length = (ahead ++ enc s.size).length by simp, List.drop_left, List.take_of_length_le (by rw [bytesOf_len]; exact Nat.le_refl _)]
  · simp [bytesOf_len]; omega

theorem strOf_bytesOf (s : ByteArray) : strOf (bytesOf s) = s := by
  cases s with
  | mk d =>
    have e : (UInt8.ofNat ∘ UInt8.toNat) = id := by funext b; simp
    simp [strOf, bytesOf, e]

/-- The numbers without signs. -/
def zigs (l : List Int) : List Nat := l.map fun z => (zig z).toNat
theorem zigs_len (l : List Int) : (zigs l).length = l.length := by simp [zigs]
theorem zigs_take (l : List Int) (k : Nat) : (zigs l).take k = zigs (l.take k) := by simp [zigs, List.map_take]
theorem zigs_at (l : List Int) (k : Nat) (hk : k < l.length) : (zigs l).getD k 0 = (zig (l.getD k 0)).toNat := by simp [zigs, List.getD, hk]
theorem zigs_lt (l : List Int) (h : ∀ z ∈ l, -9223372036854775808 ≤ z ∧ z ≤ 9223372036854775807) : ∀ x ∈ zigs l, x < 18446744073709551616 := by
  intro x hx
  obtain ⟨z, hz, rfl⟩ := List.mem_map.1 hx
  have := zig_bd (h z hz).1 (h z hz).2
  omega

/-- varint.Put of a number that was made by Zig. -/
theorem put_zig (w : World) (z : Int) (h1 : -9223372036854775808 ≤ z) (h2 : z ≤ 9223372036854775807) (t : TypeId) : Calls Try.prog 16 #[.slice (some ⟨w.heap.size, 0, none⟩) 1 1] (w.alloc (.cells #[.int .u64 (zig z)] t)) fun e w' =>
    ∃ g n c, e = .returned (.slice (some ⟨g, 0, none⟩) n c) ∧ Row .u8 w' w'.heap.size (some ⟨g, 0, none⟩) n c (enc (zig z).toNat) ∧ Below w.heap.size w w' := by
  have hb := zig_bd h1 h2
  have hp := put_any _ 1 1 [(zig z).toNat] _ ((row_one .u64 w (zig z).toNat t).mono (by simp)) (by simp; omega) (by omega)
  rw [Int.toNat_of_nonneg hb.1] at hp
  refine hp.mono ?_
  rintro e w1 ⟨v, rfl, hown, hbel⟩
  rw [show encs [(zig z).toNat] = enc (zig z).toNat by simp [encs]] at hown
  obtain ⟨g, cap, rfl, hb1, hg, hr⟩ := hown.form (by have := (enc_len64 (n := (zig z).toNat) (by omega)).1; omega)
  exact ⟨g, _, cap, rfl, hr, ((Below.refl _ w).alloc (Nat.le_refl _) _).trans (hbel.mono (by simp))⟩

/-- Both loops of VarintBack lean on this: a list of numbers, the text, and what is laid of them. -/
theorem back_split (l : List Nat) (k : Nat) (hk : k < l.length) (t : List Nat) : encs l ++ t = encs (l.take k) ++ (enc (l.getD k 0) ++ (encs (l.drop (k + 1)) ++ t)) := by
  have e : l = l.take k ++ (l.getD k 0 :: l.drop (k + 1)) := by
    have h1 : l.drop k = l.getD k 0 :: l.drop (k + 1) := by
      rw [List.drop_eq_getElem_cons hk]; simp [List.getD, hk]
    rw [← h1, List.take_append_drop]
  have e2 : encs l = encs (l.take k ++ (l.getD k 0 :: l.drop (k + 1))) := by rw [← e]
  rw [e2]
  simp [encs]

set_option maxRecDepth 100000 in
set_option maxHeartbeats 800000 in
theorem back_walk (a0 : Option Addr) (len0 cap0 : Nat) (z0 : List Int) (a1 : ByteArray) (w : World) (w0 : IsRow .i64 w a0 len0 cap0 z0) (w1 : a1.size ≤ maxLen) :
    Calls Try.prog 5 #[.slice a0 len0 cap0, .string a1] w fun e w' => e = .returned (.bool true) ∧ Below w.heap.size w w' := by
  obtain ⟨i0, hi0, hz0, hz1, hz2⟩ := info_parts info_u8
  have hr := RowZ.of_isRow w0
  have hz : ∀ z ∈ z0.take len0, -9223372036854775808 ≤ z ∧ z ≤ 9223372036854775807 := fun z hz => bounds_i64 (w0.wf z (List.mem_of_mem_take hz))
  clear w0
  generalize z0.take len0 = zs at hr hz
  have hm := hr.2.2.1
  have hlc := hr.2.1
  unfold maxLen at hm w1
  have HL := Lib.hid hr.1
  have HR := Lib.hid hr
  have HZ := Lib.hid hz
  clear hr hz
  by_cases hout : 100 < len0 ∨ 1000 < a1.size
  · by_cases c1 : 100 < len0
    · clear hout
      go_enter Try.func5, Try.ntmps5
      go_wp2_with fail
      refine (awake_any w).mono ?_
      rintro e w1 ⟨rfl, hbel⟩
      go_wp2_with fail
      go_ret
      exact ⟨rfl, hbel⟩
    · have c2 : 1000 < a1.size := by omega
      clear hout
      go_enter Try.func5, Try.ntmps5
      go_wp2_with fail
      refine (awake_any w).mono ?_
      rintro e w1 ⟨rfl, hbel⟩
      go_wp2_with fail
      go_ret
      exact ⟨rfl, hbel⟩
  have c1 : len0 ≤ 100 := by omega
  have c2 : a1.size ≤ 1000 := by omega
  clear hout
  have d1 : decide ((100 : Int) < (len0 : Int)) = false := by simp; omega
  have d2 : decide ((1000 : Int) < (a1.size : Int)) = false := by simp; omega
  go_enter Try.func5, Try.ntmps5
  go_wp2_with fail
  refine (awake_any w).mono ?_
  rintro e w1 ⟨rfl, hbel1⟩
  go_wp2_with fail
  go_loopw [6, 7] (fun v i wr => ∃ k : Nat, k ≤ len0 ∧ i = .int .i64 k ∧ Own wr w.heap.size v (encs ((zigs zs).take k)) ∧ Below w.heap.size w wr) (fun _ i _ => len0 - (intOf i).toNat)
  case atStart => exact ⟨0, Nat.zero_le _, rfl, World.ownsRow_nil _ _ _ _, hbel1⟩
  case round =>
    obtain ⟨k, hk, rfl, hown, hbel⟩ := hrel
    by_cases hlt : k < len0
    · obtain ⟨b, off, rfl, hb, hcs⟩ := HR.out.cells (by omega)
      have hcell : wr.cell? ⟨b, off + k, none⟩ = _ := (hbel.cell (p := ⟨b, off + k, none⟩) hb).trans (hcs k hlt)
      clear hcs
      have hx := HZ.out (zs.getD k 0) (by have := HL.out; simp [List.getD, show k < zs.length by omega])
      have he := encs_snoc (zigs zs) k (by have := HL.out; rw [zigs_len]; omega)
      rw [zigs_at zs k (by have := HL.out; omega)] at he
      have hlen : (encs ((zigs zs).take (k + 1))).length ≤ 2000 := by
        have h1 := encs_len ((zigs zs).take (k + 1)) (fun y hy => zigs_lt zs HZ.out y (List.mem_of_mem_take hy))
        have h2 : ((zigs zs).take (k + 1)).length ≤ k + 1 := List.length_take_le _ _
        omega
      generalize zs.getD k 0 = x at hcell he hx
      rw [he, List.length_append] at hlen
      have HE := Lib.hid he
      clear he
      obtain ⟨hx1, hx2⟩ := hx
      go_wp2_with fail
      refine (zig_any x _ hx1 hx2).mono ?_
      rintro e w2 ⟨rfl, rfl⟩
      go_wp2_with fail
      refine (put_zig _ x hx1 hx2 _).mono ?_
      rintro e w2 ⟨g, m, cap, rfl, hr2, hbel2⟩
      have hm2 : m = (enc (zig x).toNat).length := hr2.1.symm
      subst hm2
      have hown2 : Own w2 w.heap.size _ _ := own_below hown hbel2 (fun k hk => (World.ownsRow.lt hown k hk).2)
      have hbel3 : Below w.heap.size w w2 := hbel.trans (hbel2.mono hbel.size)
      clear hown hbel2
      have HRC := Lib.hid (row_cells hr2)
      clear hr2
      go_wp2_with (at_builtin; refine wpList_append_own _ rfl (.tmp 32) (.tmp 39) 22 rfl w.heap.size 5 i0 (.int .u8 0) 1 1 Try.underlying22 hi0 hz0 hz1 hz2 rfl (by decide) _ _ _ rfl hown2 ⟨g, 0, none⟩ (enc (zig x).toNat).length cap (u8s (enc (zig x).toNat)) rfl (by simp [u8s_len]) HRC.out (u8s_one _) (by simp only [maxLen]; omega) (by omega) hbel3.size ?_; intro v' w3 hown3 hgrow3 _)
      have hbel4 : Below w.heap.size w w3 := hbel3.grown hgrow3 hbel3.size (fun k hk => (World.ownsRow.lt hown2 k hk).1)
      have hown4 : Own w3 w.heap.size v' (encs ((zigs zs).take (k + 1))) := by
        rw [HE.out]
        unfold Own
        rw [List.length_append, u8s_append]
        exact hown3
      clear hown3 hgrow3 hown2 hbel3
      go_wp2_with fail
      go_roundw
      case rel => exact ⟨k + 1, by omega, by go_num, hown4, hbel4⟩
      case measure => simp [intOf]; omega
    · have hkn : k = len0 := by omega
      have htk : (zigs zs).take k = zigs zs := List.take_of_length_le (by rw [zigs_len, HL.out]; omega)
      rw [htk] at hown
      clear hkn htk
      have hlen : (encs (zigs zs)).length ≤ 2000 := by
        have h1 := encs_len (zigs zs) (zigs_lt zs HZ.out)
        have := HL.out
        rw [zigs_len] at h1
        omega
      have hle := enc_len64 (n := a1.size) (by omega)
      have hlt' : (enc a1.size ++ bytesOf a1).length ≤ 1010 := by rw [List.length_append, bytesOf_len]; omega
      have hlt0 : 0 < (enc a1.size ++ bytesOf a1).length := by rw [List.length_append]; omega
      generalize hT : enc a1.size ++ bytesOf a1 = T at hlt' hlt0
      have HT := Lib.hid hT
      clear hT
      have HB := Lib.hid (bytes_any a1 wr (by omega))
      rw [HT.out] at HB
      go_wp2_with fail
      refine HB.out.mono ?_
      rintro e w2 ⟨v, rfl, hown2, hbel2⟩
      obtain ⟨g, cap, rfl, hb1, hg, hr2⟩ := hown2.form hlt0
      have hown3 : Own w2 w.heap.size _ _ := own_below hown hbel2 (fun k hk => (World.ownsRow.lt hown k hk).2)
      have hbel3 : Below w.heap.size w w2 := hbel.trans (hbel2.mono hbel.size)
      clear hown hbel2 hown2 HB
      have HRC := Lib.hid (row_cells hr2)
      clear hr2
      go_wp2_with (at_builtin; refine wpList_append_own _ rfl (.tmp 41) (.tmp 43) 22 rfl w.heap.size 5 i0 (.int .u8 0) 1 1 Try.underlying22 hi0 hz0 hz1 hz2 rfl (by decide) _ _ _ rfl hown3 ⟨g, 0, none⟩ T.length cap (u8s T) rfl (by simp [u8s_len]) HRC.out (u8s_one _) (by simp only [maxLen]; omega) (by omega) hbel3.size ?_; intro v' w3 hown4 hgrow4 _)
      have hbel4 : Below w.heap.size w w3 := hbel3.grown hgrow4 hbel3.size (fun k hk => (World.ownsRow.lt hown3 k hk).1)
      have hown5 : Own w3 w.heap.size v' (encs (zigs zs) ++ T) := by
        unfold Own
        rw [List.length_append, u8s_append]
        exact hown4
      clear hown4 hgrow4 hown3 hbel3 HRC
      obtain ⟨g2, cap2, rfl, hb2, hg2, hr5⟩ := hown5.form (by rw [List.length_append]; omega)
      have hL : (encs (zigs zs) ++ T).length ≤ 3010 := by rw [List.length_append]; omega
      have hb256 : ∀ y ∈ encs (zigs zs) ++ T, y < 256 := by
        intro y hy
        rw [← HT.out] at hy
        rcases List.mem_append.1 hy with hy | hy
        · obtain ⟨n, _, hy⟩ := List.mem_flatMap.1 hy
          exact enc_byte n n (Nat.le_refl _) y hy
        · rcases List.mem_append.1 hy with hy | hy
          · exact enc_byte _ _ (Nat.le_refl _) y hy
          · exact bytesOf_lt a1 y hy
      have HB256 := Lib.hid hb256
      have HR5 := Lib.hid hr5
      clear hr5 hown5 hb256
      generalize hN : (encs (zigs zs) ++ T).length = N at HR5 hL
      have HN := Lib.hid hN
      clear hN
      go_wp2_with fail
      go_loopw [8, 9] (fun t i wl => ∃ k p : Nat, k ≤ len0 ∧ p ≤ N ∧ i = .int .i64 k ∧ t = .int .i64 p ∧ Hid (p = (encs ((zigs zs).take k)).length) ∧ Below w3.heap.size w3 wl) (fun _ i _ => len0 - (intOf i).toNat)
      case atStart => exact ⟨0, 0, Nat.zero_le _, Nat.zero_le _, rfl, rfl, rfl, Below.refl _ _⟩
      case round =>
        obtain ⟨k, p, hk, hp, rfl, rfl, HP, hwl⟩ := hrel
        by_cases hlt : k < len0
        · obtain ⟨b, off, rfl, hb, hcs⟩ := HR.out.cells (by omega)
          have hcell : wr.cell? ⟨b, off + k, none⟩ = _ := ((hbel4.trans (hwl.mono hbel4.size)).cell (p := ⟨b, off + k, none⟩) hb).trans (hcs k hlt)
          clear hcs
          have hkl : k < zs.length := by have := HL.out; omega
          have hx := HZ.out (zs.getD k 0) (by simp [List.getD, hkl])
          have hs := back_split (zigs zs) k (by rw [zigs_len]; exact hkl) T
          have hsn := encs_snoc (zigs zs) k (by rw [zigs_len]; exact hkl)
          rw [zigs_at zs k hkl] at hs hsn
          generalize zs.getD k 0 = x at hcell hx hs hsn
          obtain ⟨hx1, hx2⟩ := hx
          have hzb := zig_bd hx1 hx2
          have hts : takeS (encs (zigs zs) ++ T) (p : Nat) = ((zig x).toNat, p + (enc (zig x).toNat).length, 0) := by
            rw [hs, HP.out]; exact takeS_at _ _ _ (by omega)
          have hel := enc_len64 (n := (zig x).toNat) (by omega)
          have hp' : p + (enc (zig x).toNat).length ≤ N := by
            rw [← HN.out, hs, HP.out]; simp
          have HP' : Hid (p + (enc (zig x).toNat).length = (encs ((zigs zs).take (k + 1))).length) := by
            unfold Hid; rw [hsn, List.length_append, HP.out]
          have htk := take_in _ N cap2 _ (encs (zigs zs) ++ T) p wr (HR5.out.below hwl) HB256.out hp
          rw [hts] at htk
          simp only [] at htk
          rw [Int.toNat_of_nonneg hzb.1] at htk
          have hpp : p < p + (enc (zig x).toNat).length := by omega
          generalize p + (enc (zig x).toNat).length = p' at htk hp' HP' hpp
          have HTK := Lib.hid htk
          clear htk hts hs hsn hkl
          have hzag : ∀ W, Calls Try.prog 22 #[.int .u64 (zig x)] W fun e w' => e = .returned (.int .i64 x) ∧ w' = W := fun W => by
            refine (zag_any (zig x) W hzb.1 hzb.2).mono ?_
            rintro e w' ⟨rfl, rfl⟩
            rw [zag_zig]
            exact ⟨rfl, rfl⟩
          have HZG := Lib.hid hzag
          clear hzag hzb
          have e1 : (x != x) = false := by simp
          have e2 : decide (p' ≤ p) = false := by simp; omega
          go_wp2_with fail
          refine HTK.out.mono ?_
          rintro e w4 ⟨rfl, rfl⟩
          go_wp2_with fail
          go_quiet ((go_at_call 22; exact Calls.quiet_of_same (HZG.out _)))
          go_wp2_with fail
          go_roundw
          case rel => exact ⟨k + 1, p', by omega, hp', by go_num, rfl, HP', below_drewN hwl _⟩
          case measure => simp [intOf]; omega
        · have hkn : k = len0 := by omega
          have hpe : p = (encs (zigs zs)).length := by
            have := HP.out
            rw [List.take_of_length_le (by rw [zigs_len, HL.out]; omega)] at this
            exact this
          have hts : textS (encs (zigs zs) ++ T) (p : Nat) = (bytesOf a1, N, 0) := by
            rw [hpe, ← HN.out, ← HT.out]; exact textS_at _ a1 (by omega)
          have htx := text_any _ N cap2 _ (encs (zigs zs) ++ T) p wr (HR5.out.below hwl) HB256.out
          rw [hts] at htx
          simp only [strOf_bytesOf] at htx
          have HTX := Lib.hid htx
          clear htx hts hpe hkn
          go_wp2_with fail
          refine HTX.out.mono ?_
          rintro e w4 ⟨rfl, rfl⟩
          go_wp2_with fail
          go_ret
          refine ⟨?_, hbel4.trans (hwl.mono hbel4.size)⟩
          simp
end Go.Proofs.Ytjoklnimciaggaa.Vm
