/- The contracts of the document's Put (one number), All and Bytes: the same bytes as the program's. -/
import Derived.Test.YtjoklnimciaggaaBytes
import Derived.Test.YtjoklnimciaggaaAwake
namespace Go.Proofs.Ytjoklnimciaggaa.Vm
open Go.RowKit

/-- A byte in a new row is owned. -/
theorem own_new (w : World) (x : Nat) : Own (w.alloc (.cells #[.int .u8 (x : Nat)] 5)) w.heap.size (.slice (some ⟨w.heap.size, 0, none⟩) 1 1) [x] :=
  ⟨rfl, .inr ⟨w.heap.size, 1, _, rfl, Nat.le_refl _, heap_alloc_new w _, Nat.le_refl _, by simp [maxLen], rfl, rfl⟩⟩

theorem own_below {w w' : World} {B B' : Nat} {v : Value} {l : List Nat} (h : Own w B v l) (hb : Below B' w w') (hv : ∀ k, v.ownBlock = some k → k < B') : Own w' B v l := by
  refine ⟨h.1, ?_⟩
  rcases h.2 with h2 | ⟨g, cap, cur, rfl, hg, hh, r⟩
  · exact .inl h2
  · exact .inr ⟨g, cap, cur, rfl, hg, by rw [hb.block g (hv g rfl)]; exact hh, r⟩

theorem u8s_append (a b : List Nat) : u8s (a ++ b) = u8s a ++ u8s b := by simp [u8s]
theorem u8s_len (a : List Nat) : (u8s a).length = a.length := by simp [u8s]

/-- The cells of a row, as the laws on append ask for them. -/
theorem row_cells {w : World} {B b off n c : Nat} {l : List Nat} (h : Row .u8 w B (some ⟨b, off, none⟩) n c l) : ∀ j u, (u8s l)[j]? = some u → w.cell? ((⟨b, off, none⟩ : Addr).add j) = some u := by
  intro j u hu
  have hl := h.1
  have hj : j < l.length := by
    have := (List.getElem?_eq_some_iff.1 hu).1
    simpa [u8s] using this
  obtain ⟨b', off', e1, _, hc⟩ := h.cells (by omega)
  injection e1 with e1
  injection e1 with e1 e2
  subst e1 e2
  rw [Row.add, hc j (by omega)]
  simp [u8s, hj] at hu
  rw [← hu]
  simp [List.getD, hj]

set_option maxRecDepth 100000 in
set_option maxHeartbeats 400000 in
theorem rput_any (k : Nat) : ∀ (n : Nat) (w : World), n < 128 ^ (k + 1) → n < 18446744073709551616 →
    Calls Try.prog 25 #[.int .u64 n] w fun e w' => ∃ v, e = .returned v ∧ Own w' w.heap.size v (enc n) ∧ Below w.heap.size w w' := by
  obtain ⟨i0, hi0, hz0, hz1, hz2⟩ := info_parts info_u8
  induction k with
  | zero =>
    intro n w h1 h2
    have h3 : n < 128 := by omega
    clear h1
    go_enter Try.func25, Try.ntmps25
    go_wp2_with fail
    go_ret
    exact ⟨_, rfl, by rw [enc_small h3]; exact own_new w n, (Below.refl _ _).alloc (Nat.le_refl _) _⟩
  | succ k ih =>
    intro n w h1 h2
    by_cases h3 : n < 128
    · clear h1
      have IH := Lib.hid ih
      clear ih
      go_enter Try.func25, Try.ntmps25
      go_wp2_with fail
      go_ret
      exact ⟨_, rfl, by rw [enc_small h3]; exact own_new w n, (Below.refl _ _).alloc (Nat.le_refl _) _⟩
    · have h4 : n / 128 < 128 ^ (k + 1) := by rw [Nat.div_lt_iff_lt_mul (by omega)]; rw [Nat.pow_succ] at h1; omega
      have IH0 : ∀ w, Calls Try.prog 25 #[.int .u64 ((n : Int) / 128)] w fun e w' => ∃ v, e = .returned v ∧ Own w' w.heap.size v (enc (n / 128)) ∧ Below w.heap.size w w' := by
        intro w
        have := ih (n / 128) w h4 (by omega)
        rw [show ((n / 128 : Nat) : Int) = (n : Int) / 128 by omega] at this
        exact this
      have IH := Lib.hid IH0
      have hl := (enc_len64 (n := n / 128) (by omega))
      clear ih h1 h4 IH0
      go_enter Try.func25, Try.ntmps25
      go_wp2_with fail
      refine (IH.out _).mono ?_
      rintro e w1 ⟨v, rfl, hown, hbel⟩
      obtain ⟨g, cap, rfl, hb, hg, hr⟩ := hown.form (by omega)
      have hown0 := own_new w (n % 128 + 128)
      rw [show ((n % 128 + 128 : Nat) : Int) = (n : Int) % 128 + 128 by omega] at hown0
      have hown1 : Own w1 w.heap.size _ _ := own_below hown0 hbel (by intro k hk; simp [Value.ownBlock] at hk; simp; omega)
      have hbel1 : Below w.heap.size w w1 := ((Below.refl _ w).alloc (Nat.le_refl _) _).trans (hbel.mono (by simp))
      clear hown hown0 hbel
      have HRC := Lib.hid (row_cells hr)
      clear hr
      go_wp2_with (at_builtin; refine wpList_append_own _ rfl (.tmp 12) (.tmp 15) 22 rfl w.heap.size 5 i0 (.int .u8 0) 1 1 Try.underlying22 hi0 hz0 hz1 hz2 rfl (by decide) _ _ _ rfl hown1 ⟨g, 0, none⟩ (enc (n / 128)).length cap (u8s (enc (n / 128))) rfl (by simp [u8s_len]) HRC.out (u8s_one _) (by simp only [maxLen]; simp; omega) (by simp; omega) hbel1.size ?_; intro v' w2 hown2 hgrow2 _)
      go_ret
      refine ⟨_, rfl, ?_, hbel1.grown hgrow2 hbel1.size (fun k hk => (World.ownsRow.lt hown1 k hk).1)⟩
      rw [show enc n = [n % 128 + 128] ++ enc (n / 128) from enc_big (by omega)]
      unfold Own
      rw [List.length_append, u8s_append]
      exact hown2

/-- The document's Put of any number. -/
theorem rput_one (n : Nat) (w : World) (h : n < 18446744073709551616) :
    Calls Try.prog 25 #[.int .u64 n] w fun e w' => ∃ v, e = .returned v ∧ Own w' w.heap.size v (enc n) ∧ Below w.heap.size w w' := rput_any 9 n w (by omega) h

set_option maxRecDepth 100000 in
set_option maxHeartbeats 400000 in
/-- The document's All: the bytes of all numbers. -/
theorem rall_any (a : Option Addr) (n c : Nat) (zs : List Nat) (w : World) (h : Row .u64 w w.heap.size a n c zs) (hz : ∀ x ∈ zs, x < 18446744073709551616) (hn : n ≤ 65536) :
    Calls Try.prog 17 #[.slice a n c] w fun e w' => ∃ v, e = .returned v ∧ Own w' w.heap.size v (encs zs) ∧ Below w.heap.size w w' := by
  obtain ⟨i0, hi0, hz0, hz1, hz2⟩ := info_parts info_u8
  have hl := h.1
  have HL := Lib.hid hl
  have HZ := Lib.hid hz
  clear hl hz
  go_enter Try.func17, Try.ntmps17
  go_wp2_with fail
  go_loopw [3, 4] (fun v i wr => ∃ k : Nat, k ≤ n ∧ i = .int .i64 k ∧ Own wr w.heap.size v (encs (zs.take k)) ∧ Below w.heap.size w wr) (fun _ i _ => n - (intOf i).toNat)
  case atStart => exact ⟨0, Nat.zero_le _, rfl, World.ownsRow_nil _ _ _ _, Below.refl _ _⟩
  case round =>
    obtain ⟨k, hk, rfl, hown, hbel⟩ := hrel
    by_cases hlt : k < n
    · obtain ⟨b, off, rfl, hb, hcs⟩ := h.cells (by omega)
      have hcell : wr.cell? ⟨b, off + k, none⟩ = _ := (hbel.cell (p := ⟨b, off + k, none⟩) hb).trans (hcs k hlt)
      clear hcs
      have hx64 : zs.getD k 0 < 18446744073709551616 := by
        refine HZ.out _ ?_; have := HL.out; simp [List.getD, show k < zs.length by omega]
      have he := encs_snoc zs k (by have := HL.out; omega)
      have hlen : (encs (zs.take (k + 1))).length ≤ 655360 := by
        have := encs_len (zs.take (k + 1)) (fun y hy => HZ.out y (List.mem_of_mem_take hy))
        have := HL.out
        simp only [List.length_take] at *
        omega
      generalize zs.getD k 0 = x at hcell he hx64
      rw [he, List.length_append] at hlen
      have HE := Lib.hid he
      clear he
      have hl1 := (enc_len64 hx64).1
      go_wp2_with fail
      refine (rput_one x wr hx64).mono ?_
      rintro e w1 ⟨v, rfl, hown1, hbel1⟩
      obtain ⟨g, cap, rfl, hb1, hg, hr⟩ := hown1.form (by omega)
      have hown2 : Own w1 w.heap.size _ _ := own_below hown hbel1 (fun k hk => (World.ownsRow.lt hown k hk).2)
      have hbel2 : Below w.heap.size w w1 := hbel.trans (hbel1.mono hbel.size)
      clear hown1 hbel1 hown
      have HRC := Lib.hid (row_cells hr)
      clear hr
      go_wp2_with (at_builtin; refine wpList_append_own _ rfl (.tmp 11) (.tmp 16) 22 rfl w.heap.size 5 i0 (.int .u8 0) 1 1 Try.underlying22 hi0 hz0 hz1 hz2 rfl (by decide) _ _ _ rfl hown2 ⟨g, 0, none⟩ (enc x).length cap (u8s (enc x)) rfl (by simp [u8s_len]) HRC.out (u8s_one _) (by simp only [maxLen]; omega) (by omega) hbel2.size ?_; intro v' w2 hown3 hgrow3 _)
      have hbel3 : Below w.heap.size w w2 := hbel2.grown hgrow3 hbel2.size (fun k hk => (World.ownsRow.lt hown2 k hk).1)
      have hown4 : Own w2 w.heap.size v' (encs (zs.take (k + 1))) := by
        rw [HE.out]
        unfold Own
        rw [List.length_append, u8s_append]
        exact hown3
      clear hown3 hgrow3 hown2 hbel2
      go_wp2_with fail
      go_roundw
      case rel => exact ⟨k + 1, by omega, by go_num, hown4, hbel3⟩
      case measure => simp [intOf]; omega
    · go_wp2_with fail
      go_ret
      have hkn : k = n := by omega
      exact ⟨_, rfl, by have := hown; rw [List.take_of_length_le (by rw [HL.out]; omega)] at this; exact this, hbel⟩

set_option maxRecDepth 100000 in
set_option maxHeartbeats 400000 in
theorem rbytes_any (s : ByteArray) (w : World) (hs : s.size ≤ 1099511627776) :
    Calls Try.prog 19 #[.string s] w fun e w' => ∃ v, e = .returned v ∧ Own w' w.heap.size v (enc s.size ++ bytesOf s) ∧ Below w.heap.size w w' := by
  obtain ⟨i0, hi0, hz0, hz1, hz2⟩ := info_parts info_u8
  have hle := (enc_len64 (n := s.size) (by omega)).2
  go_enter Try.func19, Try.ntmps19
  go_wp2_with fail
  refine (rput_one s.size w (by omega)).mono ?_
  rintro e w1 ⟨v, rfl, hown, hbel⟩
  go_wp2_with (at_builtin; refine Lib.wpList_append_own_string _ rfl (.tmp 6) (.tmp 7) 22 9 rfl w.heap.size 5 i0 Try.underlying22 Try.underlying9 hi0 hz0 hz1 hz2 v _ _ rfl hown s rfl (by simp only [maxLen]; omega) (by omega) hbel.size ?_; intro v' w2 hown2 hgrow2 _)
  go_ret
  refine ⟨_, rfl, ?_, hbel.grown hgrow2 hbel.size (fun k hk => (World.ownsRow.lt hown k hk).1)⟩
  rw [strCells_u8s] at hown2
  unfold Own
  rw [List.length_append, bytesOf_len, u8s_append]
  exact hown2
end Go.Proofs.Ytjoklnimciaggaa.Vm
