/- The contracts of frame.Put and of the document's Put: the frame of bytes, in new memory. -/
import Derived.Test.YtgeonmojadkbjaaRefChecks
import Derived.Test.YtgeonmojadkbjaaAppends
import Derived.Test.YtgeonmojadkbjaaPuts
import Derived.Test.YtgeonmojadkbjaaRefPuts
import Derived.Test.YtgeonmojadkbjaaScanMath
namespace Go.Proofs.Ytgeonmojadkbjaa.Vm
open Go.RowKit

theorem Below.grows {B : Nat} {w w1 w2 : World} {v : Value} {l : List Nat} (h : Below B w w1) (hB : B ≤ w1.heap.size) (hown : Own w1 B v l) (hg : w1.grownBy w2 v.ownBlock) : Below B w w2 :=
  h.grown hg hB (fun k hk => (World.ownsRow.lt hown k hk).1)

set_option maxRecDepth 100000 in
set_option maxHeartbeats 400000 in
theorem fput_many (a : Option Addr) (n c : Nat) (w : World) (hm : n ≤ 9223372036854775807) (hn : 1000000 < n) :
    Calls Try.prog 7 #[.slice a n c] w fun e w' => e = .returned (.tuple #[.slice none 0 0, .int .i64 4]) ∧ w = w' := by
  go_enter Try.func7, Try.ntmps7
  go_wp2_with fail
  go_ret2
  exact ⟨rfl, rfl⟩

set_option maxRecDepth 100000 in
set_option maxHeartbeats 400000 in
theorem fput_any (a : Option Addr) (n c : Nat) (zs : List Nat) (w : World) (h : Row .u8 w w.heap.size a n c zs) (hz : ∀ x ∈ zs, x < 256) (hn : n ≤ 1000000) :
    Calls Try.prog 7 #[.slice a n c] w fun e w' => ∃ v, e = .returned (.tuple #[v, .int .i64 0]) ∧ Own w' w.heap.size v (fr zs) ∧ Below w.heap.size w w' := by
  have HK := Lib.hid (fcheck_any a n c _ zs w h (Nat.le_refl _) hz)
  have hc := crc_lt zs
  have HF : Hid (fr zs = enc n ++ zs ++ four (crc zs)) := by unfold Hid fr; rw [h.1]
  have HL := Lib.hid h.1
  clear hz
  generalize crc zs = q at HK hc HF
  go_enter Try.func7, Try.ntmps7
  go_wp2_with fail
  refine HK.out.mono ?_
  rintro e w1 ⟨rfl, hbel⟩
  have HP := Lib.hid fun t => put_any _ 1 1 [n] (w1.alloc (.cells #[.int .u64 (n : Nat)] t)) ((row_one .u64 w1 n t).mono (by simp)) (by simp; omega) (by omega)
  have hle := (enc_len64 (n := n) (by omega)).2
  go_wp2_with fail
  refine (HP.out _).mono ?_
  rintro e w2 ⟨v, rfl, hown, hbel2⟩
  have hown := Own.mono hown (B' := w.heap.size) (by simp; have := hbel.size; omega)
  have hbel2 : Below w.heap.size w w2 := (hbel.alloc hbel.size _).trans (hbel2.mono (by simp; have := hbel.size; omega))
  have he : encs [n] = enc n := by simp [encs]
  rw [he] at hown
  clear he hbel
  have HR := Lib.hid (h.below hbel2)
  clear h
  have HL3 : Hid ((enc n ++ zs).length ≤ 1000010) := by unfold Hid; have := HL.out; rw [List.length_append]; omega
  go_wp2_with (at_builtin; first
    | (refine wpList_append_row rfl (.tmp 15) (.tmp 16) rfl rfl hown rfl HR.out (by omega) hbel2.size ?_
       intro v3 w3 hown3 hgrow3 _
       have hbel3 := Below.grows hbel2 hbel2.size hown hgrow3
       have H4 := Lib.hid (fun o => own_below hown3 ((Below.refl w3.heap.size w3).alloc (Nat.le_refl _) o) (fun k hk => (World.ownsRow.lt hown3 k hk).2))
       clear hown3 hgrow3)
    | (refine wpList_append_row rfl (.tmp 18) (.tmp 30) rfl rfl (H4.out _) rfl (own_four w3 q _ _ _ _ (by omega) (by omega) (by omega) (by omega)).row (by have := HL3.out; omega) (by have := hbel3.size; simp; omega) ?_
       intro v5 w5 hown5 hgrow5 _))
  have hbel5 := Below.grows (hbel3.alloc hbel3.size _) (by have := hbel3.size; simp; omega) (H4.out _) hgrow5
  go_ret2
  exact ⟨_, rfl, by rw [HF.out]; exact hown5, hbel5⟩

set_option maxRecDepth 100000 in
set_option maxHeartbeats 400000 in
theorem rfput_any (a : Option Addr) (n c : Nat) (zs : List Nat) (w : World) (h : Row .u8 w w.heap.size a n c zs) (hz : ∀ x ∈ zs, x < 256) (hn : n ≤ 1000000) :
    Calls Try.prog 8 #[.slice a n c] w fun e w' => ∃ v, e = .returned (.tuple #[v, .int .i64 0]) ∧ Own w' w.heap.size v (fr zs) ∧ Below w.heap.size w w' := by
  have hc := crc_lt zs
  have HF : Hid (fr zs = enc n ++ zs ++ four (crc zs)) := by unfold Hid fr; rw [h.1]
  have HL := Lib.hid h.1
  have HZ := Lib.hid hz
  clear hz
  have hle := (enc_len64 (n := n) (by omega)).2
  go_enter Try.func8, Try.ntmps8
  go_wp2_with fail
  refine (rput_one n w (by omega)).mono ?_
  rintro e w2 ⟨v, rfl, hown, hbel2⟩
  have HR := Lib.hid (h.below hbel2)
  clear h
  go_wp2_with (at_builtin; refine wpList_append_row rfl (.tmp 12) (.tmp 13) rfl rfl hown rfl HR.out (by omega) hbel2.size ?_; intro v3 w3 hown3 hgrow3 _)
  have hbel3 := Below.grows hbel2 hbel2.size hown hgrow3
  have HR3 := Lib.hid (HR.out.below (Below.grows (Below.refl _ w2) hbel2.size hown hgrow3))
  clear hgrow3 hown hbel2 HR
  have HK := Lib.hid (rcheck_any a n c _ zs w3 HR3.out HZ.out)
  have HL3 : Hid ((enc n ++ zs).length ≤ 1000010) := by unfold Hid; have := HL.out; rw [List.length_append]; omega
  generalize crc zs = q at HK hc HF
  go_wp2_with fail
  refine HK.out.mono ?_
  rintro e w4 ⟨rfl, rfl⟩
  go_wp2_with fail
  refine (rfour_any q w3 hc).mono ?_
  rintro e w4 ⟨v4, rfl, hown4, hbel4⟩
  obtain ⟨a4, c4, rfl, hr4⟩ := hown4.slice
  have hown5 : Own w4 w.heap.size v3 _ := own_below hown3 hbel4 (fun k hk => (World.ownsRow.lt hown3 k hk).2)
  have hbel5 : Below w.heap.size w w4 := hbel3.trans (hbel4.mono hbel3.size)
  clear hown3 hbel4 hown4 hbel3
  go_wp2_with (at_builtin; refine wpList_append_row rfl (.tmp 15) (.tmp 18) rfl rfl hown5 rfl hr4 (by have := HL3.out; simp only [four, List.length_cons, List.length_nil]; omega) hbel5.size ?_; intro v6 w6 hown6 hgrow6 _)
  have hbel6 := Below.grows hbel5 hbel5.size hown5 hgrow6
  go_ret2
  exact ⟨_, rfl, by rw [HF.out]; exact hown6, hbel6⟩
end Go.Proofs.Ytgeonmojadkbjaa.Vm
