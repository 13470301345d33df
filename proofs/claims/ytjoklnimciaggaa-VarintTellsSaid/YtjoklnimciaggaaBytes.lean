/- The contract of varint.Bytes: a length and the bytes behind it, in new memory. -/
import Derived.Test.YtjoklnimciaggaaPuts
import Derived.Lib.AppendStr
namespace Go.Proofs.Ytjoklnimciaggaa.Vm
open Go.RowKit

/-- A string's bytes. -/
def bytesOf (s : ByteArray) : List Nat := s.data.toList.map UInt8.toNat
theorem bytesOf_len (s : ByteArray) : (bytesOf s).length = s.size := by simp [bytesOf]
theorem bytesOf_lt (s : ByteArray) : ∀ x ∈ bytesOf s, x < 256 := by
  intro x hx
  obtain ⟨b, _, rfl⟩ := List.mem_map.1 hx
  exact b.toNat_lt
theorem strCells_u8s (s : ByteArray) : Lib.strCells s = u8s (bytesOf s) := by simp [Lib.strCells, u8s, bytesOf]

theorem Own.mono {w : World} {B B' : Nat} {v : Value} {l : List Nat} (h : Own w B v l) (hB : B' ≤ B) : Own w B' v l := by
  refine ⟨h.1, ?_⟩
  rcases h.2 with h2 | ⟨g, cap, cur, hv, hb, r⟩
  · exact .inl h2
  · exact .inr ⟨g, cap, cur, hv, by omega, r⟩

/-- One number in a new row. -/
theorem row_one (k : IntKind) (w : World) (x : Nat) (t : TypeId) : Row k (w.alloc (.cells #[.int k (x : Nat)] t)) (w.heap.size + 1) (some ⟨w.heap.size, 0, none⟩) 1 1 [x] :=
  ⟨rfl, Nat.le_refl _, by simp [maxLen], fun _ => ⟨_, 0, rfl, Nat.lt_succ_self _, fun i hi => by
    obtain rfl : i = 0 := by omega
    simp⟩⟩

set_option maxRecDepth 100000 in
set_option maxHeartbeats 400000 in
theorem bytes_any (s : ByteArray) (w : World) (hs : s.size ≤ 1099511627776) :
    Calls Try.prog 18 #[.string s] w fun e w' => ∃ v, e = .returned v ∧ Own w' w.heap.size v (enc s.size ++ bytesOf s) ∧ Below w.heap.size w w' := by
  obtain ⟨i0, hi0, hz0, hz1, hz2⟩ := info_parts info_u8
  have HP := Lib.hid fun t => put_any _ 1 1 [s.size] (w.alloc (.cells #[.int .u64 (s.size : Nat)] t)) ((row_one .u64 w s.size t).mono (by simp)) (by simp; omega) (by omega)
  go_enter Try.func18, Try.ntmps18
  go_wp2_with fail
  refine (HP.out _).mono ?_
  rintro e w1 ⟨v, rfl, hown, hbel⟩
  have hown := Own.mono hown (B' := w.heap.size) (by simp)
  have hbel : Below w.heap.size w w1 := ((Below.refl _ w).alloc (Nat.le_refl _) _).trans (hbel.mono (by simp))
  have he : encs [s.size] = enc s.size := by simp [encs]
  rw [he] at hown
  clear he
  have hle := (enc_len64 (n := s.size) (by omega)).2
  go_wp2_with (at_builtin; refine Lib.wpList_append_own_string _ rfl (.tmp 7) (.tmp 8) 22 9 rfl w.heap.size 5 i0 Try.underlying22 Try.underlying9 hi0 hz0 hz1 hz2 v _ _ rfl hown s rfl (by simp only [maxLen]; omega) (by omega) hbel.size ?_; intro v' w2 hown2 hgrow2 _)
  go_ret
  refine ⟨_, rfl, ?_, hbel.grown hgrow2 hbel.size (fun k hk => (World.ownsRow.lt hown k hk).1)⟩
  rw [strCells_u8s] at hown2
  unfold Own
  rw [List.length_append, bytesOf_len]
  simpa [u8s] using hown2
end Go.Proofs.Ytjoklnimciaggaa.Vm
