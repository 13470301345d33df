/- Words for strings: a string's bytes as numbers (bytesOf), numbers as a string (strOf), and how these hang together. No function of the program is named here. -/
import Derived.Test.YtplnaaokapilpaaDoorWords
import Derived.Laws.BytesArg
namespace Go.Proofs.YtplnaaokapilpaaDoor.Vm
open Go.RowKit

/-- Bytes as a string. -/
def strOf (l : List Nat) : ByteArray := ⟨(l.map UInt8.ofNat).toArray⟩

/-- A string's bytes. -/
def bytesOf (s : ByteArray) : List Nat := s.data.toList.map UInt8.toNat
theorem bytesOf_len (s : ByteArray) : (bytesOf s).length = s.size := by simp [bytesOf]
theorem bytesOf_lt (s : ByteArray) : ∀ x ∈ bytesOf s, x < 256 := by
  intro x hx
  obtain ⟨b, _, rfl⟩ := List.mem_map.1 hx
  exact b.toNat_lt

theorem conv_zero {P : Program} (w : World) (src e : TypeId) (hs : P.underlying src = some (.slice e)) (he : P.underlying e = some (.int .u8)) (p : Option Addr) (c : Nat) (dst : TypeId)
    (hd : P.underlying dst = some .string) : (convert src dst (.slice p 0 c)).run P w = .ok (.string (strOf [])) w := by
  rw [run_convert_bytes_string w src dst e _ 0 c hs he hd]
  cases p <;> simp [Conv.bytesToString, loadCells] <;> rfl

/-- 'string(b)'. -/
theorem conv_row {P : Program} {w : World} {B : Nat} {a : Option Addr} {n c : Nat} {zs : List Nat} (src e dst : TypeId) (hs : P.underlying src = some (.slice e)) (he : P.underlying e = some (.int .u8))
    (hd : P.underlying dst = some .string) (h : Row .u8 w B a n c zs) : (convert src dst (.slice a n c)).run P w = .ok (.string (strOf zs)) w := by
  rcases Nat.eq_zero_or_pos n with h0 | h0
  · subst h0
    have hl := h.1
    obtain rfl := List.eq_nil_of_length_eq_zero hl
    exact conv_zero w src e hs he a c dst hd
  · obtain ⟨b, off, rfl, _, hc⟩ := h.cells h0
    have hr := run_convert_bytes_arg w src e hs he b off n c (zs.map fun z : Nat => (z : Int)) (by simpa using h.1) (fun i hi => by
      rw [hc i hi]
      have := h.1
      simp [List.getD, show i < zs.length by omega]) dst hd
    rw [hr]
    congr 2
    simp [strOfNums, strOf]


theorem strOf_bytesOf (s : ByteArray) : strOf (bytesOf s) = s := by
  unfold strOf bytesOf
  apply ByteArray.ext
  simp [Function.comp_def]
theorem bytesOf_strOf {l : List Nat} (h : ∀ x ∈ l, x < 256) : bytesOf (strOf l) = l := by
  unfold strOf bytesOf
  simp only [List.map_map]
  conv => rhs; rw [← List.map_id l]
  refine List.map_congr_left fun x hx => ?_
  have := h x hx
  simp
  omega
theorem bytesOf_at (s : ByteArray) (k : Nat) (h : k < s.size) : (bytesOf s).getD k 0 = (s[k]'h).toNat := by
  have h' : k < s.data.size := h
  simp [bytesOf, List.getD, Array.getElem?_eq_getElem h']
  rfl
theorem strOf_append (a b : List Nat) : strOf (a ++ b) = strOf a ++ strOf b := by
  apply ByteArray.ext
  simp [strOf]
theorem bytesOf_append (a b : ByteArray) : bytesOf (a ++ b) = bytesOf a ++ bytesOf b := by
  simp [bytesOf]
theorem strOf_size (l : List Nat) : (strOf l).size = l.length := by
  show (l.map UInt8.ofNat).toArray.size = _
  simp
theorem bytesOf_inj {a b : ByteArray} (h : bytesOf a = bytesOf b) : a = b := by rw [← strOf_bytesOf a, ← strOf_bytesOf b, h]
theorem bytesOf_extract (s : ByteArray) (a b : Nat) : bytesOf (s.extract a b) = ((bytesOf s).drop a).take (b - a) := by
  simp [bytesOf, List.map_drop, List.map_take]
end Go.Proofs.YtplnaaokapilpaaDoor.Vm
