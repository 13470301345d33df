/- The program's names of files: nameOf at its two kinds, Seg and Snap. strconv's inner ParseUint at ten bytes and 31 bits. The program's Tick of a name, and strconv.ParseUint, which it asks. -/
import Derived.Test.YtplnaaokapilpaaDoorSegLays
import Derived.Lib.MinMax
import Derived.Laws.Concat
import Derived.Deep.DeepCutAuto
import Derived.Lib.ConvBytes
import Derived.Laws.Strings3
import Derived.Laws.Closers25
import Derived.Laws.Closers25b
import Derived.BigGuard
import Derived.Deep.LoopGhost
namespace Go.Proofs.YtplnaaokapilpaaDoor.Vm
open Go Go.RowKit
set_option maxRecDepth 100000

theorem tenF_zero : ∀ k, tenF k 0 = List.replicate k 48
  | 0 => rfl
  | k + 1 => by rw [tenF, show 0 / 10 = 0 from rfl, tenF_zero k, List.replicate_succ']
theorem tenF_digits : ∀ (k n : Nat), n < 10 ^ (k + 1) → tenF (k + 1) n = List.replicate (k + 1 - Lib.nDigits n) 48 ++ (Lib.decDigits n).map UInt8.toNat
  | 0, n, h => by
    have h : n < 10 := by simpa using h
    rw [Lib.nDigits_small h, Lib.decDigits_one h]
    simp only [tenF, List.nil_append, Nat.sub_self, List.replicate_zero, List.map_cons, List.map_nil, Nat.zero_add]
    rw [UInt8.toNat_ofNat_of_lt' (by show 48 + n < 256; omega), Nat.mod_eq_of_lt h]
  | k + 1, n, h => by
    by_cases h10 : n < 10
    · rw [Lib.nDigits_small h10, Lib.decDigits_one h10, tenF, show n / 10 = 0 by omega, tenF_zero]
      simp only [List.map_cons, List.map_nil]
      rw [UInt8.toNat_ofNat_of_lt' (by show 48 + n < 256; omega), Nat.mod_eq_of_lt h10]
      rfl
    · have hp : n / 10 < 10 ^ (k + 1) := by rw [Nat.pow_succ] at h; omega
      have ih := tenF_digits k (n / 10) hp
      have hd : Lib.decDigits n = Lib.decDigits (n / 10) ++ [UInt8.ofNat (48 + n % 10)] := by rw [Lib.decDigits, dif_neg h10]
      rw [tenF, ih, Lib.nDigits_big h10, hd, List.map_append, List.append_assoc]
      simp only [List.map_cons, List.map_nil]
      rw [UInt8.toNat_ofNat_of_lt' (by show 48 + n % 10 < 256; omega), show k + 1 + 1 - (Lib.nDigits (n / 10) + 1) = k + 1 - Lib.nDigits (n / 10) by omega]
theorem nDigits_le {n : Nat} (h : n ≤ 2147483647) : Lib.nDigits n ≤ 10 := by
  have h1 := Lib.nDigits_pos n
  by_cases h2 : Lib.nDigits n ≤ 10
  · exact h2
  · exfalso
    have key : ∀ (k m : Nat), m < 10 ^ (k + 1) → Lib.nDigits m ≤ k + 1 := by
      intro k
      induction k with
      | zero => intro m hm; rw [Lib.nDigits_small (by simpa using hm)]; omega
      | succ k ih =>
        intro m hm
        by_cases h10 : m < 10
        · rw [Lib.nDigits_small h10]; omega
        · rw [Lib.nDigits_big h10]
          have := ih (m / 10) (by rw [Nat.pow_succ] at hm; omega)
          omega
    have := key 9 n (by omega)
    omega
theorem repeat_zero : ∀ c, (Lib.repeatL [48] c).map UInt8.toNat = List.replicate c 48
  | 0 => rfl
  | c + 1 => by
    have ih := repeat_zero c
    rw [Lib.repeatL, List.map_append, ih, List.replicate_succ]
    rfl
theorem bytesOf_list (l : List UInt8) : bytesOf ⟨l.toArray⟩ = l.map UInt8.toNat := by simp [bytesOf]
theorem digitsOf (n : Nat) : Lib.itoa (n : Int) = Lib.decDigits n := Lib.itoa_nonneg n
/-- A prefix, zeros and digits are the name. -/
theorem nameIs (pre : List Nat) (n : Nat) (h : n ≤ 2147483647) (hp : ∀ x ∈ pre, x < 256) : (strOf pre ++ ⟨(Lib.repeatL [48] (10 - Lib.nDigits n)).toArray⟩) ++ (⟨(Lib.decDigits n).toArray⟩ : ByteArray) = strOf (pre ++ tenF 10 n) := by
  apply bytesOf_inj
  rw [bytesOf_append, bytesOf_append, bytesOf_strOf hp, bytesOf_list, bytesOf_list, repeat_zero, bytesOf_strOf, List.append_assoc, tenF_digits 9 n (by omega)]
  intro x hx
  rcases List.mem_append.1 hx with hx | hx
  · exact hp x hx
  · have := tenF_dig 10 n x hx; omega
set_option maxHeartbeats 1000000 in
theorem nameOf_seg (n : Nat) (w : World) (hn : n ≤ 2147483647) (hL : Laid14 w) :
    Calls Tryd.prog 20 #[.int .i64 1, .int .i64 n] w fun e w' => e = .returned (.string (strOf (segB ++ tenF 10 n))) ∧ Below w.heap.size w w' := by
  have hi := itoa14 n w hn hL
  rw [digitsOf] at hi
  have hdl : (⟨(Lib.decDigits n).toArray⟩ : ByteArray).size = Lib.nDigits n := by rw [← Lib.decDigits_length]; rfl
  have h10 := nDigits_le hn
  have h0 := Lib.nDigits_pos n
  have hname := nameIs segB n hn (by decide)
  have hz : (⟨(Lib.repeatL [48] (10 - Lib.nDigits n)).toArray⟩ : ByteArray).size = 10 - Lib.nDigits n := by
    show (Lib.repeatL [48] (10 - Lib.nDigits n)).toArray.size = _
    simp [Lib.repeatL_length]
  have HRP := Lib.hid (fun V => repeat14 ⟨#[48]⟩ (10 - Lib.nDigits n) V (by omega) (by decide))
  have hps : (strOf segB).size ≤ 5 := by decide
  have HPC := Lib.hid (fun V (hV : Below w.heap.size w V) => (hL.below hV).pre0)
  have HI := Lib.hid hi
  clear hi hL
  obtain ⟨D, hD⟩ : ∃ D : ByteArray, D = ⟨(Lib.decDigits n).toArray⟩ := ⟨_, rfl⟩
  obtain ⟨k, hk⟩ : ∃ k, Lib.nDigits n = k := ⟨_, rfl⟩
  have e48 : (⟨#[48]⟩ : ByteArray).data.toList = [48] := rfl
  rw [e48] at HRP
  rw [hk] at hdl h10 h0 hz HRP hname
  obtain ⟨Z, hZ⟩ : ∃ Z : ByteArray, Z = ⟨(Lib.repeatL [48] (10 - k)).toArray⟩ := ⟨_, rfl⟩
  rw [← hD] at hdl HI hname
  rw [← hZ] at hz HRP hname
  obtain ⟨pre, hpre⟩ : ∃ p : ByteArray, p = strOf segB := ⟨_, rfl⟩
  rw [← hpre] at hps HPC hname
  have HNM := Lib.hid hname
  clear hname hD hZ hk hpre
  have hw10 : IntKind.i64.wrap (10 - (k : Int)) = 10 - (k : Int) := by rw [IntKind.wrap_i64]; omega
  obtain ⟨c, hc⟩ : ∃ c, 10 - k = c := ⟨_, rfl⟩
  have hck : (10 : Int) - (k : Int) = (c : Int) := by omega
  rw [hc] at HRP hz
  have hmx : (if 0 < (c : Int) then (c : Int) else 0) = (c : Int) := by split <;> omega
  have hcz : (D.size : Int) = (k : Int) := by omega
  have HDS := Lib.hid hdl
  have HZS := Lib.hid hz
  have HPS := Lib.hid hps
  have HK := Lib.hid (show k ≤ 10 ∧ c ≤ 10 by omega)
  rw [hck] at hw10
  go_enter Tryd.func20, Tryd.ntmps20
  go_wp2_with fail
  refine HI.out.mono ?_
  rintro e w1 ⟨rfl, hb1⟩
  have HB1 := Lib.hid hb1
  have HR1 := Lib.hid (HRP.out w1)
  clear hb1 HI
  go_wp2_with fail
  refine HR1.out.mono ?_
  rintro e w2 ⟨rfl, hb2⟩
  have HB2 := Lib.hid (HB1.out.trans (hb2.mono HB1.out.size))
  have p0 := HPC.out w2 HB2.out
  have z1 : ¬ (pre.size + Z.size > 9223372036854775807) := by have := HZS.out; have := HPS.out; have := HK.out; omega
  have z2 : ¬ (pre.size + Z.size + D.size > 9223372036854775807) := by have := HZS.out; have := HPS.out; have := HDS.out; have := HK.out; omega
  clear hb2 HRP HR1 hdl hz hps
  go_wp2_with fail
  go_ret
  exact ⟨by rw [HNM.out]; rfl, HB2.out⟩
set_option maxHeartbeats 1000000 in
theorem nameOf_snap (n : Nat) (w : World) (hn : n ≤ 2147483647) (hL : Laid14 w) :
    Calls Tryd.prog 20 #[.int .i64 2, .int .i64 n] w fun e w' => e = .returned (.string (strOf (snapB ++ tenF 10 n))) ∧ Below w.heap.size w w' := by
  have hi := itoa14 n w hn hL
  rw [digitsOf] at hi
  have hdl : (⟨(Lib.decDigits n).toArray⟩ : ByteArray).size = Lib.nDigits n := by rw [← Lib.decDigits_length]; rfl
  have h10 := nDigits_le hn
  have h0 := Lib.nDigits_pos n
  have hname := nameIs snapB n hn (by decide)
  have hz : (⟨(Lib.repeatL [48] (10 - Lib.nDigits n)).toArray⟩ : ByteArray).size = 10 - Lib.nDigits n := by
    show (Lib.repeatL [48] (10 - Lib.nDigits n)).toArray.size = _
    simp [Lib.repeatL_length]
  have HRP := Lib.hid (fun V => repeat14 ⟨#[48]⟩ (10 - Lib.nDigits n) V (by omega) (by decide))
  have hps : (strOf snapB).size ≤ 5 := by decide
  have HPC := Lib.hid (fun V (hV : Below w.heap.size w V) => (hL.below hV).pre1)
  have HI := Lib.hid hi
  clear hi hL
  obtain ⟨D, hD⟩ : ∃ D : ByteArray, D = ⟨(Lib.decDigits n).toArray⟩ := ⟨_, rfl⟩
  obtain ⟨k, hk⟩ : ∃ k, Lib.nDigits n = k := ⟨_, rfl⟩
  have e48 : (⟨#[48]⟩ : ByteArray).data.toList = [48] := rfl
  rw [e48] at HRP
  rw [hk] at hdl h10 h0 hz HRP hname
  obtain ⟨Z, hZ⟩ : ∃ Z : ByteArray, Z = ⟨(Lib.repeatL [48] (10 - k)).toArray⟩ := ⟨_, rfl⟩
  rw [← hD] at hdl HI hname
  rw [← hZ] at hz HRP hname
  obtain ⟨pre, hpre⟩ : ∃ p : ByteArray, p = strOf snapB := ⟨_, rfl⟩
  rw [← hpre] at hps HPC hname
  have HNM := Lib.hid hname
  clear hname hD hZ hk hpre
  have hw10 : IntKind.i64.wrap (10 - (k : Int)) = 10 - (k : Int) := by rw [IntKind.wrap_i64]; omega
  obtain ⟨c, hc⟩ : ∃ c, 10 - k = c := ⟨_, rfl⟩
  have hck : (10 : Int) - (k : Int) = (c : Int) := by omega
  rw [hc] at HRP hz
  have hmx : (if 0 < (c : Int) then (c : Int) else 0) = (c : Int) := by split <;> omega
  have hcz : (D.size : Int) = (k : Int) := by omega
  have HDS := Lib.hid hdl
  have HZS := Lib.hid hz
  have HPS := Lib.hid hps
  have HK := Lib.hid (show k ≤ 10 ∧ c ≤ 10 by omega)
  rw [hck] at hw10
  go_enter Tryd.func20, Tryd.ntmps20
  go_wp2_with fail
  refine HI.out.mono ?_
  rintro e w1 ⟨rfl, hb1⟩
  have HB1 := Lib.hid hb1
  have HR1 := Lib.hid (HRP.out w1)
  clear hb1 HI
  go_wp2_with fail
  refine HR1.out.mono ?_
  rintro e w2 ⟨rfl, hb2⟩
  have HB2 := Lib.hid (HB1.out.trans (hb2.mono HB1.out.size))
  have p0 := HPC.out w2 HB2.out
  have z1 : ¬ (pre.size + Z.size > 9223372036854775807) := by have := HZS.out; have := HPS.out; have := HK.out; omega
  have z2 : ¬ (pre.size + Z.size + D.size > 9223372036854775807) := by have := HZS.out; have := HPS.out; have := HDS.out; have := HK.out; omega
  clear hb2 HRP HR1 hdl hz hps
  go_wp2_with fail
  go_ret
  exact ⟨by rw [HNM.out]; rfl, HB2.out⟩
theorem seg_any (n : Nat) (w : World) (hn : n ≤ 2147483647) (hL : Laid14 w) : Calls Tryd.prog 6 #[.int .i64 n] w fun e w' => e = .returned (.string (strOf (segS n))) ∧ Below w.heap.size w w' := by
  have HN := Lib.hid (nameOf_seg n w hn hL)
  clear hL
  go_enter Tryd.func6, Tryd.ntmps6
  go_wp2_with fail
  refine HN.out.mono ?_
  rintro e w1 ⟨rfl, hb1⟩
  have HB := Lib.hid hb1
  clear hb1 HN
  generalize hs : strOf (segB ++ tenF 10 n) = s
  have HS : Hid (strOf (segS n) = s) := hs
  clear hs
  go_wp2_with fail
  go_ret
  exact ⟨by rw [HS.out]; rfl, HB.out⟩
theorem snap_any (n : Nat) (w : World) (hn : n ≤ 2147483647) (hL : Laid14 w) : Calls Tryd.prog 7 #[.int .i64 n] w fun e w' => e = .returned (.string (strOf (snapS n))) ∧ Below w.heap.size w w' := by
  have HN := Lib.hid (nameOf_snap n w hn hL)
  clear hL
  go_enter Tryd.func7, Tryd.ntmps7
  go_wp2_with fail
  refine HN.out.mono ?_
  rintro e w1 ⟨rfl, hb1⟩
  have HB := Lib.hid hb1
  clear hb1 HN
  generalize hs : strOf (snapB ++ tenF 10 n) = s
  have HS : Hid (strOf (snapS n) = s) := hs
  clear hs
  go_wp2_with fail
  go_ret
  exact ⟨by rw [HS.out]; rfl, HB.out⟩
end Go.Proofs.YtplnaaokapilpaaDoor.Vm

namespace Go.Proofs.YtplnaaokapilpaaDoor.Vm
open Go Go.RowKit
set_option maxRecDepth 100000

/-- Digits whose number is a tick. -/
def Fits14 (l : List Nat) : Prop := (∀ x ∈ l, 48 ≤ x ∧ x ≤ 57) ∧ valF 0 l ≤ 2147483647
theorem valF_append (n : Nat) (a b : List Nat) : valF n (a ++ b) = valF (valF n a) b := by simp [valF, List.foldl_append]
theorem valF_ge : ∀ (l : List Nat) (n : Nat), n ≤ valF n l
  | [], _ => Nat.le_refl _
  | x :: l, n => by
    have h := valF_ge l (10 * n + (x - 48))
    have e : valF n (x :: l) = valF (10 * n + (x - 48)) l := rfl
    rw [e]
    omega
theorem valF_takes {l : List Nat} {k : Nat} (hk : k < l.length) : valF 0 (l.take (k + 1)) = 10 * valF 0 (l.take k) + (l.getD k 0 - 48) := by
  rw [List.take_add_one, List.getElem?_eq_getElem hk]
  simp only [Option.toList_some]
  rw [valF_snoc]
  simp [List.getD, hk]
theorem valF_le (l : List Nat) (k : Nat) : valF 0 (l.take k) ≤ valF 0 l := by
  have h := valF_append 0 (l.take k) (l.drop k)
  rw [List.take_append_drop] at h
  rw [h]
  exact valF_ge _ _
theorem fits_digit {l : List Nat} {k : Nat} (hk : k < l.length) (h : ¬ (48 ≤ l.getD k 0 ∧ l.getD k 0 ≤ 57)) : ¬ Fits14 l := fun hf => h (hf.1 _ (by simp [List.getD, hk]))
theorem fits_much {l : List Nat} {k : Nat} (hk : k < l.length) (h : 2147483647 < 10 * valF 0 (l.take k) + (l.getD k 0 - 48)) : ¬ Fits14 l := fun hf => by
  have h1 := valF_le l (k + 1)
  rw [valF_takes hk] at h1
  have := hf.2
  omega
def PinPost (w : World) (l : List Nat) (e : Ending) (w' : World) : Prop :=
  ((Fits14 l ∧ e = .returned (.tuple #[.int .u64 (valF 0 l : Nat), .nilIface])) ∨ (¬ Fits14 l ∧ ∃ u x : Int, (x = 1 ∨ x = 2) ∧ e = .returned (.tuple #[.int .u64 u, .iface 109 (.int .i64 x)]))) ∧ Below w.heap.size w w'
theorem pin_no {w w' : World} {l : List Nat} {u x : Int} (h : ¬ Fits14 l) (hx : x = 1 ∨ x = 2) (hb : Below w.heap.size w w') : PinPost w l (.returned (.tuple #[.int .u64 u, .iface 109 (.int .i64 x)])) w' := ⟨.inr ⟨h, u, x, hx, rfl⟩, hb⟩
set_option maxHeartbeats 8000000 in
theorem pin14 (t : ByteArray) (w : World) (hs : t.size = 10) :
    Calls Tryd.prog 38 #[.string t, .int .i64 10, .int .i64 31] w (PinPost w (bytesOf t)) := by
  have hcv := Lib.run_convert_string_bytes (P := Tryd.prog) w 9 27 5 t (u := .string) Tryd.underlying9 Tryd.underlying27 Tryd.underlying5
  have hemp : t.toList.isEmpty = false := by
    rw [ByteArray.toList_eq]
    cases h : t.data.toList with
    | nil =>
      have : t.size = 0 := by show t.data.size = 0; rw [← Array.length_toList, h]; rfl
      omega
    | cons x l => rfl
  have hB : ∀ j, j < 10 → (Lib.bytesWorld w 5 t).cell? ⟨w.heap.size, j, none⟩ = some (.int .u8 ((bytesOf t).getD j 0 : Nat)) := fun j hj => by
    rw [Lib.bytesWorld_cell w 5 t j (by omega)]
    unfold bytesOf
    have hj2 : j < t.data.size := by show j < t.size; omega
    simp [List.getD, Array.getElem?_eq_getElem hj2]
  have hb1 := Lib.bytesWorld_below w 5 t
  have hln : (bytesOf t).length = 10 := by rw [bytesOf_len, hs]
  have hlt := bytesOf_lt t
  rw [hs] at hcv
  obtain ⟨W1, hW1⟩ : ∃ W1, W1 = Lib.bytesWorld w 5 t := ⟨_, rfl⟩
  rw [← hW1] at hcv hB hb1
  clear hW1
  obtain ⟨bs, hL⟩ : ∃ bs, bs = bytesOf t := ⟨_, rfl⟩
  rw [← hL] at hB hln hlt ⊢
  have HB1 := Lib.hid hb1
  have HLN := Lib.hid hln
  have HLT := Lib.hid hlt
  have HBC := Lib.hid hB
  clear hL hb1 hln hlt hB
  have hmv : IntKind.u64.wrap (IntKind.u64.wrap 2147483648 - 1) = 2147483647 := by
    rw [IntKind.wrap_u64, IntKind.wrap_u64]
    decide
  go_enter Tryd.func38, Tryd.ntmps38
  go_wp2_with fail
  go_loopg [12, 13, 101] 10 (fun gg vu vn vi wr => ∃ (k : Nat) (a : Int), k + gg = 10 ∧ vu = .bool false ∧ vn = .int .u64 a ∧ vi = .int .i64 k ∧ wr = W1 ∧ (0 ≤ a ∧ a ≤ 2147483647) ∧ Hid (a = (valF 0 (bs.take k) : Nat) ∧ ∀ j, j < k → 48 ≤ bs.getD j 0 ∧ bs.getD j 0 ≤ 57))
  case atStart => exact ⟨0, 0, by omega, rfl, rfl, rfl, rfl, by omega, rfl, fun j hj => absurd hj (Nat.not_lt_zero j)⟩
  case round =>
    obtain ⟨k, a, hkg, rfl, rfl, rfl, rfl, ⟨a0, a1⟩, HA⟩ := hrel
    by_cases hk : k < 10
    · have hki : (k : Int) < 10 := by omega
      have hc := HBC.out k hk
      have hkl : k < bs.length := by rw [HLN.out]; exact hk
      have HND := Lib.hid (fun h => fits_digit (l := bs) hkl h)
      have HNM := Lib.hid (fun h => fits_much (l := bs) hkl h)
      have HVT := Lib.hid (valF_takes (l := bs) hkl)
      have hc256 : bs.getD k 0 < 256 := HLT.out _ (by simp [List.getD, hkl])
      have HDG : Hid (48 ≤ bs.getD k 0 ∧ bs.getD k 0 ≤ 57 → ∀ j, j < k + 1 → 48 ≤ bs.getD j 0 ∧ bs.getD j 0 ≤ 57) := fun hd j hj => by
        by_cases h : j < k
        · exact HA.out.2 j h
        · obtain rfl : j = k := by omega
          exact hd
      generalize bs.getD k 0 = c at hc HND HNM HVT hc256 HDG
      clear hkl
      by_cases hdig : 48 ≤ c ∧ c ≤ 57
      · obtain ⟨hd0, hd1⟩ := hdig
        have HDN := Lib.hid (HDG.out ⟨hd0, hd1⟩)
        by_cases hov : 2147483647 < a * 10 + ((c : Int) - 48)
        · have HF := Lib.hid (pin_no (w := w) (u := 2147483647) (x := 1) (HNM.out (by have := HA.out.1; omega)) (.inl rfl) HB1.out)
          clear HND HNM HVT HDG HDN HA
          go_wp2_with fail
          exact bodyPost_ret (v := .tuple #[.int .u64 2147483647, .iface 109 (.int .i64 1)]) (by simp [results, Tryd.results38, go_sem]) rfl HF.out
        · have iov : a * 10 + ((c : Int) - 48) ≤ 2147483647 := by omega
          have HAN : Hid (a * 10 + ((c : Int) - 48) = (valF 0 (bs.take (k + 1)) : Nat)) := by
            unfold Hid
            rw [HVT.out]
            have := HA.out.1
            omega
          have hn0 : 0 ≤ a * 10 + ((c : Int) - 48) := by omega
          clear HND HNM HVT HDG HA hov
          go_wp2_with fail
          go_roundg (gk - 1)
          case rel => exact ⟨k + 1, a * 10 + ((c : Int) - 48), by omega, rfl, by first | rfl | (congr 1; omega), by first | rfl | go_num, rfl, ⟨hn0, iov⟩, HAN.out, HDN.out⟩
          case measure => omega
      · have HF := Lib.hid (pin_no (w := w) (u := 0) (x := 2) (HND.out hdig) (.inr rfl) HB1.out)
        have hv0 := bits_lo_u8 .or (c : Int) 32
        have hv1 := bits_hi_u8 .or (c : Int) 32
        have hu0 := bits_lo_u8 .or 95 32
        have hu1 := bits_hi_u8 .or 95 32
        clear HND HNM HVT HDG HA
        go_wp2_with (go_at_call 60; refine (lower14 _ _).mono ?_; rintro e w' ⟨rfl, rfl⟩)
        all_goals exact bodyPost_ret (v := .tuple #[.int .u64 0, .iface 109 (.int .i64 2)]) (by simp [results, Tryd.results38, go_sem]) rfl HF.out
    · obtain rfl : k = 10 := by omega
      have HF : Hid (PinPost w bs (.returned (.tuple #[.int .u64 a, .nilIface])) wr) := by
        have ht : bs.take 10 = bs := List.take_of_length_le (by rw [HLN.out]; exact Nat.le_refl _)
        have h := HA.out
        rw [ht] at h
        refine ⟨.inl ⟨⟨fun x hx => ?_, by omega⟩, by rw [h.1]⟩, HB1.out⟩
        obtain ⟨j, hj, rfl⟩ := List.getElem_of_mem hx
        have := h.2 j (by rw [HLN.out] at hj; exact hj)
        simpa [List.getD, hj] using this
      clear HA
      go_wp2_with fail
      exact bodyPost_ret (v := .tuple #[.int .u64 a, .nilIface]) (by simp [results, Tryd.results38, go_sem]) rfl HF.out

end Go.Proofs.YtplnaaokapilpaaDoor.Vm

namespace Go.Proofs.YtplnaaokapilpaaDoor.Vm
open Go Go.RowKit
set_option maxRecDepth 100000

/-! The public one, and Tick. -/
def PuPost (w : World) (l : List Nat) (e : Ending) (w' : World) : Prop :=
  ((Fits14 l ∧ e = .returned (.tuple #[.int .u64 (valF 0 l : Nat), .nilIface])) ∨ (¬ Fits14 l ∧ ∃ (u : Int) (t : TypeId) (v : Value), e = .returned (.tuple #[.int .u64 u, .iface t v]))) ∧ Below w.heap.size w w'
set_option maxHeartbeats 2000000 in
theorem pu14 (s : ByteArray) (w : World) (hs : s.size = 10) (hL : Laid14 w) :
    Calls Tryd.prog 22 #[.string s, .int .i64 10, .int .i64 31] w (PuPost w (bytesOf s)) := by
  have HP := Lib.hid (pin14 s w hs)
  have HSY := Lib.hid (fun V (hV : Below w.heap.size w V) (fn : ByteArray) => syntax14 fn s 10 31 V (by omega) (hL.below hV))
  have HRG := Lib.hid (fun V (hV : Below w.heap.size w V) (fn : ByteArray) => range14 fn s 10 31 V (by omega) (hL.below hV))
  clear hL
  generalize bytesOf s = l at *
  go_enter Tryd.func22, Tryd.ntmps22
  go_wp2_with fail
  refine HP.out.mono ?_
  rintro e w1 ⟨hd, hb1⟩
  have HB1 := Lib.hid hb1
  clear hb1 HP
  rcases hd with ⟨hf, rfl⟩ | ⟨hf, u, x, hx, rfl⟩
  · have HF : Hid (PuPost w l (.returned (.tuple #[.int .u64 (valF 0 l : Nat), .nilIface])) w1) := ⟨.inl ⟨hf, rfl⟩, HB1.out⟩
    clear hf
    generalize valF 0 l = V at *
    go_wp2_with fail
    exact bodyPost_ret (v := .tuple #[.int .u64 (V : Nat), .nilIface]) (by simp [results, Tryd.results22, go_sem]) rfl HF.out
  · have HNF := Lib.hid hf
    clear hf
    rcases hx with rfl | rfl
    · have HC := Lib.hid (HRG.out w1 HB1.out ⟨#[80, 97, 114, 115, 101, 85, 105, 110, 116]⟩)
      go_wp2_with fail
      refine HC.out.mono ?_
      rintro e w2 ⟨⟨te, ve, rfl⟩, hb2⟩
      have HF : Hid (PuPost w l (.returned (.tuple #[.int .u64 u, .iface te ve])) w2) := ⟨.inr ⟨HNF.out, u, te, ve, rfl⟩, HB1.out.trans (hb2.mono HB1.out.size)⟩
      clear hb2
      go_wp2_with fail
      exact bodyPost_ret (v := .tuple #[.int .u64 u, .iface te ve]) (by simp [results, Tryd.results22, go_sem]) rfl HF.out
    · have HC := Lib.hid (HSY.out w1 HB1.out ⟨#[80, 97, 114, 115, 101, 85, 105, 110, 116]⟩)
      go_wp2_with fail
      refine HC.out.mono ?_
      rintro e w2 ⟨⟨te, ve, rfl⟩, hb2⟩
      have HF : Hid (PuPost w l (.returned (.tuple #[.int .u64 u, .iface te ve])) w2) := ⟨.inr ⟨HNF.out, u, te, ve, rfl⟩, HB1.out.trans (hb2.mono HB1.out.size)⟩
      clear hb2
      go_wp2_with fail
      exact bodyPost_ret (v := .tuple #[.int .u64 u, .iface te ve]) (by simp [results, Tryd.results22, go_sem]) rfl HF.out

def Hit0 (l : List Nat) : Prop := l.take 4 = segB ∧ (l.drop 4).length = 10 ∧ Fits14 (l.drop 4)
def Hit1 (l : List Nat) : Prop := l.take 5 = snapB ∧ (l.drop 5).length = 10 ∧ Fits14 (l.drop 5)
theorem fits_all {l : List Nat} : Fits14 l ↔ l.all isDig = true ∧ valF 0 l ≤ 2147483647 := by
  unfold Fits14
  rw [List.all_eq_true]
  constructor
  · exact fun h => ⟨fun x hx => decide_eq_true (h.1 x hx), h.2⟩
  · exact fun h => ⟨fun x hx => of_decide_eq_true (h.1 x hx), h.2⟩
theorem tickN_one {l : List Nat} (h : Hit0 l) : tickN l = (1, ((valF 0 (l.drop 4) : Nat) : Int)) := by
  obtain ⟨h1, h2, h3⟩ := h
  rw [fits_all] at h3
  have hl : l.length = 14 := by rw [List.length_drop] at h2; omega
  have hk : kindS l = (1, l.drop 4) := by
    unfold kindS
    rw [if_neg (by omega), if_pos ⟨hl, h1⟩]
  unfold tickN
  simp only [hk]
  rw [h3.1, if_neg (by simp), if_neg (by omega)]
theorem tickN_two {l : List Nat} (h : Hit1 l) : tickN l = (2, ((valF 0 (l.drop 5) : Nat) : Int)) := by
  obtain ⟨h1, h2, h3⟩ := h
  rw [fits_all] at h3
  have hl : l.length = 15 := by rw [List.length_drop] at h2; omega
  have hk : kindS l = (2, l.drop 5) := by
    unfold kindS
    rw [if_pos ⟨hl, h1⟩]
  unfold tickN
  simp only [hk]
  rw [h3.1, if_neg (by simp), if_neg (by omega)]
theorem tickN_none {l : List Nat} (h0 : ¬ Hit0 l) (h1 : ¬ Hit1 l) : tickN l = (0, 0) := by
  unfold Hit0 at h0
  unfold Hit1 at h1
  rw [fits_all] at h0 h1
  unfold tickN kindS
  by_cases c1 : l.length = 15 ∧ l.take 5 = snapB
  · simp only [if_pos c1]
    by_cases d1 : (l.drop 5).all isDig = true
    · rw [d1, if_neg (by simp), if_pos (.inr (by
        rcases Nat.lt_or_ge 2147483647 (valF 0 (l.drop 5)) with g | g
        · exact g
        · exact absurd ⟨c1.2, by rw [List.length_drop]; omega, d1, g⟩ h1))]
    · rw [if_pos (by simpa using d1)]
  · simp only [if_neg c1]
    by_cases c0 : l.length = 14 ∧ l.take 4 = segB
    · simp only [if_pos c0]
      by_cases d1 : (l.drop 4).all isDig = true
      · rw [d1, if_neg (by simp), if_pos (.inr (by
          rcases Nat.lt_or_ge 2147483647 (valF 0 (l.drop 4)) with g | g
          · exact g
          · exact absurd ⟨c0.2, by rw [List.length_drop]; omega, d1, g⟩ h0))]
      · rw [if_pos (by simpa using d1)]
    · simp only [if_neg c0]
      simp
theorem hasP {s : List UInt8} {l p : List Nat} (hs : s.map UInt8.toNat = l) (hp : ∀ x ∈ p, x < 256) : (Lib.hasPrefix s (p.map UInt8.ofNat) = true ↔ l.take p.length = p) := by
  unfold Lib.hasPrefix
  rw [List.isPrefixOf_iff_prefix, List.prefix_iff_eq_take, List.length_map]
  have hm : (p.map UInt8.ofNat).map UInt8.toNat = p := by
    rw [List.map_map]
    conv => rhs; rw [← List.map_id p]
    exact List.map_congr_left fun x hx => UInt8.toNat_ofNat_of_lt' (hp x hx)
  constructor
  · intro h
    have := congrArg (List.map UInt8.toNat) h
    rw [hm, List.map_take, hs] at this
    exact this.symm
  · intro h
    have h2 : (s.take p.length).map UInt8.toNat = p := by rw [List.map_take, hs]; exact h
    have h3 := congrArg (List.map UInt8.ofNat) h2
    rw [List.map_map] at h3
    rw [← h3]
    conv => rhs; rw [← List.map_id (s.take p.length)]
    exact List.map_congr_left fun x _ => by simp
/-- CutPrefix of a name at one of the two prefixes. -/
theorem cutP (s : ByteArray) (p : List Nat) (hp : ∀ x ∈ p, x < 256) (w : World) : Calls Tryd.prog 21 #[.string s, .string (strOf p)] w fun e w' => (∃ (d : ByteArray) (b : Bool), e = .returned (.tuple #[.string d, .bool b]) ∧ (b = true ↔ (bytesOf s).take p.length = p) ∧ (b = true → bytesOf d = (bytesOf s).drop p.length) ∧ d.size ≤ s.size) ∧ w' = w :=
  (cut14 s (strOf p) w).mono fun e w' ⟨he, hw⟩ => by
    have hd : (strOf p).data.toList = p.map UInt8.ofNat := by simp [strOf]
    rw [hd] at he
    have h1 := hasP (s := s.data.toList) (l := bytesOf s) rfl hp
    refine ⟨⟨_, _, he, h1, fun hb => ?_, ?_⟩, hw⟩
    · unfold Lib.trimPrefix
      rw [if_pos hb]
      simp [bytesOf]
    · show (Lib.trimPrefix s.data.toList (p.map UInt8.ofNat)).toArray.size ≤ s.size
      unfold Lib.trimPrefix
      have : s.size = s.data.toList.length := by show s.data.size = _; rw [Array.length_toList]
      split
      · simp only [List.size_toArray, List.length_drop]; omega
      · simp only [List.size_toArray]; omega
theorem idx14 (a b : ByteArray) : (∀ V, (Instr.index 53 (.agg #[.string a, .string b]) (.int .i64 0)).run Tryd.prog V = .ok (.string a) V) ∧ (∀ V, (Instr.index 53 (.agg #[.string a, .string b]) (.int .i64 1)).run Tryd.prog V = .ok (.string b) V) := ⟨fun V => by kernel_rfl, fun V => by kernel_rfl⟩
set_option maxHeartbeats 4000000 in
theorem tick_any (s : ByteArray) (w : World) (hs : s.size ≤ 100) (hL : Laid14 w) :
    Calls Tryd.prog 8 #[.string s] w fun e w' => e = .returned (.tuple #[.int .i64 (tickN (bytesOf s)).1, .int .i64 (tickN (bytesOf s)).2]) ∧ Below w.heap.size w w' := by
  have HCT := Lib.hid (fun (p : List Nat) (hp : ∀ x ∈ p, x < 256) (V : World) => cutP s p hp V)
  have HPU := Lib.hid (fun (d : ByteArray) (V : World) (hV : Below w.heap.size w V) (hd : d.size = 10) => pu14 d V hd (hL.below hV))
  have HT1 := Lib.hid (fun h => tickN_one (l := bytesOf s) h)
  have HT2 := Lib.hid (fun h => tickN_two (l := bytesOf s) h)
  have HT0 := Lib.hid (fun h h' => tickN_none (l := bytesOf s) h h')
  have p0 := hL.pre0
  have p1 := hL.pre1
  have HC0 := Lib.hid (HCT.out segB (by decide))
  have HC1 := Lib.hid (HCT.out snapB (by decide))
  simp only [show segB.length = 4 from rfl] at HC0
  simp only [show snapB.length = 5 from rfl] at HC1
  clear hL HCT
  generalize tickN (bytesOf s) = T at *
  generalize hl : bytesOf s = l at *
  clear hl
  obtain ⟨pre0, hp0⟩ : ∃ p, p = strOf segB := ⟨_, rfl⟩
  obtain ⟨pre1, hp1⟩ : ∃ p, p = strOf snapB := ⟨_, rfl⟩
  rw [← hp0] at p0 HC0
  rw [← hp1] at p1 HC1
  clear hp0 hp1
  obtain ⟨x0, x1⟩ := idx14 pre0 pre1
  go_enter Tryd.func8, Tryd.ntmps8
  go_wp2_with fail
  go_loopg [11] 2 (fun gg v11 wr => ∃ (k : Nat) (i : Int), k + gg = 2 ∧ v11 = .int .i64 i ∧ (k : Int) = i ∧ Hid (1 ≤ k → ¬ Hit0 l) ∧ Hid (2 ≤ k → ¬ Hit1 l) ∧ Hid (Below w.heap.size w wr))
  case atStart => exact ⟨0, 0, by omega, rfl, rfl, fun h => absurd h (by omega), fun h => absurd h (by omega), Below.refl _ _⟩
  case round =>
    obtain ⟨k, i, hkg, rfl, hki, HN0, HN1, HB⟩ := hrel
    rcases (show k = 0 ∨ k = 1 ∨ k = 2 by omega) with rfl | rfl | rfl
    · have HCC := Lib.hid (HC0.out wr)
      have HNX := Lib.hid (fun (h : ¬ Hit0 l) => (⟨fun _ => h, fun h2 => absurd h2 (by omega)⟩ : (1 ≤ 1 → ¬ Hit0 l) ∧ (2 ≤ 1 → ¬ Hit1 l)))
      obtain rfl : i = 0 := by omega
      clear hki
      go_wp2_with fail
      refine HCC.out.mono ?_
      rintro e w1 ⟨⟨d, b, rfl, hb, hd, hds⟩, rfl⟩
      have HBI := Lib.hid hb
      have HDI := Lib.hid hd
      have hdl : (d.size : Int) ≤ 100 := by omega
      clear hb hd HCC
      cases b with
      | false =>
        have HX := Lib.hid (HNX.out fun h => by have := HBI.out.2 h.1; simp at this)
        clear HNX
        go_wp2_with fail
        go_roundg (gk - 1)
        case rel => exact ⟨1, 1, by omega, by first | rfl | go_num, rfl, HX.out.1, HX.out.2, HB.out⟩
        case measure => omega
      | true =>
        have hbd := HDI.out rfl
        by_cases hd10 : d.size = 10
        · have e10 : ((d.size : Int) != 10) = false := by rw [hd10]; rfl
          have HPP := Lib.hid (HPU.out d w1 HB.out hd10)
          rw [hbd] at HPP
          have HHIT : Hid (Fits14 (l.drop 4) → Hit0 l) := fun h => ⟨HBI.out.1 rfl, by
            have h2 := congrArg List.length hbd
            rw [bytesOf_len, hd10] at h2
            exact h2.symm, h⟩
          clear hbd
          go_wp2_with fail
          refine HPP.out.mono ?_
          rintro e w2 ⟨hq, hb2⟩
          have HB2 := Lib.hid (HB.out.trans (hb2.mono HB.out.size))
          clear hb2 HPP
          rcases hq with ⟨hf, rfl⟩ | ⟨hf, u, te, ve, rfl⟩
          · have HF : Hid (Ending.returned (.tuple #[.int .i64 1, .int .i64 (valF 0 (l.drop 4) : Nat)]) = Ending.returned (.tuple #[.int .i64 T.1, .int .i64 T.2]) ∧ Below w.heap.size w w2) := by
              have h := HT1.out (HHIT.out hf)
              exact ⟨by rw [h], HB2.out⟩
            have hwr : IntKind.i64.wrap (valF 0 (l.drop 4) : Nat) = (valF 0 (l.drop 4) : Nat) := by
              have := hf.2
              rw [IntKind.wrap_i64]; omega
            clear hf HHIT HNX HT0 HT1 HT2
            obtain ⟨V, hV⟩ : ∃ V, valF 0 (l.drop 4) = V := ⟨_, rfl⟩
            rw [hV] at HF hwr ⊢
            clear hV
            go_wp2_with fail
            exact bodyPost_ret (v := .tuple #[.int .i64 1, .int .i64 (V : Nat)]) (by simp [results, Tryd.results8, go_sem]) rfl HF.out
          · have HX := Lib.hid (HNX.out fun h => hf h.2.2)
            clear HNX hf HHIT
            go_wp2_with fail
            go_roundg (gk - 1)
            case rel => exact ⟨1, 1, by omega, by first | rfl | go_num, rfl, HX.out.1, HX.out.2, HB2.out⟩
            case measure => omega
        · have e10 : ((d.size : Int) != 10) = true := by rw [bne_iff_ne]; omega
          have HX := Lib.hid (HNX.out fun h => hd10 (by
            have h2 := congrArg List.length hbd
            rw [bytesOf_len] at h2
            rw [h2]
            exact h.2.1))
          clear HNX hbd hd10
          go_wp2_with fail
          go_roundg (gk - 1)
          case rel => exact ⟨1, 1, by omega, by first | rfl | go_num, rfl, HX.out.1, HX.out.2, HB.out⟩
          case measure => omega
    · have HCC := Lib.hid (HC1.out wr)
      have HNX := Lib.hid (fun (h : ¬ Hit1 l) => (⟨fun _ => HN0.out (by omega), fun _ => h⟩ : (1 ≤ 2 → ¬ Hit0 l) ∧ (2 ≤ 2 → ¬ Hit1 l)))
      obtain rfl : i = 1 := by omega
      clear hki
      go_wp2_with fail
      refine HCC.out.mono ?_
      rintro e w1 ⟨⟨d, b, rfl, hb, hd, hds⟩, rfl⟩
      have HBI := Lib.hid hb
      have HDI := Lib.hid hd
      have hdl : (d.size : Int) ≤ 100 := by omega
      clear hb hd HCC
      cases b with
      | false =>
        have HX := Lib.hid (HNX.out fun h => by have := HBI.out.2 h.1; simp at this)
        clear HNX
        go_wp2_with fail
        go_roundg (gk - 1)
        case rel => exact ⟨2, 2, by omega, by first | rfl | go_num, rfl, HX.out.1, HX.out.2, HB.out⟩
        case measure => omega
      | true =>
        have hbd := HDI.out rfl
        by_cases hd10 : d.size = 10
        · have e10 : ((d.size : Int) != 10) = false := by rw [hd10]; rfl
          have HPP := Lib.hid (HPU.out d w1 HB.out hd10)
          rw [hbd] at HPP
          have HHIT : Hid (Fits14 (l.drop 5) → Hit1 l) := fun h => ⟨HBI.out.1 rfl, by
            have h2 := congrArg List.length hbd
            rw [bytesOf_len, hd10] at h2
            exact h2.symm, h⟩
          clear hbd
          go_wp2_with fail
          refine HPP.out.mono ?_
          rintro e w2 ⟨hq, hb2⟩
          have HB2 := Lib.hid (HB.out.trans (hb2.mono HB.out.size))
          clear hb2 HPP
          rcases hq with ⟨hf, rfl⟩ | ⟨hf, u, te, ve, rfl⟩
          · have HF : Hid (Ending.returned (.tuple #[.int .i64 2, .int .i64 (valF 0 (l.drop 5) : Nat)]) = Ending.returned (.tuple #[.int .i64 T.1, .int .i64 T.2]) ∧ Below w.heap.size w w2) := by
              have h := HT2.out (HHIT.out hf)
              exact ⟨by rw [h], HB2.out⟩
            have hwr : IntKind.i64.wrap (valF 0 (l.drop 5) : Nat) = (valF 0 (l.drop 5) : Nat) := by
              have := hf.2
              rw [IntKind.wrap_i64]; omega
            clear hf HHIT HNX HT0 HT1 HT2
            obtain ⟨V, hV⟩ : ∃ V, valF 0 (l.drop 5) = V := ⟨_, rfl⟩
            rw [hV] at HF hwr ⊢
            clear hV
            go_wp2_with fail
            exact bodyPost_ret (v := .tuple #[.int .i64 2, .int .i64 (V : Nat)]) (by simp [results, Tryd.results8, go_sem]) rfl HF.out
          · have HX := Lib.hid (HNX.out fun h => hf h.2.2)
            clear HNX hf HHIT
            go_wp2_with fail
            go_roundg (gk - 1)
            case rel => exact ⟨2, 2, by omega, by first | rfl | go_num, rfl, HX.out.1, HX.out.2, HB2.out⟩
            case measure => omega
        · have e10 : ((d.size : Int) != 10) = true := by rw [bne_iff_ne]; omega
          have HX := Lib.hid (HNX.out fun h => hd10 (by
            have h2 := congrArg List.length hbd
            rw [bytesOf_len] at h2
            rw [h2]
            exact h.2.1))
          clear HNX hbd hd10
          go_wp2_with fail
          go_roundg (gk - 1)
          case rel => exact ⟨2, 2, by omega, by first | rfl | go_num, rfl, HX.out.1, HX.out.2, HB.out⟩
          case measure => omega
    · obtain rfl : i = 2 := by omega
      clear hki
      have HF : Hid (Ending.returned (.tuple #[.int .i64 0, .int .i64 0]) = Ending.returned (.tuple #[.int .i64 T.1, .int .i64 T.2]) ∧ Below w.heap.size w wr) := by
        have h := HT0.out (HN0.out (by omega)) (HN1.out (by omega))
        exact ⟨by rw [h], HB.out⟩
      clear HN0 HN1 HT0 HT1 HT2
      go_wp2_with fail
      exact bodyPost_ret (v := .tuple #[.int .i64 0, .int .i64 0]) (by simp [results, Tryd.results8, go_sem]) rfl HF.out
end Go.Proofs.YtplnaaokapilpaaDoor.Vm
