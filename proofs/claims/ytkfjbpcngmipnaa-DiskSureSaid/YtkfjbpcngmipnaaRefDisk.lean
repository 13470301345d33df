/- The document's disk as it lies in memory; where a file is, what is left, whether it burns. -/
import Derived.Test.YtkfjbpcngmipnaaDiskRows
import Derived.Deep.LoopGhost
import Derived.Lib.Hide
import Derived.BigRegion
namespace Go.Proofs.Ytkfjbpcngmipnaa.Vm
open Go Go.RowKit
set_option maxRecDepth 100000

/-- A file, as it lies: its bytes in a block of O that is none of S. -/
structure ByteIn (w : World) (O S : Nat → Prop) (f : FileV) (g : FileS) : Prop where
  name : f.name = g.name
  sure : f.sure = g.sure
  n : f.n = g.b.length
  row : Row .u8 w w.heap.size f.a f.n f.c g.b
  off : ∀ b o, 0 < f.n → f.a = some ⟨b, o, none⟩ → O b ∧ ¬ S b
def Mine13 (bd : Nat) (v : Value) (k : Nat) : Prop := k = bd ∨ v.ownBlock = some k
/-- The document's disk, in blocks of O. -/
structure RefAt (w : World) (O : Nat → Prop) (bd : Nat) (v : Value) (l : List FileV) (d : DiskS) : Prop where
  box : w.heap[bd]? = some (.cells #[v, .int .i64 d.most, .int .i64 d.burn, .bool d.down] 49 (0, 0))
  own : OwnFs w 0 51 v l
  len : l.length = d.F.length
  like : ∀ i, i < l.length → ByteIn w O (Mine13 bd v) (l.getD i zfv) (d.F.getD i zfile)
  obd : O bd
  ov : ∀ k, v.ownBlock = some k → O k ∧ k ≠ bd
  lt : ∀ k, O k → k < w.heap.size
def RefD (w : World) (O : Nat → Prop) (bd : Nat) (d : DiskS) : Prop := ∃ v l, RefAt w O bd v l d
section
variable {w w' : World} {O S : Nat → Prop} {bd : Nat} {v : Value} {l : List FileV} {d : DiskS}
theorem RefAt.cells (h : RefAt w O bd v l d) : w.cell? ⟨bd, 0, none⟩ = some v ∧ w.cell? ⟨bd, 1, none⟩ = some (.int .i64 d.most) ∧ w.cell? ⟨bd, 2, none⟩ = some (.int .i64 d.burn) ∧ w.cell? ⟨bd, 3, none⟩ = some (.bool d.down) := by
  have key : ∀ i (u : Value), (#[v, .int .i64 d.most, .int .i64 d.burn, .bool d.down] : Array Value)[i]? = some u → w.cell? ⟨bd, i, none⟩ = some u := fun i u hu => by
    unfold World.cell?
    rw [h.box]
    exact hu
  exact ⟨key 0 _ rfl, key 1 _ rfl, key 2 _ rfl, key 3 _ rfl⟩
theorem RefAt.frozen (h : RefAt w O bd v l d) (i : Nat) : w.frozen? ⟨bd, i, none⟩ = false := frozen_of h.box
/-- What other blocks hold matters nothing. -/
theorem ByteIn.alt {f : FileV} {g : FileS} {M : Nat → Prop} (h : ByteIn w O M f g) (hA : Alt S w w') (hS : ∀ k, O k → S k → M k) : ByteIn w' O M f g :=
  ⟨h.name, h.sure, h.n, ⟨h.row.1, h.row.2.1, h.row.2.2.1, fun hn => by
    obtain ⟨b, off, e, hb, hc⟩ := h.row.2.2.2 hn
    have ho := h.off b off hn e
    exact ⟨b, off, e, Nat.lt_of_lt_of_le hb hA.size, fun i hi => (hA.cell (p := ⟨b, off + i, none⟩) hb (fun hs => ho.2 (hS b ho.1 hs))).trans (hc i hi)⟩⟩, h.off⟩
theorem RefAt.alt (h : RefAt w O bd v l d) (hA : Alt S w w') (hS : ∀ k, O k → ¬ S k) : RefAt w' O bd v l d :=
  ⟨by rw [hA.block bd (h.lt bd h.obd) (hS bd h.obd)]; exact h.box, h.own.alt hA (fun k hk => hS k (h.ov k hk).1), h.len, fun i hi => (h.like i hi).alt hA (fun k hk hs => absurd hs (hS k hk)), h.obd, h.ov, fun k hk => Nat.lt_of_lt_of_le (h.lt k hk) hA.size⟩
theorem RefD.alt (h : RefD w O bd d) (hA : Alt S w w') (hS : ∀ k, O k → ¬ S k) : RefD w' O bd d := by
  obtain ⟨v, l, h⟩ := h
  exact ⟨v, l, h.alt hA hS⟩
theorem RefAt.form (h : RefAt w O bd v l d) : ∃ a c, v = .slice a d.F.length c := by
  obtain ⟨a, c, e⟩ := h.own.slice
  exact ⟨a, c, by rw [e, h.len]⟩
end
theorem RefAt.store {w : World} {O : Nat → Prop} {bd i : Nat} {v u : Value} {l : List FileV} {d d' : DiskS} (h : RefAt w O bd v l d) (hc : (#[v, .int .i64 d.most, .int .i64 d.burn, .bool d.down] : Array Value).setIfInBounds i u = #[v, .int .i64 d'.most, .int .i64 d'.burn, .bool d'.down]) (hF : d'.F = d.F) :
    RefAt (w.setCell ⟨bd, i, none⟩ u) O bd v l d' ∧ Alt (fun k => k = bd) w (w.setCell ⟨bd, i, none⟩ u) := by
  have hA : Alt (fun k => k = bd) w (w.setCell ⟨bd, i, none⟩ u) := ⟨rfl, rfl, rfl, by simp [World.setCell], fun k hk hn => Below.heap_setCell _ _ _ _ hn⟩
  refine ⟨⟨?_, h.own.alt hA (fun k hk => (h.ov k hk).2), by rw [hF]; exact h.len, fun j hj => by rw [hF]; exact (h.like j hj).alt hA (fun k _ hk => .inl hk), h.obd, h.ov, fun k hk => by have := h.lt k hk; simpa [World.setCell] using this⟩, hA⟩
  rw [Go.heap_setCell_same _ _ _ _ _ _ h.box]
  simp only [Array.set!_eq_setIfInBounds, hc]
/-- What an operation on the document's disk leaves. -/
def RefPost (w : World) (O : Nat → Prop) (bd : Nat) (d' : DiskS) (w' : World) : Prop := ∃ O', RefD w' O' bd d' ∧ Alt O w w' ∧ ∀ k, O' k → O k ∨ w.heap.size ≤ k

theorem atS_found {F : List FileS} {n : ByteArray} {i : Nat} (hi : i < F.length) (hn : (F.getD i zfile).name = n) (hb : ∀ j, j < i → (F.getD j zfile).name ≠ n) : atI F n = (i : Nat) := by
  have e : atS F n = i := by
    unfold atS
    rw [List.findIdx_eq hi]
    refine ⟨by simpa [List.getD, hi] using hn, fun j hj => ?_⟩
    have := hb j hj
    have hj' : j < F.length := by omega
    simpa [List.getD, hj'] using this
  unfold atI
  rw [e, if_pos hi]
theorem atS_lost {F : List FileS} {n : ByteArray} (hb : ∀ j, j < F.length → (F.getD j zfile).name ≠ n) : atI F n = -1 := by
  unfold atI
  rw [if_neg (fun h => hb _ h (atS_lt h))]

set_option maxHeartbeats 1000000 in
theorem rAt13_any (bd : Nat) (v : Value) (l : List FileV) (d : DiskS) (O : Nat → Prop) (n : ByteArray) (w : World) (h : RefAt w O bd v l d) (hF : d.F.length ≤ 1000000) :
    Calls Try.prog 37 #[.pointer (some ⟨bd, 0, none⟩), .string n] w fun e w' => e = .returned (.int .i64 (atI d.F n)) ∧ w' = w := by
  obtain ⟨a, c, rfl⟩ := h.form
  obtain ⟨q0, _, _, _⟩ := h.cells
  have hat := h.own.at
  have HC := Lib.hid hat.2.2.2
  have hnc := hat.2.1
  have HL := Lib.hid h.len
  have HK := Lib.hid h.like
  have hcm := hat.2.2.1
  unfold maxLen at hcm
  clear hat
  generalize hN : d.F.length = N at *
  have HN := Lib.hid hN
  clear hN
  go_enter Try.func37, Try.ntmps37
  go_wp2_with fail
  go_loopg [5] N (fun gg v5 wr => ∃ i : Nat, i + gg = N ∧ v5 = .int .i64 i ∧ wr = w ∧ Hid (∀ j, j < i → (d.F.getD j zfile).name ≠ n))
  case atStart => exact ⟨0, by omega, rfl, rfl, fun j hj => absurd hj (by omega)⟩
  case round =>
    obtain ⟨i, hig, rfl, rfl, HB⟩ := hrel
    by_cases hi : i < N
    · have hii : (i : Int) < (N : Int) := by omega
      have d1 : decide ((i : Int) < (N : Int)) = true := by rw [decide_eq_true_eq]; exact hii
      obtain ⟨lb, rfl, _, _, hcs, _⟩ := HC.out (by omega)
      have hc0 := (hcs i hi).1
      rw [(HK.out i (by rw [HL.out]; exact hi)).name] at hc0
      clear hcs
      generalize hx : (d.F.getD i zfile).name = x at hc0
      have HX := Lib.hid hx
      clear hx
      by_cases he : x = n
      · have d2 : (x.toList == n.toList) = true := by rw [name_beq]; simpa using he
        have HE := Lib.hid he
        clear he
        go_wp2_with fail
        go_ret
        exact ⟨ret_z13 (atS_found (i := i) (by rw [HN.out]; exact hi) (HX.out.trans HE.out) HB.out).symm, rfl⟩
      · have d2 : (x.toList == n.toList) = false := by rw [name_beq]; simpa using he
        have HB' : Hid (∀ j, j < i + 1 → (d.F.getD j zfile).name ≠ n) := fun j hj => by
          by_cases hji : j = i
          · subst hji; rw [HX.out]; exact he
          · exact HB.out j (by omega)
        clear he
        go_wp2_with fail
        go_roundg (gk - 1)
        case rel => exact ⟨i + 1, by omega, by first | rfl | go_num, rfl, HB'⟩
        case measure => omega
    · obtain rfl : i = N := by omega
      have d1 : decide ((i : Int) < (i : Int)) = false := by simp
      go_wp2_with fail
      go_ret
      exact ⟨ret_z13 (atS_lost (fun j hj => HB.out j (by rw [← HN.out]; exact hj))).symm, rfl⟩

theorem allS_take {F : List FileS} {i : Nat} (hi : i < F.length) : allS (F.take (i + 1)) = allS (F.take i) + (F.getD i zfile).b.length := by
  rw [List.take_add_one, List.getElem?_eq_getElem hi, allS_append]
  simp [allS, List.getD, hi]
theorem allS_take_le (F : List FileS) (i : Nat) : allS (F.take i) ≤ allS F := by
  have h := congrArg allS (List.take_append_drop i F)
  rw [allS_append] at h
  omega

set_option maxHeartbeats 1000000 in
theorem rLeft13_any (bd : Nat) (v : Value) (l : List FileV) (d : DiskS) (O : Nat → Prop) (w : World) (h : RefAt w O bd v l d) (hF : d.F.length ≤ 1000000) (hd : OkD d) :
    Calls Try.prog 35 #[.pointer (some ⟨bd, 0, none⟩)] w fun e w' => e = .returned (.int .i64 (leftS d)) ∧ w' = w := by
  obtain ⟨a, c, rfl⟩ := h.form
  obtain ⟨q0, q1, _, _⟩ := h.cells
  have hat := h.own.at
  have HC := Lib.hid hat.2.2.2
  have hnc := hat.2.1
  have HL := Lib.hid h.len
  have HK := Lib.hid h.like
  have hcm := hat.2.2.1
  unfold maxLen at hcm
  clear hat
  have hm1 := hd.most.1
  have hm2 := hd.most.2
  have HA := Lib.hid hd.all
  have HLS : Hid (leftS d = max (d.most - (allS (d.F.take d.F.length) : Nat)) 0) := by unfold Hid; rw [List.take_length]; rfl
  generalize hM : d.most = M at *
  generalize leftS d = LS at *
  clear hM
  generalize hN : d.F.length = N at *
  have HN := Lib.hid hN
  clear hN hd
  go_enter Try.func35, Try.ntmps35
  go_wp2_with fail
  go_loopg [3, 4] N (fun gg v3 v4 wr => ∃ i : Nat, i + gg = N ∧ v3 = .int .i64 (M - (allS (d.F.take i) : Nat)) ∧ v4 = .int .i64 i ∧ wr = w)
  case atStart => exact ⟨0, by omega, by simp [allS], rfl, rfl⟩
  case round =>
    obtain ⟨i, hig, rfl, rfl, rfl⟩ := hrel
    by_cases hi : i < N
    · have hii : (i : Int) < (N : Int) := by omega
      have d1 : decide ((i : Int) < (N : Int)) = true := by rw [decide_eq_true_eq]; exact hii
      obtain ⟨lb, rfl, _, _, hcs, _⟩ := HC.out (by omega)
      have hc1 := (hcs i hi).2.1
      rw [(HK.out i (by rw [HL.out]; exact hi)).n] at hc1
      clear hcs
      have ht := allS_take (F := d.F) (i := i) (by rw [HN.out]; exact hi)
      have hle := allS_take_le d.F (i + 1)
      have hal := HA.out
      generalize (d.F.getD i zfile).b.length = m at hc1 ht
      generalize allS (d.F.take i) = s at ht ⊢
      have hw : IntKind.i64.wrap (M - (s : Int) - (m : Int)) = M - ((s + m : Nat) : Int) := by rw [IntKind.wrap_i64]; omega
      have HT := Lib.hid ht
      clear ht hle hal
      go_wp2_with fail
      go_roundg (gk - 1)
      case rel => exact ⟨i + 1, by omega, by rw [HT.out, Int.natCast_add], by first | rfl | go_num, rfl⟩
      case measure => omega
    · obtain rfl : i = N := by omega
      have d1 : decide ((i : Int) < (i : Int)) = false := by simp
      go_wp2_with fail
      all_goals
        go_ret
        exact ⟨ret_z13 (by have := HLS.out; omega), rfl⟩

theorem name_empty (n : ByteArray) : n.toList.isEmpty = decide (n.size = 0) := by
  rw [ByteArray.toList_eq]
  cases n with
  | mk d =>
    rcases d with ⟨l⟩
    cases l <;> simp [ByteArray.size]
theorem name_nil (n : ByteArray) : n.toList = [] ↔ n.size = 0 := by
  have := name_empty n
  rw [← List.isEmpty_iff, this, decide_eq_true_eq]
set_option maxHeartbeats 1000000 in
theorem rBurns13_any (bd : Nat) (v : Value) (l : List FileV) (d : DiskS) (O : Nat → Prop) (n m : ByteArray) (w : World) (h : RefAt w O bd v l d) (hd : OkD d) (hn : n.size ≤ maxLen) (hm : m.size ≤ maxLen) :
    Calls Try.prog 42 #[.pointer (some ⟨bd, 0, none⟩), .string n, .string m] w fun e w' => e = .returned (.int .i64 (burnsS d n m).1) ∧ RefAt w' O bd v l (burnsS d n m).2 ∧ Alt (fun k => k = bd) w w' := by
  obtain ⟨_, _, q2, q3⟩ := h.cells
  have f2 := h.frozen 2
  have f3 := h.frozen 3
  have HR := Lib.hid h
  have hb := hd.burn
  clear h
  unfold maxLen at hn hm
  by_cases hk : okName n ∧ okName m
  · obtain ⟨⟨n1, n2⟩, m1, m2⟩ := hk
    have e1 : n.toList.isEmpty = false := by rw [name_empty, decide_eq_false_iff_not]; omega
    have e2 : m.toList.isEmpty = false := by rw [name_empty, decide_eq_false_iff_not]; omega
    have t1 : ¬ n.toList = [] := by rw [name_nil]; omega
    have t2 : ¬ m.toList = [] := by rw [name_nil]; omega
    have e3 : decide ((40 : Int) < (n.size : Int)) = false := by rw [decide_eq_false_iff_not]; omega
    have e4 : decide ((40 : Int) < (m.size : Int)) = false := by rw [decide_eq_false_iff_not]; omega
    by_cases ho : d.down = true ∨ d.burn = 0
    · have HB : Hid (burnsS d n m = (9, { d with down := true })) := by unfold Hid burnsS burnS; rw [if_pos ⟨⟨n1, n2⟩, m1, m2⟩, if_pos ho]
      have hs := HR.out.store (i := 3) (u := .bool true) (d' := { d with down := true }) rfl rfl
      have HS := Lib.hid hs
      clear hs
      cases hdn : d.down with
      | true =>
        rw [hdn] at q3
        clear ho hdn
        go_enter Try.func42, Try.ntmps42
        go_wp2_with fail
        go_ret
        rw [HB.out]
        exact ⟨rfl, HS.out⟩
      | false =>
        rw [hdn] at q3
        have hb0 : d.burn = 0 := by
          rcases ho with h | h
          · rw [hdn] at h; cases h
          · exact h
        rw [hb0] at q2
        clear ho hdn hb0 hb
        go_enter Try.func42, Try.ntmps42
        go_wp2_with fail
        go_ret
        rw [HB.out]
        exact ⟨rfl, HS.out⟩
    · have hdn : d.down = false := by
        cases hdn : d.down
        · rfl
        · exact absurd (.inl hdn) ho
      have hb0 : d.burn ≠ 0 := fun e => ho (.inr e)
      rw [hdn] at q3
      have d0 : (d.burn == 0) = false := by simpa using hb0
      by_cases hp : 0 < d.burn
      · have HB : Hid (burnsS d n m = (0, { d with burn := d.burn - 1 })) := by unfold Hid burnsS burnS; rw [if_pos ⟨⟨n1, n2⟩, m1, m2⟩, if_neg ho, if_pos hp]
        have hs := HR.out.store (i := 2) (u := .int .i64 (d.burn - 1)) (d' := { d with burn := d.burn - 1 }) rfl rfl
        have HS := Lib.hid hs
        have d1 : decide (0 < d.burn) = true := by rw [decide_eq_true_eq]; exact hp
        have hw : IntKind.i64.wrap (d.burn - 1) = d.burn - 1 := by rw [IntKind.wrap_i64]; omega
        clear ho hs hdn hb0 HR hd
        generalize d.burn = bn at *
        go_enter Try.func42, Try.ntmps42
        go_wp2_with fail
        go_ret
        rw [HB.out]
        exact ⟨rfl, HS.out⟩
      · have HB : Hid (burnsS d n m = (0, d)) := by unfold Hid burnsS burnS; rw [if_pos ⟨⟨n1, n2⟩, m1, m2⟩, if_neg ho, if_neg hp]
        have d1 : decide (0 < d.burn) = false := by rw [decide_eq_false_iff_not]; exact hp
        clear ho hdn hb0
        go_enter Try.func42, Try.ntmps42
        go_wp2_with fail
        go_ret
        rw [HB.out]
        exact ⟨rfl, HR.out, Alt.refl _ _⟩
  · have HB : Hid (burnsS d n m = (1, d)) := by unfold Hid burnsS; rw [if_neg hk]
    have e1 := name_empty n
    have e2 := name_empty m
    have t1 := name_nil n
    have t2 := name_nil m
    by_cases hn1 : n.size = 0
    · rw [decide_eq_true hn1] at e1
      have t1 : n.toList = [] := t1.2 hn1
      clear hk e2 t2
      go_enter Try.func42, Try.ntmps42
      go_wp2_with fail
      go_ret
      rw [HB.out]
      exact ⟨rfl, HR.out, Alt.refl _ _⟩
    · rw [decide_eq_false hn1] at e1
      have t1 : ¬ n.toList = [] := fun h => hn1 (t1.1 h)
      by_cases hn2 : 40 < n.size
      · have e3 : decide ((40 : Int) < (n.size : Int)) = true := by rw [decide_eq_true_eq]; omega
        clear hk e2 t2
        go_enter Try.func42, Try.ntmps42
        go_wp2_with fail
        go_ret
        rw [HB.out]
        exact ⟨rfl, HR.out, Alt.refl _ _⟩
      · have e3 : decide ((40 : Int) < (n.size : Int)) = false := by rw [decide_eq_false_iff_not]; omega
        by_cases hm1 : m.size = 0
        · rw [decide_eq_true hm1] at e2
          have t2 : m.toList = [] := t2.2 hm1
          clear hk
          go_enter Try.func42, Try.ntmps42
          go_wp2_with fail
          go_ret
          rw [HB.out]
          exact ⟨rfl, HR.out, Alt.refl _ _⟩
        · rw [decide_eq_false hm1] at e2
          have t2 : ¬ m.toList = [] := fun h => hm1 (t2.1 h)
          have e4 : decide ((40 : Int) < (m.size : Int)) = true := by
            rw [decide_eq_true_eq]
            have : ¬ m.size ≤ 40 := fun h => hk ⟨⟨by omega, by omega⟩, by omega, h⟩
            omega
          clear hk
          go_enter Try.func42, Try.ntmps42
          go_wp2_with fail
          go_ret
          rw [HB.out]
          exact ⟨rfl, HR.out, Alt.refl _ _⟩
end Go.Proofs.Ytkfjbpcngmipnaa.Vm
