/- The document's Head, list and Put of manifests. The document's Put of manifests, what it takes of bytes (rising), and its Read. The document's rising: numbers that rise, taken of bytes; and its Read of manifests. The document's Read of manifests. -/
import Derived.Test.YtplnaaokapilpaaDoorSegMath
import Derived.Test.YtplnaaokapilpaaDoorRefPuts
import Derived.Test.YtplnaaokapilpaaDoorRefScans
import Derived.Test.YtplnaaokapilpaaDoorAppendZ
import Derived.Test.YtplnaaokapilpaaDoorRefTakes
import Derived.Test.YtplnaaokapilpaaDoorSames
import Derived.Deep.LoopGhost
import Derived.BigRegion
import Derived.Deep.DeepCutAuto
import Derived.Laws.ResultCell
namespace Go.Proofs.YtplnaaokapilpaaDoor.Vm
open Go Go.RowKit
set_option maxRecDepth 100000

/-- The one ahead of a place, or p. -/
def prevG (p : Int) (l : List Int) (k : Nat) : Int := if k = 0 then p else l.getD (k - 1) 0
theorem lastG_take : ∀ (l : List Int) (p : Int) (k : Nat), k ≤ l.length → lastG p (l.take k) = prevG p l k
  | _, _, 0, _ => rfl
  | [], _, k + 1, h => by simp at h
  | x :: l, p, k + 1, h => by
    have ih := lastG_take l x k (by simpa using h)
    rw [List.take_succ_cons]
    unfold lastG
    rw [ih]
    unfold prevG
    cases k with
    | zero => simp
    | succ j => simp
theorem take_z {l : List Int} {k : Nat} (hk : k < l.length) : l.take (k + 1) = l.take k ++ [l.getD k 0] := by
  rw [List.take_add_one, List.getElem?_eq_getElem hk]
  simp [List.getD, hk]
theorem upIn_more {l : List Int} {k : Nat} (hk : k < l.length) (h : UpIn (-1) (l.take k)) (h1 : prevG (-1) l k < l.getD k 0) (h2 : l.getD k 0 ≤ 2147483647) : UpIn (-1) (l.take (k + 1)) := by
  rw [take_z hk]
  exact upIn_snoc _ _ _ h (by rw [lastG_take l (-1) k (by omega)]; exact h1) h2
theorem upIn_at : ∀ {l : List Int} {p : Int} {k : Nat}, k < l.length → UpIn p l → prevG p l k < l.getD k 0 ∧ l.getD k 0 ≤ 2147483647
  | [], _, _, h, _ => by simp at h
  | x :: l, p, 0, _, ⟨a, b, _⟩ => ⟨by simpa [prevG] using a, by simpa using b⟩
  | x :: l, p, k + 1, h, ⟨a, b, c⟩ => by
    have ih := upIn_at (l := l) (p := x) (k := k) (by simpa using h) c
    unfold prevG at ih ⊢
    cases k with
    | zero => simpa using ih
    | succ j => simpa using ih
theorem prevG_bd {l : List Int} {k : Nat} (hk : k ≤ l.length) (h : UpIn (-1) (l.take k)) : -1 ≤ prevG (-1) l k ∧ prevG (-1) l k ≤ 2147483647 := by
  rw [← lastG_take l (-1) k hk]
  exact upIn_last _ _ h (by omega) (by omega)
theorem encI_nat (x : Int) (h : 0 ≤ x) : ∃ n : Nat, x = (n : Int) ∧ encI x = enc n := ⟨x.toNat, by omega, rfl⟩

set_option maxHeartbeats 1000000 in
theorem rhead14_any (n : Nat) (w : World) (hn : n ≤ 2147483647) :
    Calls Tryd.prog 11 #[.int .i64 n] w fun e w' => ∃ v, e = .returned v ∧ Own w' w.heap.size v (headF n) ∧ Below w.heap.size w w' := by
  obtain ⟨w1, hw1⟩ : ∃ w1, w1 = w.alloc (.cells #[.int .u8 7] 5) := ⟨_, rfl⟩
  have hb1 : Below w.heap.size w w1 := by rw [hw1]; exact (Below.refl _ _).alloc (Nat.le_refl _) _
  have ho1 : Own w1 w.heap.size (.slice (some ⟨w.heap.size, 0, none⟩) 1 1) [7] := by rw [hw1]; exact own_new w 7
  have HPU := Lib.hid (rput_one n w1 (by omega))
  have hcv : IntKind.u64.wrap (n : Int) = (n : Int) := by rw [IntKind.wrap_u64]; omega
  have hel := enc_len64 (n := n) (by omega)
  have HW1 := Lib.hid hw1
  have HB1 := Lib.hid hb1
  have HO1 := Lib.hid ho1
  have HEL := Lib.hid hel
  clear hw1 hb1 ho1 hel
  go_enter Tryd.func11, Tryd.ntmps11
  go_wp2_with fail
  rw [← HW1.out]
  refine HPU.out.mono ?_
  rintro e w2 ⟨v2, rfl, ho2, hb2⟩
  obtain ⟨a2, c2, rfl, hr2⟩ := ho2.slice
  have HO2 := Lib.hid (own_below HO1.out hb2 (fun k hk => (World.ownsRow.lt HO1.out k hk).2))
  have HB2 := Lib.hid (HB1.out.trans (hb2.mono HB1.out.size))
  have HR2 := Lib.hid hr2
  generalize hen : (enc n).length = en at *
  clear ho2 hb2 hr2
  go_wp2_with (at_builtin; refine wpList_append_row rfl (.tmp 6) (.tmp 9) rfl rfl HO2.out rfl HR2.out (by have := HEL.out; simp only [List.length_cons, List.length_nil]; omega) HB2.out.size ?_; intro v3 w3 hown3 hgrow3 _; obtain ⟨a3, c3, rfl, hr3⟩ := hown3.slice; have HB3 := Lib.hid (Below.grows HB2.out HB2.out.size HO2.out hgrow3); have HR3 := Lib.hid hr3; clear hr3 hown3 hgrow3)
  have hl3 : ([7] ++ enc n).length = en + 1 := by rw [List.length_append, hen]; simp; omega
  rw [hl3] at HR3
  refine (rfput_any a3 (en + 1) c3 _ w3 HR3.out (fun x hx => by
    rcases List.mem_append.1 hx with hx | hx
    · simp at hx; omega
    · exact enc_byte _ _ (Nat.le_refl _) x hx) (by have := HEL.out; omega)).mono ?_
  rintro e w4 ⟨v4, rfl, ho4, hb4⟩
  have HB4 := Lib.hid (HB3.out.trans (hb4.mono HB3.out.size))
  have HO4 : Hid (Own w4 w.heap.size v4 (headF n)) := ho4.mono HB3.out.size
  obtain ⟨a4, c4, rfl, _⟩ := ho4.slice
  clear ho4 hb4
  go_wp2_with fail
  go_ret
  exact ⟨_, rfl, HO4.out, HB4.out⟩

/-- Numbers as a manifest's list. -/
def SaysL (w : World) (l : List Int) (e : Ending) (w' : World) : Prop :=
  ((UpIn (-1) l ∧ ∃ v, e = .returned (.tuple #[v, .bool true]) ∧ Own w' w.heap.size v (encL l)) ∨ (¬ UpIn (-1) l ∧ e = .returned (.tuple #[.slice none 0 0, .bool false]))) ∧ Below w.heap.size w w'
end Go.Proofs.YtplnaaokapilpaaDoor.Vm

namespace Go.Proofs.YtplnaaokapilpaaDoor.Vm
open Go Go.RowKit
set_option maxRecDepth 100000

/-- A manifest, put. -/
def SaysM (w : World) (a s : List Int) (e : Ending) (w' : World) : Prop :=
  ((CanM a s ∧ ∃ v, e = .returned (.tuple #[v, .int .i64 0]) ∧ Own w' w.heap.size v (encM a s)) ∨ (¬ CanM a s ∧ e = .returned (.tuple #[.slice none 0 0, .int .i64 1]))) ∧ Below w.heap.size w w'
theorem two_slices (w : World) (a a' : Option Addr) (n c n' c' : Nat) (t : TypeId) : (w.alloc (.cells #[.slice a n c, .slice a' n' c'] t)).cell? ⟨w.heap.size, 0, none⟩ = some (.slice a n c) ∧ (w.alloc (.cells #[.slice a n c, .slice a' n' c'] t)).cell? ⟨w.heap.size, 1, none⟩ = some (.slice a' n' c') := ⟨by simp, by simp⟩
end Go.Proofs.YtplnaaokapilpaaDoor.Vm

namespace Go.Proofs.YtplnaaokapilpaaDoor.Vm
open Go Go.RowKit
set_option maxRecDepth 100000

/-- So many numbers, taken from a place on, behind a number. -/
def gapsR (zs : List Nat) : Nat → Nat → Int → Option (List Int × Nat)
  | 0, tq, _ => some ([], tq)
  | k + 1, tq, last => if (takeS zs tq).2.2 ≠ 0 ∨ 2147483647 < (takeS zs tq).1 then none else
    (gapsR zs k (takeS zs tq).2.1 (last + 1 + ((takeS zs tq).1 : Nat))).map fun r => ((last + 1 + ((takeS zs tq).1 : Nat)) :: r.1, r.2)
def risR (zs : List Nat) (p : Nat) : Option (List Int × Nat) := if (takeS zs p).2.2 ≠ 0 ∨ zs.length < (takeS zs p).1 then none else gapsR zs (takeS zs p).1 (takeS zs p).2.1 (-1)
theorem takeS_enc {zs r : List Nat} {p n : Nat} (h : zs.drop p = enc n ++ r) (hp : p ≤ zs.length) (hn : n < 18446744073709551616) : takeS zs p = (n, p + (enc n).length, 0) := by
  rw [takeS_in zs p hp, h]
  exact takeTo_ok (dec_enc64 n r hn)
theorem drop_more {zs a r : List Nat} {p : Nat} (h : zs.drop p = a ++ r) : zs.drop (p + a.length) = r := by
  rw [← List.drop_drop, h, List.drop_left]
theorem drop_le {zs a r : List Nat} {p : Nat} (h : zs.drop p = a ++ r) (ha : a ≠ []) : p ≤ zs.length := by
  rcases Nat.lt_or_ge zs.length p with h1 | h1
  · rw [List.drop_of_length_le (by omega)] at h
    cases a with
    | nil => exact absurd rfl ha
    | cons x a => simp at h
  · exact h1
theorem enc_ne (n : Nat) : enc n ≠ [] := fun e => by
  have := enc_pos n
  rw [e] at this
  simp at this
theorem gapsR_enc {zs : List Nat} : ∀ (l : List Int) (p : Int) (tq : Nat) (r : List Nat), -1 ≤ p → UpIn p l → zs.drop tq = encG p l ++ r → tq ≤ zs.length → gapsR zs l.length tq p = some (l, tq + (encG p l).length)
  | [], _, tq, _, _, _, _, _ => rfl
  | x :: l, p, tq, r, hp, ⟨a, b, c⟩, h, ht => by
    unfold encG encI at h
    rw [List.append_assoc] at h
    have e := takeS_enc h ht (by omega)
    have h2 := drop_more h
    have ht2 : tq + (enc (x - p - 1).toNat).length ≤ zs.length := by
      have h3 := congrArg List.length h
      rw [List.length_drop, List.length_append] at h3
      omega
    have ih := gapsR_enc l x (tq + (enc (x - p - 1).toNat).length) r (by omega) c h2 ht2
    rw [List.length_cons, gapsR, e]
    rw [if_neg (by simp; omega)]
    have e2 : p + 1 + (((x - p - 1).toNat : Nat) : Int) = x := by omega
    have e3 : (encG p (x :: l)).length = (enc (x - p - 1).toNat).length + (encG x l).length := by
      show (encI (x - p - 1) ++ encG x l).length = _
      rw [List.length_append]
      rfl
    simp only [e2, ih, Option.map_some]
    rw [e3]
    exact congrArg some (Prod.ext rfl (by show _ + _ + _ = _ + (_ + _); omega))
theorem risR_enc {zs r : List Nat} {l : List Int} {p : Nat} (h : zs.drop p = encL l ++ r) (hp : p ≤ zs.length) (hl : UpIn (-1) l) (hn : l.length < 18446744073709551616) : risR zs p = some (l, p + (encL l).length) := by
  unfold encL at h
  rw [List.append_assoc] at h
  have e := takeS_enc h hp hn
  have h2 := drop_more h
  have h3 := congrArg List.length h
  rw [List.length_drop, List.length_append, List.length_append] at h3
  have h4 := encG_len l (-1)
  have h5 := gapsR_enc l (-1) _ r (by omega) hl h2 (by omega)
  unfold risR
  rw [e, if_neg (by simp; omega), h5]
  unfold encL
  rw [List.length_append]
  congr 2
  omega
/-- What is taken rises. -/
theorem gapsR_len {zs : List Nat} : ∀ (k tq : Nat) (last : Int) (r : List Int × Nat), gapsR zs k tq last = some r → r.1.length = k
  | 0, _, _, r, h => by unfold gapsR at h; injection h with h; rw [← h]; rfl
  | k + 1, tq, last, r, h => by
    unfold gapsR at h
    split at h
    · cases h
    · cases e : gapsR zs k (takeS zs tq).2.1 (last + 1 + ((takeS zs tq).1 : Nat)) with
      | none => rw [e] at h; cases h
      | some q =>
        rw [e] at h
        injection h with h
        rw [← h, List.length_cons, gapsR_len k _ _ q e]
theorem risR_len {zs : List Nat} {p : Nat} {r : List Int × Nat} (h : risR zs p = some r) : r.1.length ≤ zs.length := by
  unfold risR at h
  split at h
  · cases h
  · rename_i h1
    rw [gapsR_len _ _ _ _ h]
    omega
def SaysR (w : World) (zs : List Nat) (p : Nat) (e : Ending) (w' : World) : Prop :=
  ((∃ l q a c, risR zs p = some (l, q) ∧ e = .returned (.tuple #[.slice a l.length c, .int .i64 (q : Nat)]) ∧ OwnZ w' w.heap.size (.slice a l.length c) l) ∨ (risR zs p = none ∧ e = .returned (.tuple #[.slice none 0 0, .int .i64 (-1)]))) ∧ Below w.heap.size w w'
theorem gaps_next {zs : List Nat} {k tq : Nat} {last : Int} {o : List Int} {R : Option (List Int × Nat)} (h : R = (gapsR zs (k + 1) tq last).map fun r => (o ++ r.1, r.2)) (h1 : ¬ ((takeS zs tq).2.2 ≠ 0 ∨ 2147483647 < (takeS zs tq).1)) :
    R = (gapsR zs k (takeS zs tq).2.1 (last + 1 + ((takeS zs tq).1 : Nat))).map fun r => ((o ++ [last + 1 + ((takeS zs tq).1 : Nat)]) ++ r.1, r.2) := by
  rw [h, gapsR, if_neg h1, Option.map_map]
  congr 1
  funext r
  simp
theorem gaps_stop {zs : List Nat} {k tq : Nat} {last : Int} {o : List Int} {R : Option (List Int × Nat)} (h : R = (gapsR zs (k + 1) tq last).map fun r => (o ++ r.1, r.2)) (h1 : (takeS zs tq).2.2 ≠ 0 ∨ 2147483647 < (takeS zs tq).1) : R = none := by
  rw [h, gapsR, if_pos h1]; rfl
end Go.Proofs.YtplnaaokapilpaaDoor.Vm

namespace Go.Proofs.YtplnaaokapilpaaDoor.Vm
open Go Go.RowKit
set_option maxRecDepth 100000

theorem bodyOf_sub (r : List Nat) : (bodyOf r).length ≤ r.length ∧ ∀ x ∈ bodyOf r, x ∈ r := by
  unfold bodyOf
  refine ⟨by rw [List.length_take, List.length_drop]; omega, fun x hx => List.mem_of_mem_drop (List.mem_of_mem_take hx)⟩
/-- What is scanned is part of the bytes. -/
theorem scan_sub : ∀ (n : Nat) (r : List Nat), r.length ≤ n → ∀ z ∈ (scanS r).1, z.length ≤ r.length ∧ ∀ x ∈ z, x ∈ r
  | 0, r, h, z, hz => by
    obtain rfl : r = [] := List.eq_nil_of_length_eq_zero (by omega)
    rw [scanS_nil] at hz
    simp at hz
  | n + 1, r, h, z, hz => by
    by_cases h0 : r = []
    · rw [h0, scanS_nil] at hz
      simp at hz
    · by_cases hw : Whole r
      · rw [scanS_ok hw] at hz
        rcases List.mem_cons.1 hz with rfl | hz
        · exact bodyOf_sub r
        · have hd : (r.drop (sizeF r)).length + 4 ≤ r.length := by
            have := hw.2.2.1
            simp only [List.length_drop]
            unfold sizeF at *
            omega
          have ih := scan_sub n (r.drop (sizeF r)) (by omega) z hz
          exact ⟨by omega, fun x hx => List.mem_of_mem_drop (ih.2 x hx)⟩
      · rw [scanS_no h0 hw] at hz
        simp at hz
theorem scan_one {zs : List Nat} {a s : List Int} (h : encM a s = zs) (hl : zs.length ≤ 1000000) : (scanS zs).1 = [bodyM a s] := by
  have hb : (bodyM a s).length ≤ 1000000 := by
    rw [← h] at hl
    unfold encM fr at hl
    simp only [List.length_append] at hl
    omega
  have h1 := fr_whole (l := bodyM a s) [] hb
  rw [List.append_nil, scanS_nil] at h1
  rw [← h]
  unfold encM
  rw [h1]
theorem encM_lens {zs : List Nat} {a s : List Int} (h : encM a s = zs) : a.length ≤ zs.length ∧ s.length ≤ zs.length := by
  have h1 := encG_len a (-1)
  have h2 := encG_len s (-1)
  rw [← h]
  unfold encM fr bodyM encL
  simp only [List.length_append]
  omega
/-- A manifest of bytes, and its numbers as they lie. -/
def SaysRM (w : World) (zs : List Nat) (e : Ending) (w' : World) : Prop :=
  (∃ a n c a' n' c' er, e = .returned (.tuple #[.agg #[.slice a n c, .slice a' n' c'], .int .i64 er]) ∧
    ((er = 0 ∧ ∃ l l', CanM l l' ∧ encM l l' = zs ∧ RowZ .i64 w' w'.heap.size a n c l ∧ RowZ .i64 w' w'.heap.size a' n' c' l') ∨ (er = 3 ∧ RowZ .i64 w' w'.heap.size a n c [] ∧ RowZ .i64 w' w'.heap.size a' n' c' [] ∧ ¬ ∃ l l', CanM l l' ∧ encM l l' = zs))) ∧ Below w.heap.size w w'
theorem rowZ_none (w : World) (B : Nat) : RowZ .i64 w B none 0 0 [] := ⟨rfl, Nat.le_refl _, by simp [maxLen], fun h => absurd h (by omega)⟩
/-- A manifest in a block. -/
def ManB (w : World) (b : Nat) (t : TypeId) (a : Option Addr) (n c : Nat) (a' : Option Addr) (n' c' : Nat) : Prop := w.heap[b]? = some (.cells #[.slice a n c, .slice a' n' c'] t (0, 0))
section
variable {w w' : World} {b n c n' c' : Nat} {a a' : Option Addr} {t : TypeId}
theorem ManB.cells (h : ManB w b t a n c a' n' c') : w.cell? ⟨b, 0, none⟩ = some (.slice a n c) ∧ w.cell? ⟨b, 1, none⟩ = some (.slice a' n' c') ∧ w.frozen? ⟨b, 0, none⟩ = false ∧ w.frozen? ⟨b, 1, none⟩ = false := by
  have key : ∀ i (u : Value), (#[.slice a n c, .slice a' n' c'] : Array Value)[i]? = some u → w.cell? ⟨b, i, none⟩ = some u := fun i u hu => by
    unfold World.cell?
    rw [show w.heap[b]? = _ from h]
    exact hu
  exact ⟨key 0 _ rfl, key 1 _ rfl, by simp [World.frozen?, show w.heap[b]? = _ from h], by simp [World.frozen?, show w.heap[b]? = _ from h]⟩
theorem ManB.new (w : World) : ManB (w.alloc (.cells #[.slice a n c, .slice a' n' c'] t)) w.heap.size t a n c a' n' c' := heap_alloc_new w _
theorem ManB.below {B : Nat} (h : ManB w b t a n c a' n' c') (hb : Below B w w') (hB : b < B) : ManB w' b t a n c a' n' c' := by
  unfold ManB at h ⊢
  rw [hb.block b hB]
  exact h
theorem below_man {A : World} {B : Nat} (h : Below B A w) (hb : B ≤ b) (u v : Value) : Below B A ((w.setCell ⟨b, 0, none⟩ u).setCell ⟨b, 1, none⟩ v) := by
  have key : ∀ (V : World) (i : Nat) (x : Value), Below B V (V.setCell ⟨b, i, none⟩ x) := fun V i x => ⟨rfl, rfl, rfl, by simp [World.setCell], fun k hk => Below.heap_setCell _ _ _ _ (by simp; omega)⟩
  exact (h.trans (key _ _ _)).trans (key _ _ _)
end

theorem OwnZ.set13 {w : World} {B b i : Nat} {v u : Value} {l : List Int} (h : OwnZ w B v l) (hb : b < B) : OwnZ (w.setCell ⟨b, i, none⟩ u) B v l := by
  refine ⟨h.1, ?_⟩
  rcases h.2 with h2 | ⟨g, cap, cur, rfl, hg, hh, r⟩
  · exact .inl h2
  · exact .inr ⟨g, cap, cur, rfl, hg, (Below.heap_setCell _ _ _ _ (by simp; omega)).trans hh, r⟩
end Go.Proofs.YtplnaaokapilpaaDoor.Vm
