/- The mathematics of segments (layer 14): ten digits, names and their ticks; manifests as bytes; the records of bytes. No function of the program is named here. -/
import Derived.Test.YtplnaaokapilpaaDoorCodMath
import Derived.Test.YtplnaaokapilpaaDoorBackMath
import Derived.Test.YtplnaaokapilpaaDoorStrs
namespace Go.Proofs.YtplnaaokapilpaaDoor.Vm
open Go

/-! Ten digits. -/
/-- So many digits of a number, the last ones. -/
def tenF : Nat → Nat → List Nat
  | 0, _ => []
  | k + 1, n => tenF k (n / 10) ++ [48 + n % 10]
def isDig (x : Nat) : Bool := decide (48 ≤ x ∧ x ≤ 57)
/-- The number of some digits, behind another one. -/
def valF (n : Nat) (l : List Nat) : Nat := l.foldl (fun m d => 10 * m + (d - 48)) n
theorem valF_snoc (n : Nat) (l : List Nat) (d : Nat) : valF n (l ++ [d]) = 10 * valF n l + (d - 48) := by simp [valF, List.foldl_append]
theorem tenF_len : ∀ k n, (tenF k n).length = k
  | 0, _ => rfl
  | k + 1, n => by simp [tenF, tenF_len k]
theorem tenF_dig : ∀ k n, ∀ x ∈ tenF k n, 48 ≤ x ∧ x ≤ 57
  | 0, _, x, h => by simp [tenF] at h
  | k + 1, n, x, h => by
    rcases List.mem_append.1 h with h | h
    · exact tenF_dig k _ x h
    · simp at h; omega
theorem tenF_val : ∀ k n, n < 10 ^ k → valF 0 (tenF k n) = n
  | 0, n, h => by simp at h; subst h; rfl
  | k + 1, n, h => by
    have ih := tenF_val k (n / 10) (by rw [Nat.pow_succ] at h; omega)
    rw [tenF, valF_snoc, ih]
    omega
theorem valF_lt : ∀ (l : List Nat) (n k : Nat), (∀ x ∈ l, 48 ≤ x ∧ x ≤ 57) → n < 10 ^ k → valF n l < 10 ^ (k + l.length)
  | [], n, k, _, h => by simpa [valF] using h
  | x :: l, n, k, hx, h => by
    have h1 := hx x (by simp)
    have ih := valF_lt l (10 * n + (x - 48)) (k + 1) (fun y hy => hx y (List.mem_cons_of_mem _ hy)) (by rw [Nat.pow_succ]; omega)
    have e : valF n (x :: l) = valF (10 * n + (x - 48)) l := rfl
    rw [e, List.length_cons, show k + (l.length + 1) = k + 1 + l.length by omega]
    exact ih
/-- Digits, of their number. -/
theorem tenF_valF : ∀ (k : Nat) (l : List Nat), l.length = k → (∀ x ∈ l, 48 ≤ x ∧ x ≤ 57) → tenF k (valF 0 l) = l
  | 0, l, h, _ => by rw [List.eq_nil_of_length_eq_zero h]; rfl
  | k + 1, l, h, hx => by
    obtain ⟨q, d, rfl⟩ : ∃ q d, l = q ++ [d] := by
      have hne : l ≠ [] := fun e => by rw [e] at h; simp at h
      exact ⟨l.dropLast, l.getLast hne, (List.dropLast_concat_getLast hne).symm⟩
    have hq : q.length = k := by simpa using h
    have hd := hx d (by simp)
    rw [valF_snoc, tenF, show (10 * valF 0 q + (d - 48)) / 10 = valF 0 q by omega, tenF_valF k q hq (fun x hx' => hx x (by simp [hx'])), show 48 + (10 * valF 0 q + (d - 48)) % 10 = d by omega]
/-- One list of bytes before another. -/
def lessN : List Nat → List Nat → Bool
  | _, [] => false
  | [], _ :: _ => true
  | a :: l, b :: m => decide (a < b) || (a == b && lessN l m)
theorem lessN_same (p : List Nat) : ∀ a b, lessN (p ++ a) (p ++ b) = lessN a b := by
  induction p with
  | nil => intro a b; rfl
  | cons x p ih => intro a b; simp [lessN, ih]
theorem lessN_snoc : ∀ (a b : List Nat) (x y : Nat), a.length = b.length → lessN (a ++ [x]) (b ++ [y]) = (lessN a b || (a == b && decide (x < y)))
  | [], [], x, y, _ => by simp [lessN]
  | [], _ :: _, _, _, h => by simp at h
  | _ :: _, [], _, _, h => by simp at h
  | u :: a, v :: b, x, y, h => by
    have ih := lessN_snoc a b x y (by simpa using h)
    simp only [List.cons_append, lessN, ih]
    by_cases h1 : u < v
    · simp [h1]
    · by_cases h2 : u = v
      · simp [h2]
      · have e : (u == v) = false := by simpa using h2
        simp [h1, e]
        try simp [h2]
theorem tenF_eq {k a b : Nat} (ha : a < 10 ^ k) (hb : b < 10 ^ k) : tenF k a = tenF k b ↔ a = b := ⟨fun h => by rw [← tenF_val k a ha, ← tenF_val k b hb, h], fun h => by rw [h]⟩
theorem tenF_less : ∀ (k a b : Nat), a < 10 ^ k → b < 10 ^ k → lessN (tenF k a) (tenF k b) = decide (a < b)
  | 0, a, b, ha, hb => by simp at ha hb; subst ha hb; rfl
  | k + 1, a, b, ha, hb => by
    have ha' : a / 10 < 10 ^ k := by rw [Nat.pow_succ] at ha; omega
    have hb' : b / 10 < 10 ^ k := by rw [Nat.pow_succ] at hb; omega
    rw [tenF, tenF, lessN_snoc _ _ _ _ (by rw [tenF_len, tenF_len]), tenF_less k _ _ ha' hb']
    by_cases h1 : a / 10 < b / 10
    · have : a < b := by omega
      simp [h1, this]
    · by_cases h2 : a / 10 = b / 10
      · have e : (tenF k (a / 10) == tenF k (b / 10)) = true := by rw [h2]; simp
        rw [e, decide_eq_false h1]
        by_cases h3 : a < b
        · rw [decide_eq_true h3, decide_eq_true (show 48 + a % 10 < 48 + b % 10 by omega)]; rfl
        · rw [decide_eq_false h3, decide_eq_false (show ¬ 48 + a % 10 < 48 + b % 10 by omega)]; rfl
      · have e : (tenF k (a / 10) == tenF k (b / 10)) = false := by
          rw [beq_eq_false_iff_ne]
          exact fun h => h2 ((tenF_eq ha' hb').1 h)
        rw [e, decide_eq_false h1, decide_eq_false (show ¬ a < b by omega)]; rfl
theorem bytesLess_lessN : ∀ (l m : List Nat), (∀ x ∈ l, x < 256) → (∀ x ∈ m, x < 256) → Op.bytesLess (l.map UInt8.ofNat) (m.map UInt8.ofNat) = lessN l m
  | _, [], _, _ => by cases ‹List Nat› <;> rfl
  | [], _ :: _, _, _ => rfl
  | a :: l, b :: m, h1, h2 => by
    have ih := bytesLess_lessN l m (fun x hx => h1 x (List.mem_cons_of_mem _ hx)) (fun x hx => h2 x (List.mem_cons_of_mem _ hx))
    have ha := h1 a (by simp)
    have hb := h2 b (by simp)
    have e1 : decide (UInt8.ofNat a < UInt8.ofNat b) = decide (a < b) := by
      congr 1
      rw [UInt8.lt_iff_toNat_lt, UInt8.toNat_ofNat_of_lt' ha, UInt8.toNat_ofNat_of_lt' hb]
    have e2 : (UInt8.ofNat a == UInt8.ofNat b) = (a == b) := by
      by_cases h : a = b
      · simp [h]
      · have : UInt8.ofNat a ≠ UInt8.ofNat b := fun e => h (by
          have := congrArg UInt8.toNat e
          rwa [UInt8.toNat_ofNat_of_lt' ha, UInt8.toNat_ofNat_of_lt' hb] at this)
        rw [beq_eq_false_iff_ne.2 h, beq_eq_false_iff_ne.2 this]
    simp only [List.map_cons, Op.bytesLess, lessN, ih, e1, e2]

/-! Names. -/
def segB : List Nat := [115, 101, 103, 45]
def snapB : List Nat := [115, 110, 97, 112, 45]
def segS (n : Nat) : List Nat := segB ++ tenF 10 n
def snapS (n : Nat) : List Nat := snapB ++ tenF 10 n
/-- Which kind of name, and what is left behind its prefix. -/
def kindS (s : List Nat) : Int × List Nat :=
  if s.length = 15 ∧ s.take 5 = snapB then (2, s.drop 5) else if s.length = 14 ∧ s.take 4 = segB then (1, s.drop 4) else (0, [])
/-- A name's kind and tick. -/
def tickN (s : List Nat) : Int × Int :=
  if (kindS s).2.all isDig = false then (0, 0) else
  if (kindS s).1 = 0 ∨ 2147483647 < valF 0 (kindS s).2 then (0, 0) else ((kindS s).1, (valF 0 (kindS s).2 : Nat))
theorem kindS_seg (n : Nat) : kindS (segS n) = (1, tenF 10 n) := by
  have h : (segS n).length = 14 := by simp [segS, segB, tenF_len]
  unfold kindS
  rw [if_neg (fun e => by omega), if_pos ⟨h, by simp [segS, segB]⟩]
  simp [segS, segB]
theorem kindS_snap (n : Nat) : kindS (snapS n) = (2, tenF 10 n) := by
  have h : (snapS n).length = 15 := by simp [snapS, snapB, tenF_len]
  unfold kindS
  rw [if_pos ⟨h, by simp [snapS, snapB]⟩]
  simp [snapS, snapB]
theorem tenF_all (n : Nat) : (tenF 10 n).all isDig = true := by
  rw [List.all_eq_true]
  exact fun x hx => decide_eq_true (tenF_dig 10 n x hx)
theorem tickN_seg {n : Nat} (h : n ≤ 2147483647) : tickN (segS n) = (1, (n : Int)) := by
  unfold tickN
  simp only [kindS_seg, tenF_all, tenF_val 10 n (by omega)]
  rw [if_neg (by simp), if_neg (by omega)]
theorem tickN_snap {n : Nat} (h : n ≤ 2147483647) : tickN (snapS n) = (2, (n : Int)) := by
  unfold tickN
  simp only [kindS_snap, tenF_all, tenF_val 10 n (by omega)]
  rw [if_neg (by simp), if_neg (by omega)]
theorem segS_lt (n : Nat) : ∀ x ∈ segS n, x < 256 := by
  intro x hx
  rcases List.mem_append.1 hx with hx | hx
  · simp [segB] at hx; omega
  · have := tenF_dig 10 n x hx; omega
theorem snapS_lt (n : Nat) : ∀ x ∈ snapS n, x < 256 := by
  intro x hx
  rcases List.mem_append.1 hx with hx | hx
  · simp [snapB] at hx; omega
  · have := tenF_dig 10 n x hx; omega
theorem segS_less {a b : Nat} (ha : a ≤ 2147483647) (hb : b ≤ 2147483647) : lessN (segS a) (segS b) = decide (a < b) := by
  unfold segS
  rw [lessN_same, tenF_less 10 a b (by omega) (by omega)]
theorem snapS_less {a b : Nat} (ha : a ≤ 2147483647) (hb : b ≤ 2147483647) : lessN (snapS a) (snapS b) = decide (a < b) := by
  unfold snapS
  rw [lessN_same, tenF_less 10 a b (by omega) (by omega)]

/-! Manifests. -/
def encL (l : List Int) : List Nat := enc l.length ++ encG (-1) l
def bodyM (a s : List Int) : List Nat := encL a ++ encL s
def encM (a s : List Int) : List Nat := fr (bodyM a s)
structure CanM (a s : List Int) : Prop where
  segs : UpIn (-1) a
  snaps : UpIn (-1) s
instance decUp : (p : Int) → (l : List Int) → Decidable (UpIn p l)
  | _, [] => .isTrue trivial
  | p, x :: r => by
    unfold UpIn
    have := decUp x r
    infer_instance
theorem encL_byte (l : List Int) : ∀ x ∈ encL l, x < 256 := by
  intro x hx
  rcases List.mem_append.1 hx with hx | hx
  · exact enc_byte _ _ (Nat.le_refl _) x hx
  · exact encG_byte _ _ x hx
theorem bodyM_byte (a s : List Int) : ∀ x ∈ bodyM a s, x < 256 := by
  intro x hx
  rcases List.mem_append.1 hx with hx | hx
  · exact encL_byte a x hx
  · exact encL_byte s x hx
theorem encL_len {l : List Int} (h : UpIn (-1) l) (hn : l.length < 18446744073709551616) : (encL l).length ≤ 10 * l.length + 10 := by
  have h1 := encG_le l (-1) (by omega) h
  have h2 := enc_len64 hn
  unfold encL
  rw [List.length_append]
  omega
theorem encL_pf {l l' : List Int} {r r' : List Nat} (hl : l.length < 18446744073709551616) (hl' : l'.length < 18446744073709551616) (h : UpIn (-1) l) (h' : UpIn (-1) l') (e : encL l ++ r = encL l' ++ r') : l = l' ∧ r = r' := by
  unfold encL at e
  rw [List.append_assoc, List.append_assoc] at e
  obtain ⟨e1, e2⟩ := enc_pf hl hl' e
  exact encG_pf (by omega) e1 h h' e2
theorem bodyM_inj {a s a' s' : List Int} (h : CanM a s) (h' : CanM a' s') (h1 : a.length < 18446744073709551616) (h2 : a'.length < 18446744073709551616) (h3 : s.length < 18446744073709551616) (h4 : s'.length < 18446744073709551616) (e : bodyM a s = bodyM a' s') : a = a' ∧ s = s' := by
  unfold bodyM at e
  obtain ⟨rfl, e2⟩ := encL_pf h1 h2 h.segs h'.segs e
  have e3 : encL s ++ [] = encL s' ++ [] := by rw [List.append_nil, List.append_nil, e2]
  exact ⟨rfl, (encL_pf h3 h4 h.snaps h'.snaps e3).1⟩
theorem enc_inj {n m : Nat} (hn : n < 18446744073709551616) (hm : m < 18446744073709551616) (h : enc n = enc m) : n = m := by
  have : enc n ++ [] = enc m ++ [] := by rw [h]
  exact (enc_pf hn hm this).1
theorem fr_inj {x y : List Nat} (hx : x.length ≤ 1000000) (hy : y.length ≤ 1000000) (h : fr x = fr y) : x = y := by
  have h1 := fr_whole (l := x) [] hx
  have h2 := fr_whole (l := y) [] hy
  rw [h, h2] at h1
  injection h1 with h1
  injection h1 with h1
  exact h1.symm

/-! Heads, and records behind them. -/
def headB (n : Nat) : List Nat := 7 :: enc n
def headF (n : Nat) : List Nat := fr (headB n)
/-- The tick of a head. -/
def headOf (z : List Nat) : Option Nat :=
  match z with
  | 7 :: r => if (dec 0 r).2.2 = 0 ∧ (dec 0 r).2.1 = r.length ∧ (dec 0 r).1 ≤ 2147483647 then some (dec 0 r).1 else none
  | _ => none
theorem headOf_head {n : Nat} (h : n ≤ 2147483647) : headOf (headB n) = some n := by
  have h1 := dec_enc64 n [] (by omega)
  rw [List.append_nil] at h1
  unfold headOf headB
  simp only [h1]
  rw [if_pos ⟨trivial, trivial, h⟩]
/-- A record's bytes. -/
def IsRec (z : List Nat) (x : Rcd) : Prop := CanR x ∧ WfR x ∧ x.ws.length ≤ 100000 ∧ encR x = z
open Classical in
noncomputable def recZ (z : List Nat) : Option Rcd := if h : ∃ x, IsRec z x then some h.choose else none
theorem recZ_some {z : List Nat} {x : Rcd} (h : recZ z = some x) : IsRec z x := by
  unfold recZ at h
  split at h
  · rename_i h1
    injection h with h
    rw [← h]
    exact h1.choose_spec
  · cases h
theorem recZ_none {z : List Nat} (h : recZ z = none) : ¬ ∃ x, IsRec z x := by
  unfold recZ at h
  split at h
  · cases h
  · assumption
theorem IsRec.one {z : List Nat} {x y : Rcd} (hx : IsRec z x) (hy : IsRec z y) (hz : z.length ≤ 2147483647) : x = y := by
  have h1 : x.ins.length ≤ z.length := encR_ins (N := z.length) hx.1 (by rw [hx.2.2.2]; exact Nat.le_refl _)
  have h2 : y.ins.length ≤ z.length := encR_ins (N := z.length) hy.1 (by rw [hy.2.2.2]; exact Nat.le_refl _)
  obtain ⟨t, e1, _⟩ := readRc_enc hx.1 hx.2.1 (by omega) hx.2.2.1
  obtain ⟨t', e2, _⟩ := readRc_enc hy.1 hy.2.1 (by omega) hy.2.2.1
  rw [hx.2.2.2] at e1
  rw [hy.2.2.2, e1] at e2
  injection e2 with e2
  exact congrArg Prod.fst e2
theorem recZ_is {z : List Nat} {x : Rcd} (h : IsRec z x) (hz : z.length ≤ 2147483647) : recZ z = some x := by
  cases e : recZ z with
  | none => exact absurd ⟨x, h⟩ (recZ_none e)
  | some y => rw [(recZ_some e).one h hz]
/-- The records of frames, the first one of this tick: the error, and these. -/
noncomputable def recsF : Int → List (List Nat) → Int × List Rcd
  | _, [] => (0, [])
  | t, z :: l => match recZ z with
    | none => (3, [])
    | some x => if x.tick = t then ((recsF (t + 1) l).1, x :: (recsF (t + 1) l).2) else (11, [])
/-- What bytes are parsed to: the error, the tick of the head, the records, where it ends, what stands there. -/
structure ParS where
  er : Int
  first : Int
  recs : List Rcd
  n : Nat
  behind : Nat
noncomputable def parseG (b : List Nat) : ParS :=
  match (scanS b).1 with
  | [] => ⟨2, 0, [], 0, 0⟩
  | z :: l => match headOf z with
    | none => ⟨3, 0, [], 0, 0⟩
    | some t => if (recsF t l).1 = 0 then ⟨0, (t : Nat), (recsF t l).2, (scanS b).2.1, (scanS b).2.2⟩ else ⟨(recsF t l).1, 0, [], 0, 0⟩
/-- Records, one behind the other. -/
def TicksFrom (t : Int) : List Rcd → Prop
  | [] => True
  | x :: l => x.tick = t ∧ TicksFrom (t + 1) l
theorem recsF_of : ∀ (l : List Rcd) (t : Int), TicksFrom t l → (∀ x ∈ l, IsRec (encR x) x ∧ (encR x).length ≤ 2147483647) → recsF t (l.map encR) = (0, l)
  | [], _, _, _ => rfl
  | x :: l, t, ⟨h1, h2⟩, hx => by
    have hx0 := hx x (by simp)
    have ih := recsF_of l (t + 1) h2 (fun y hy => hx y (List.mem_cons_of_mem _ hy))
    rw [List.map_cons, recsF, recZ_is hx0.1 hx0.2]
    simp only [h1, if_true, ih]
theorem ticksFrom_take : ∀ (l : List Rcd) (t : Int) (k : Nat), TicksFrom t l → TicksFrom t (l.take k)
  | _, _, 0, _ => by simp [TicksFrom]
  | [], _, _ + 1, _ => by simp [TicksFrom]
  | x :: l, t, k + 1, ⟨h1, h2⟩ => ⟨h1, ticksFrom_take l (t + 1) k h2⟩
/-- The frames of a segment. -/
def segF (n : Nat) (l : List Rcd) : List (List Nat) := headB n :: l.map encR
theorem headB_len {n : Nat} (h : n ≤ 2147483647) : (headB n).length ≤ 11 := by
  have := enc_len64 (n := n) (by omega)
  unfold headB
  rw [List.length_cons]
  omega
/-- A head and records, parsed. -/
theorem parseG_all {n : Nat} {l : List Rcd} (hn : n ≤ 2147483647) (ht : TicksFrom n l) (hx : ∀ x ∈ l, IsRec (encR x) x ∧ (encR x).length ≤ 1000000) : parseG (frs (segF n l)) = ⟨0, (n : Nat), l, (frs (segF n l)).length, 0⟩ := by
  have h1 := scan_all (segF n l) (fun z hz => by
    rcases List.mem_cons.1 hz with rfl | hz
    · have := headB_len hn; omega
    · obtain ⟨x, hx', rfl⟩ := List.mem_map.1 hz
      exact (hx x hx').2)
  unfold parseG
  rw [h1]
  simp only [segF, headOf_head hn, recsF_of l n ht (fun x h => ⟨(hx x h).1, Nat.le_trans (hx x h).2 (by omega)⟩), if_true]
/-- Of a beginning just the records that are whole. -/
theorem parseG_cut {n : Nat} {l : List Rcd} (hn : n ≤ 2147483647) (ht : TicksFrom n l) (hx : ∀ x ∈ l, IsRec (encR x) x ∧ (encR x).length ≤ 1000000) (cut k : Nat) (hk : k ≤ l.length) (h1 : endAt (segF n l) (k + 1) ≤ cut) (h2 : k < l.length → cut < endAt (segF n l) (k + 2)) (hc : cut ≤ (frs (segF n l)).length) :
    parseG ((frs (segF n l)).take cut) = ⟨0, (n : Nat), l.take k, endAt (segF n l) (k + 1), if cut = endAt (segF n l) (k + 1) then 0 else 1⟩ := by
  have hs := scan_cut (segF n l) (fun z hz => by
    rcases List.mem_cons.1 hz with rfl | hz
    · have := headB_len hn; omega
    · obtain ⟨x, hx', rfl⟩ := List.mem_map.1 hz
      exact (hx x hx').2) cut (k + 1) (by simp [segF]; omega) h1 (fun h => h2 (by simp [segF] at h; omega)) hc
  have e : (segF n l).take (k + 1) = segF n (l.take k) := by simp [segF, List.map_take]
  unfold parseG
  rw [hs, e]
  simp only [segF, headOf_head hn, recsF_of (l.take k) n (ticksFrom_take l n k ht) (fun x h => ⟨(hx x (List.mem_of_mem_take h)).1, Nat.le_trans (hx x (List.mem_of_mem_take h)).2 (by omega)⟩), if_true]
end Go.Proofs.YtplnaaokapilpaaDoor.Vm
