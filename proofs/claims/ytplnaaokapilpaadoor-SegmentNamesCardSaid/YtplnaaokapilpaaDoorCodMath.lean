/- The plain mathematics of encoded states: a state's encoding (encS), when there is one (CanS), and how it is read number by number (readSt). No program is named here. The plain mathematics of encoded records: the runs of ways (runs), a record's encoding (encR), when there is one (CanR), and how it is read number by number (readRc). No program is named here. The plain mathematics of bytes that are eaten number by number: what begins with an encoding begins with no other one. No program is named here. The plain mathematics of the bytes of a state that are eaten part by part. No program is named here. The plain mathematics of the bytes of a record that are eaten part by part. No program is named here. -/
import Derived.Test.YtplnaaokapilpaaDoorMath
import Derived.Test.YtplnaaokapilpaaDoorStWords
import Derived.Test.YtplnaaokapilpaaDoorInMath
namespace Go.Proofs.YtplnaaokapilpaaDoor.Vm

/-- A number that is not below 0, as bytes. -/
def encI (x : Int) : List Nat := enc x.toNat
abbrev InR (x : Int) : Prop := 0 ≤ x ∧ x ≤ 2147483647
def encRob (r : Rec) : List Nat := encI r.a ++ encI r.b ++ encI r.c ++ encI r.d ++ encI r.e
def encJob (r : Rec) : List Nat := encI r.a ++ encI r.b ++ encI r.c ++ encI r.d ++ encI (r.e + 1)
/-- The cells that are blocked, each as its difference from the one before it, less 1. -/
def encG : Int → List Int → List Nat
  | _, [] => []
  | p, x :: r => encI (x - p - 1) ++ encG x r
def encS (s : St) : List Nat :=
  encI s.tick ++ enc s.rs.length ++ s.rs.flatMap encRob ++ enc s.ts.length ++ s.ts.flatMap encJob ++ enc s.bl.length ++ encG (-1) s.bl
abbrev RobIn (r : Rec) : Prop := InR r.a ∧ InR r.b ∧ InR r.c ∧ InR r.d ∧ InR r.e
abbrev JobIn (r : Rec) : Prop := InR r.a ∧ InR r.b ∧ InR r.c ∧ InR r.d ∧ -1 ≤ r.e ∧ r.e ≤ 2147483647
/-- Strictly increasing, from above p on, and in the range. -/
def UpIn : Int → List Int → Prop
  | _, [] => True
  | p, x :: r => p < x ∧ x ≤ 2147483647 ∧ UpIn x r
structure CanS (s : St) : Prop where
  tick : InR s.tick
  rn : s.rs.length ≤ 2147483647
  tn : s.ts.length ≤ 2147483647
  bn : s.bl.length ≤ 2147483647
  rob : ∀ r ∈ s.rs, RobIn r
  job : ∀ r ∈ s.ts, JobIn r
  up : UpIn (-1) s.bl

/-- What reads: the next place, and whether there were too few bytes, or a number too large. -/
structure Tk where
  p : Nat
  o : Bool
/-- The next number. -/
def tk (zs : List Nat) (t : Tk) : Nat × Tk :=
  if t.o = true then (0, t) else if (takeS zs t.p).2.2 = 0 then ((takeS zs t.p).1, ⟨(takeS zs t.p).2.1, false⟩) else (0, ⟨t.p, true⟩)
/-- The next number, of 0 to 2^31. -/
def sm (zs : List Nat) (t : Tk) : Nat × Tk := if 2147483648 < (tk zs t).1 then (0, ⟨(tk zs t).2.p, true⟩) else tk zs t
theorem sm_le (zs : List Nat) (t : Tk) : (sm zs t).1 ≤ 2147483648 := by
  unfold sm
  split
  · simp
  · omega
def five (zs : List Nat) (t : Tk) : Rec × Tk :=
  (⟨(sm zs t).1, (sm zs (sm zs t).2).1, (sm zs (sm zs (sm zs t).2).2).1, (sm zs (sm zs (sm zs (sm zs t).2).2).2).1, (sm zs (sm zs (sm zs (sm zs (sm zs t).2).2).2).2).1⟩, (sm zs (sm zs (sm zs (sm zs (sm zs t).2).2).2).2).2)
def readRob (zs : List Nat) : Nat → Tk → List Rec × Tk
  | 0, t => ([], t)
  | n + 1, t => if t.o = true then ([], t) else ((five zs t).1 :: (readRob zs n (five zs t).2).1, (readRob zs n (five zs t).2).2)
def lessE (r : Rec) : Rec := ⟨r.a, r.b, r.c, r.d, r.e - 1⟩
def readJob (zs : List Nat) (n : Nat) (t : Tk) : List Rec × Tk := ((readRob zs n t).1.map lessE, (readRob zs n t).2)
def readG (zs : List Nat) : Nat → Int → Tk → List Int × Tk
  | 0, _, t => ([], t)
  | n + 1, p, t => if t.o = true then ([], t) else
      ((p + 1 + (sm zs t).1) :: (readG zs n (p + 1 + (sm zs t).1) (sm zs t).2).1, (readG zs n (p + 1 + (sm zs t).1) (sm zs t).2).2)

theorem tk_o {zs : List Nat} (hz : ∀ x ∈ zs, x < 256) (t : Tk) : ((tk zs t).2.o = false → t.o = false ∧ t.p < (tk zs t).2.p) ∧ (t.p ≤ zs.length → (tk zs t).2.p ≤ zs.length) := by
  unfold tk
  by_cases h : t.o = true
  · rw [if_pos h]
    exact ⟨fun e => absurd h (by rw [show t.o = false from e]; simp), id⟩
  · rw [if_neg h]
    by_cases he : (takeS zs t.p).2.2 = 0
    · rw [if_pos he]
      obtain ⟨_, h2, _, h4, _⟩ := takeS_ok hz he
      rw [Int.toNat_natCast] at h2
      exact ⟨fun _ => ⟨by simpa using h, h2⟩, fun _ => h4⟩
    · rw [if_neg he]
      exact ⟨fun e => by simp at e, id⟩
theorem sm_o {zs : List Nat} (hz : ∀ x ∈ zs, x < 256) (t : Tk) : ((sm zs t).2.o = false → t.o = false ∧ t.p < (sm zs t).2.p) ∧ (t.p ≤ zs.length → (sm zs t).2.p ≤ zs.length) := by
  have h := tk_o hz t
  unfold sm
  by_cases hx : 2147483648 < (tk zs t).1
  · rw [if_pos hx]
    exact ⟨fun e => by simp at e, h.2⟩
  · rw [if_neg hx]
    exact h
theorem five_o {zs : List Nat} (hz : ∀ x ∈ zs, x < 256) (t : Tk) : ((five zs t).2.o = false → t.o = false ∧ t.p < (five zs t).2.p) ∧ (t.p ≤ zs.length → (five zs t).2.p ≤ zs.length) := by
  unfold five
  have h1 := sm_o hz t
  have h2 := sm_o hz (sm zs t).2
  have h3 := sm_o hz (sm zs (sm zs t).2).2
  have h4 := sm_o hz (sm zs (sm zs (sm zs t).2).2).2
  have h5 := sm_o hz (sm zs (sm zs (sm zs (sm zs t).2).2).2).2
  refine ⟨fun e => ?_, fun hp => h5.2 (h4.2 (h3.2 (h2.2 (h1.2 hp))))⟩
  obtain ⟨a5, b5⟩ := h5.1 e
  obtain ⟨a4, b4⟩ := h4.1 a5
  obtain ⟨a3, b3⟩ := h3.1 a4
  obtain ⟨a2, b2⟩ := h2.1 a3
  obtain ⟨a1, b1⟩ := h1.1 a2
  exact ⟨a1, Nat.lt_trans b1 (Nat.lt_trans b2 (Nat.lt_trans b3 (Nat.lt_trans b4 b5)))⟩
theorem readRob_o (zs : List Nat) (n : Nat) {t : Tk} (h : t.o = true) : readRob zs n t = ([], t) := by
  cases n with
  | zero => rfl
  | succ n => unfold readRob; rw [if_pos h]
theorem readG_o (zs : List Nat) (n : Nat) (p : Int) {t : Tk} (h : t.o = true) : readG zs n p t = ([], t) := by
  cases n with
  | zero => rfl
  | succ n => unfold readG; rw [if_pos h]
theorem readRob_len {zs : List Nat} (hz : ∀ x ∈ zs, x < 256) : ∀ (n : Nat) (t : Tk), t.p ≤ zs.length → (readRob zs n t).1.length + t.p ≤ zs.length + 1 ∧ (readRob zs n t).2.p ≤ zs.length
  | 0, t, h => ⟨by simp [readRob]; omega, h⟩
  | n + 1, t, h => by
    unfold readRob
    by_cases ho : t.o = true
    · rw [if_pos ho]
      exact ⟨by simp; omega, h⟩
    · rw [if_neg ho]
      have h5 := five_o hz t
      have hp := h5.2 h
      obtain ⟨i1, i2⟩ := readRob_len hz n (five zs t).2 hp
      refine ⟨?_, i2⟩
      simp only [List.length_cons]
      by_cases ho2 : (five zs t).2.o = true
      · rw [readRob_o zs n ho2]
        simp
        omega
      · have := (h5.1 (by simpa using ho2)).2
        omega
theorem readG_len {zs : List Nat} (hz : ∀ x ∈ zs, x < 256) : ∀ (n : Nat) (p : Int) (t : Tk), t.p ≤ zs.length → (readG zs n p t).1.length + t.p ≤ zs.length + 1 ∧ (readG zs n p t).2.p ≤ zs.length
  | 0, _, t, h => ⟨by simp [readG]; omega, h⟩
  | n + 1, p, t, h => by
    unfold readG
    by_cases ho : t.o = true
    · rw [if_pos ho]
      exact ⟨by simp; omega, h⟩
    · rw [if_neg ho]
      have h5 := sm_o hz t
      have hp := h5.2 h
      obtain ⟨i1, i2⟩ := readG_len hz n (p + 1 + (sm zs t).1) (sm zs t).2 hp
      refine ⟨?_, i2⟩
      simp only [List.length_cons]
      by_cases ho2 : (sm zs t).2.o = true
      · rw [readG_o zs n _ ho2]
        simp
        omega
      · have := (h5.1 (by simpa using ho2)).2
        omega
theorem readRob_more {zs : List Nat} {n : Nat} {t : Tk} (ho : t.o = false) : readRob zs (n + 1) t = ((five zs t).1 :: (readRob zs n (five zs t).2).1, (readRob zs n (five zs t).2).2) := by
  show (if t.o = true then _ else _) = _
  rw [if_neg (by simp [ho])]
theorem readG_more {zs : List Nat} {n : Nat} {p : Int} {t : Tk} (ho : t.o = false) : readG zs (n + 1) p t = ((p + 1 + (sm zs t).1) :: (readG zs n (p + 1 + (sm zs t).1) (sm zs t).2).1, (readG zs n (p + 1 + (sm zs t).1) (sm zs t).2).2) := by
  show (if t.o = true then _ else _) = _
  rw [if_neg (by simp [ho])]

theorem five_of {zs : List Nat} {t t1 t2 t3 t4 t5 : Tk} {a b c d e : Nat} (h1 : sm zs t = (a, t1)) (h2 : sm zs t1 = (b, t2)) (h3 : sm zs t2 = (c, t3)) (h4 : sm zs t3 = (d, t4)) (h5 : sm zs t4 = (e, t5)) : five zs t = (⟨a, b, c, d, e⟩, t5) := by
  unfold five
  simp only [h1, h2, h3, h4, h5]

/-- What reads stands ahead of these bytes. -/
def Rd (zs : List Nat) (t : Tk) (l : List Nat) : Prop := t.o = false ∧ t.p ≤ zs.length ∧ zs.drop t.p = l
theorem tk_enc {zs r : List Nat} {t : Tk} {n : Nat} (h : Rd zs t (enc n ++ r)) (hn : n < 18446744073709551616) : ∃ t', tk zs t = (n, t') ∧ Rd zs t' r := by
  obtain ⟨h1, h2, h3⟩ := h
  have e := dec_enc64 n r hn
  rw [← h3] at e
  have ht : takeS zs t.p = (n, t.p + (enc n).length, 0) := by
    unfold takeS
    rw [if_neg (by omega)]
    simp only [Int.toNat_natCast]
    rw [e, if_pos rfl]
  refine ⟨⟨t.p + (enc n).length, false⟩, by unfold tk; rw [if_neg (by simp [h1]), ht, if_pos rfl], rfl, ?_, ?_⟩
  · have := congrArg List.length h3
    rw [List.length_drop, List.length_append] at this
    show t.p + (enc n).length ≤ zs.length
    omega
  · show zs.drop (t.p + (enc n).length) = r
    rw [← List.drop_drop, h3, List.drop_left]
theorem sm_enc {zs r : List Nat} {t : Tk} {n : Nat} (h : Rd zs t (enc n ++ r)) (hn : n ≤ 2147483648) : ∃ t', sm zs t = (n, t') ∧ Rd zs t' r := by
  obtain ⟨t', e, h'⟩ := tk_enc h (by omega)
  exact ⟨t', by unfold sm; rw [e, if_neg (by omega)], h'⟩
theorem sm_encI {zs r : List Nat} {t : Tk} {x : Int} (h : Rd zs t (encI x ++ r)) (h0 : 0 ≤ x) (hn : x ≤ 2147483648) : ∃ t', sm zs t = (x.toNat, t') ∧ Rd zs t' r := sm_enc h (by omega)
theorem five_enc {zs r : List Nat} {t : Tk} {x : Rec} (h : Rd zs t (encRob x ++ r)) (ha : InR x.a) (hb : InR x.b) (hc : InR x.c) (hd : InR x.d) (he : 0 ≤ x.e ∧ x.e ≤ 2147483648) : ∃ t', five zs t = (x, t') ∧ Rd zs t' r := by
  unfold encRob at h
  simp only [List.append_assoc] at h
  obtain ⟨t1, e1, h⟩ := sm_encI h ha.1 (by have := ha.2; omega)
  obtain ⟨t2, e2, h⟩ := sm_encI h hb.1 (by have := hb.2; omega)
  obtain ⟨t3, e3, h⟩ := sm_encI h hc.1 (by have := hc.2; omega)
  obtain ⟨t4, e4, h⟩ := sm_encI h hd.1 (by have := hd.2; omega)
  obtain ⟨t5, e5, h⟩ := sm_encI h he.1 he.2
  refine ⟨t5, ?_, h⟩
  unfold five
  simp only [e1, e2, e3, e4, e5]
  rw [Int.toNat_of_nonneg ha.1, Int.toNat_of_nonneg hb.1, Int.toNat_of_nonneg hc.1, Int.toNat_of_nonneg hd.1, Int.toNat_of_nonneg he.1]
theorem readRob_enc {zs r : List Nat} : ∀ (rs : List Rec) (t : Tk), Rd zs t (rs.flatMap encRob ++ r) → (∀ x ∈ rs, InR x.a ∧ InR x.b ∧ InR x.c ∧ InR x.d ∧ 0 ≤ x.e ∧ x.e ≤ 2147483648) → ∃ t', readRob zs rs.length t = (rs, t') ∧ Rd zs t' r
  | [], t, h, _ => ⟨t, rfl, h⟩
  | x :: q, t, h, hx => by
    rw [List.flatMap_cons, List.append_assoc] at h
    obtain ⟨ha, hb, hc, hd, he⟩ := hx x (by simp)
    have ho := h.1
    obtain ⟨t1, e1, h1⟩ := five_enc h ha hb hc hd he
    obtain ⟨t2, e2, h2⟩ := readRob_enc q t1 h1 (fun y hy => hx y (by simp [hy]))
    refine ⟨t2, ?_, h2⟩
    rw [List.length_cons]
    unfold readRob
    rw [if_neg (by simp [ho]), e1]
    simp only []
    rw [e2]
theorem readJob_enc {zs r : List Nat} (rs : List Rec) (t : Tk) (h : Rd zs t (rs.flatMap encJob ++ r)) (hx : ∀ x ∈ rs, JobIn x) : ∃ t', readJob zs rs.length t = (rs, t') ∧ Rd zs t' r := by
  have e0 : rs.flatMap encJob = (rs.map fun x => (⟨x.a, x.b, x.c, x.d, x.e + 1⟩ : Rec)).flatMap encRob := by
    rw [List.flatMap_map]
    rfl
  rw [e0] at h
  obtain ⟨t', e, h'⟩ := readRob_enc _ t h (by
    intro y hy
    obtain ⟨x, hx1, rfl⟩ := List.mem_map.1 hy
    obtain ⟨a1, a2, a3, a4, a5, a6⟩ := hx x hx1
    exact ⟨a1, a2, a3, a4, by show 0 ≤ x.e + 1; omega, by show x.e + 1 ≤ 2147483648; omega⟩)
  rw [List.length_map] at e
  refine ⟨t', ?_, h'⟩
  unfold readJob
  rw [e]
  simp only [List.map_map]
  congr 1
  refine (List.map_congr_left fun x _ => ?_).trans (List.map_id _)
  obtain ⟨_, _, _, _, _⟩ := x
  simp [lessE]
theorem readG_enc {zs r : List Nat} : ∀ (bl : List Int) (p : Int) (t : Tk), Rd zs t (encG p bl ++ r) → -1 ≤ p → UpIn p bl → ∃ t', readG zs bl.length p t = (bl, t') ∧ Rd zs t' r
  | [], _, t, h, _, _ => ⟨t, rfl, h⟩
  | x :: q, p, t, h, hp, hu => by
    obtain ⟨u1, u2, u3⟩ := hu
    unfold encG at h
    rw [List.append_assoc] at h
    have ho := h.1
    obtain ⟨t1, e1, h1⟩ := sm_encI h (by omega) (by omega)
    have ex : p + 1 + ((x - p - 1).toNat : Int) = x := by omega
    obtain ⟨t2, e2, h2⟩ := readG_enc q x t1 h1 (by omega) u3
    refine ⟨t2, ?_, h2⟩
    rw [List.length_cons]
    unfold readG
    rw [if_neg (by simp [ho]), e1]
    simp only [ex]
    rw [e2]

/-- What is read of any bytes, as far as it goes. -/
def readSt (zs : List Nat) : St × Tk :=
  (⟨((sm zs ⟨0, false⟩).1 : Nat), (readRob zs (sm zs (sm zs ⟨0, false⟩).2).1 (sm zs (sm zs ⟨0, false⟩).2).2).1,
    (readJob zs (sm zs (readRob zs (sm zs (sm zs ⟨0, false⟩).2).1 (sm zs (sm zs ⟨0, false⟩).2).2).2).1 (sm zs (readRob zs (sm zs (sm zs ⟨0, false⟩).2).1 (sm zs (sm zs ⟨0, false⟩).2).2).2).2).1,
    (readG zs (sm zs (readJob zs (sm zs (readRob zs (sm zs (sm zs ⟨0, false⟩).2).1 (sm zs (sm zs ⟨0, false⟩).2).2).2).1 (sm zs (readRob zs (sm zs (sm zs ⟨0, false⟩).2).1 (sm zs (sm zs ⟨0, false⟩).2).2).2).2).2).1 (-1) (sm zs (readJob zs (sm zs (readRob zs (sm zs (sm zs ⟨0, false⟩).2).1 (sm zs (sm zs ⟨0, false⟩).2).2).2).1 (sm zs (readRob zs (sm zs (sm zs ⟨0, false⟩).2).1 (sm zs (sm zs ⟨0, false⟩).2).2).2).2).2).2).1⟩,
    (readG zs (sm zs (readJob zs (sm zs (readRob zs (sm zs (sm zs ⟨0, false⟩).2).1 (sm zs (sm zs ⟨0, false⟩).2).2).2).1 (sm zs (readRob zs (sm zs (sm zs ⟨0, false⟩).2).1 (sm zs (sm zs ⟨0, false⟩).2).2).2).2).2).1 (-1) (sm zs (readJob zs (sm zs (readRob zs (sm zs (sm zs ⟨0, false⟩).2).1 (sm zs (sm zs ⟨0, false⟩).2).2).2).1 (sm zs (readRob zs (sm zs (sm zs ⟨0, false⟩).2).1 (sm zs (sm zs ⟨0, false⟩).2).2).2).2).2).2).2)
theorem readSt_of {zs : List Nat} {a n m k : Nat} {t1 t2 t3 t4 t5 t6 t7 : Tk} {rs ts : List Rec} {bl : List Int} (h1 : sm zs ⟨0, false⟩ = (a, t1)) (h2 : sm zs t1 = (n, t2)) (h3 : readRob zs n t2 = (rs, t3)) (h4 : sm zs t3 = (m, t4)) (h5 : readJob zs m t4 = (ts, t5)) (h6 : sm zs t5 = (k, t6)) (h7 : readG zs k (-1) t6 = (bl, t7)) :
    readSt zs = (⟨a, rs, ts, bl⟩, t7) := by
  unfold readSt
  simp only [h1, h2, h3, h4, h5, h6, h7]
/-- What was laid is read. -/
theorem readSt_enc {s : St} (h : CanS s) : ∃ t, readSt (encS s) = (s, t) ∧ t.o = false := by
  have h0 : Rd (encS s) ⟨0, false⟩ (encS s) := ⟨rfl, Nat.zero_le _, List.drop_zero⟩
  have e0 : encS s = encI s.tick ++ (enc s.rs.length ++ (s.rs.flatMap encRob ++ (enc s.ts.length ++ (s.ts.flatMap encJob ++ (enc s.bl.length ++ (encG (-1) s.bl ++ [])))))) := by
    unfold encS
    simp only [List.append_assoc, List.append_nil]
  rw [e0] at h0 ⊢
  obtain ⟨t1, e1, h1⟩ := sm_encI h0 h.tick.1 (by have := h.tick.2; omega)
  obtain ⟨t2, e2, h2⟩ := sm_enc h1 (by have := h.rn; omega)
  obtain ⟨t3, e3, h3⟩ := readRob_enc s.rs t2 h2 (fun x hx => by
    obtain ⟨a1, a2, a3, a4, a5⟩ := h.rob x hx
    exact ⟨a1, a2, a3, a4, a5.1, by omega⟩)
  obtain ⟨t4, e4, h4⟩ := sm_enc h3 (by have := h.tn; omega)
  obtain ⟨t5, e5, h5⟩ := readJob_enc s.ts t4 h4 h.job
  obtain ⟨t6, e6, h6⟩ := sm_enc h5 (by have := h.bn; omega)
  obtain ⟨t7, e7, h7⟩ := readG_enc s.bl (-1) t6 h6 (by omega) h.up
  refine ⟨t7, ?_, h7.1⟩
  rw [readSt_of e1 e2 e3 e4 e5 e6 e7, Int.toNat_of_nonneg h.tick.1]
/-- Two states that can be encoded, and are encoded alike, are the same. -/
theorem encS_inj {s s' : St} (h : CanS s) (h' : CanS s') (e : encS s = encS s') : s = s' := by
  obtain ⟨t, e1, _⟩ := readSt_enc h
  obtain ⟨t', e2, _⟩ := readSt_enc h'
  rw [e, e2] at e1
  exact (Prod.mk.inj e1).1.symm
/-- All numbers that the document looks at. -/
def robN (r : Rec) : List Int := [r.a, r.b, r.c, r.d, r.e]
def jobN (r : Rec) : List Int := [r.a, r.b, r.c, r.d, 0]
def numsS (s : St) : List Int := ([s.tick, (s.rs.length : Int)] ++ s.rs.flatMap robN ++ [(s.ts.length : Int)] ++ s.ts.flatMap jobN) ++ [(s.bl.length : Int)] ++ s.bl
theorem flat_take {α : Type} {f : Rec → List α} {rs : List Rec} {k : Nat} (hk : k < rs.length) : (rs.take (k + 1)).flatMap f = (rs.take k).flatMap f ++ f (rs.getD k zr) := by
  rw [List.take_succ_eq_append_getElem hk, List.flatMap_append]
  simp [List.getD, hk]
theorem flat_len {α : Type} {f : Rec → List α} {m : Nat} (h : ∀ r, (f r).length = m) : ∀ rs : List Rec, (rs.flatMap f).length = m * rs.length
  | [] => by simp
  | r :: q => by rw [List.flatMap_cons, List.length_append, h, flat_len h q, List.length_cons, Nat.mul_succ, Nat.add_comm]
theorem upIn_of : ∀ (l : List Int) (p : Int), (∀ x ∈ l, x ≤ 2147483647) → (∀ h : 0 < l.length, p < l.getD 0 0) → (∀ i, 0 < i → i < l.length → l.getD (i - 1) 0 < l.getD i 0) → UpIn p l
  | [], _, _, _, _ => trivial
  | x :: q, p, h1, h2, h3 => by
    refine ⟨by simpa using h2 (by simp), h1 x (by simp), upIn_of q x (fun y hy => h1 y (by simp [hy])) (fun h => ?_) (fun i hi hl => ?_)⟩
    · have := h3 1 (by omega) (by simpa using h)
      simpa using this
    · have := h3 (i + 1) (by omega) (by simpa using hl)
      obtain ⟨j, rfl⟩ : ∃ j, i = j + 1 := ⟨i - 1, by omega⟩
      simpa using this
theorem upIn_up : ∀ {l : List Int} {p : Int}, UpIn p l → (∀ x ∈ l, p < x ∧ x ≤ 2147483647) ∧ ∀ i, 0 < i → i < l.length → l.getD (i - 1) 0 < l.getD i 0
  | [], _, _ => ⟨fun x hx => by simp at hx, fun i _ h => by simp at h⟩
  | x :: q, p, ⟨h1, h2, h3⟩ => by
    obtain ⟨i1, i2⟩ := upIn_up h3
    refine ⟨fun y hy => ?_, fun i hi hl => ?_⟩
    · rcases List.mem_cons.1 hy with rfl | hy
      · exact ⟨h1, h2⟩
      · exact ⟨by have := (i1 y hy).1; omega, (i1 y hy).2⟩
    · obtain ⟨j, rfl⟩ : ∃ j, i = j + 1 := ⟨i - 1, by omega⟩
      cases j with
      | zero =>
        cases q with
        | nil => simp at hl
        | cons y r => simpa using (i1 y (by simp)).1
      | succ j =>
        have := i2 (j + 1) (by omega) (by simpa using hl)
        simpa using this
/-- A task's robot may be. -/
abbrev RoIn (r : Rec) : Prop := -1 ≤ r.e ∧ r.e ≤ 2147483647
theorem canS_of {s : St} (hj : ∀ i, i < s.ts.length → RoIn (s.ts.getD i zr)) (hu : ∀ i, 0 < i → i < s.bl.length → s.bl.getD (i - 1) 0 < s.bl.getD i 0) (hn : ∀ i, i < (numsS s).length → InR ((numsS s).getD i 0)) : CanS s := by
  have hm : ∀ x ∈ numsS s, InR x := fun x hx => by
    obtain ⟨i, hi, e⟩ := List.getElem_of_mem hx
    have := hn i hi
    simp only [List.getD, List.getElem?_eq_getElem hi, Option.getD_some, e] at this
    exact this
  have hb : ∀ x ∈ s.bl, InR x := fun x hx => hm x (by simp [numsS, hx])
  refine ⟨hm _ (by simp [numsS]), ?_, ?_, ?_, ?_, ?_, ?_⟩
  · have := (hm (s.rs.length : Int) (by simp [numsS])).2; omega
  · have := (hm (s.ts.length : Int) (by simp [numsS])).2; omega
  · have := (hm (s.bl.length : Int) (by simp [numsS])).2; omega
  · intro r hr
    have h : ∀ x ∈ robN r, InR x := fun x hx => hm x (by
      have : x ∈ s.rs.flatMap robN := List.mem_flatMap.2 ⟨r, hr, hx⟩
      simp [numsS, this])
    exact ⟨h _ (by simp [robN]), h _ (by simp [robN]), h _ (by simp [robN]), h _ (by simp [robN]), h _ (by simp [robN])⟩
  · intro r hr
    have h : ∀ x ∈ jobN r, InR x := fun x hx => hm x (by
      have : x ∈ s.ts.flatMap jobN := List.mem_flatMap.2 ⟨r, hr, hx⟩
      simp [numsS, this])
    obtain ⟨i, hi, e⟩ := List.getElem_of_mem hr
    have hro := hj i hi
    simp only [List.getD, List.getElem?_eq_getElem hi, Option.getD_some, e] at hro
    exact ⟨h _ (by simp [jobN]), h _ (by simp [jobN]), h _ (by simp [jobN]), h _ (by simp [jobN]), hro.1, hro.2⟩
  · refine upIn_of _ _ (fun x hx => (hb x hx).2) (fun h => ?_) hu
    have := (hb (s.bl.getD 0 0) (by
      cases hbl : s.bl with
      | nil => rw [hbl] at h; simp at h
      | cons y q => simp)).1
    omega
theorem canS_job {s : St} (h : CanS s) : ∀ i, i < s.ts.length → RoIn (s.ts.getD i zr) := fun i hi => by
  have := h.job (s.ts.getD i zr) (by simp [List.getD, hi])
  exact this.2.2.2.2
theorem canS_up {s : St} (h : CanS s) : ∀ i, 0 < i → i < s.bl.length → s.bl.getD (i - 1) 0 < s.bl.getD i 0 := (upIn_up h.up).2
theorem canS_num {s : St} (h : CanS s) : ∀ i, i < (numsS s).length → InR ((numsS s).getD i 0) := fun i hi => by
  have hm : ∀ x ∈ numsS s, InR x := by
    intro x hx
    unfold numsS at hx
    have hl : ∀ (n : Nat), n ≤ 2147483647 → InR (n : Int) := fun n hn => ⟨by omega, by omega⟩
    rcases List.mem_append.1 hx with hx | hx
    · rcases List.mem_append.1 hx with hx | hx
      · rcases List.mem_append.1 hx with hx | hx
        · rcases List.mem_append.1 hx with hx | hx
          · rcases List.mem_append.1 hx with hx | hx
            · rcases List.mem_cons.1 hx with rfl | hx
              · exact h.tick
              · rw [List.mem_singleton.1 hx]
                exact hl _ h.rn
            · obtain ⟨r, hr, hx⟩ := List.mem_flatMap.1 hx
              obtain ⟨a1, a2, a3, a4, a5⟩ := h.rob r hr
              simp only [robN, List.mem_cons, List.not_mem_nil, or_false] at hx
              rcases hx with rfl | rfl | rfl | rfl | rfl <;> assumption
          · rw [List.mem_singleton.1 hx]
            exact hl _ h.tn
        · obtain ⟨r, hr, hx⟩ := List.mem_flatMap.1 hx
          obtain ⟨a1, a2, a3, a4, a5⟩ := h.job r hr
          simp only [jobN, List.mem_cons, List.not_mem_nil, or_false] at hx
          rcases hx with rfl | rfl | rfl | rfl | rfl
          · exact a1
          · exact a2
          · exact a3
          · exact a4
          · exact ⟨by omega, by omega⟩
      · rw [List.mem_singleton.1 hx]
        exact hl _ h.bn
    · obtain ⟨i1, i2⟩ := (upIn_up h.up).1 x hx
      exact ⟨by omega, i2⟩
  exact hm _ (by simp [List.getD, hi])
theorem encI_len (x : Int) (h : x ≤ 9223372036854775807) : (encI x).length ≤ 10 := (enc_len64 (n := x.toNat) (by omega)).2
theorem flat_le {α : Type} {f : Rec → List α} {n : Nat} : ∀ {rs : List Rec}, (∀ r ∈ rs, (f r).length ≤ n) → (rs.flatMap f).length ≤ n * rs.length
  | [], _ => by simp
  | r :: q, h => by
    have h1 := flat_le (rs := q) (fun x hx => h x (by simp [hx]))
    have h2 := h r (by simp)
    rw [List.flatMap_cons, List.length_append, List.length_cons, Nat.mul_succ]
    omega
theorem encRob_le {r : Rec} (h : RobIn r) : (encRob r).length ≤ 50 := by
  obtain ⟨a, b, c, d, e⟩ := h
  have a1 := encI_len r.a (by omega)
  have b1 := encI_len r.b (by omega)
  have c1 := encI_len r.c (by omega)
  have d1 := encI_len r.d (by omega)
  have e1 := encI_len r.e (by omega)
  unfold encRob
  simp only [List.length_append]
  omega
theorem encJob_le {r : Rec} (h : JobIn r) : (encJob r).length ≤ 50 := by
  obtain ⟨a, b, c, d, e⟩ := h
  have a1 := encI_len r.a (by omega)
  have b1 := encI_len r.b (by omega)
  have c1 := encI_len r.c (by omega)
  have d1 := encI_len r.d (by omega)
  have e1 := encI_len (r.e + 1) (by omega)
  unfold encJob
  simp only [List.length_append]
  omega
theorem encG_take : ∀ (l : List Int) (p : Int) (k : Nat), k < l.length → encG p (l.take (k + 1)) = encG p (l.take k) ++ encI (l.getD k 0 - (if k = 0 then p else l.getD (k - 1) 0) - 1)
  | [], _, _, h => by simp at h
  | x :: q, p, 0, _ => by simp [encG]
  | x :: q, p, k + 1, h => by
    have ih := encG_take q x k (by simpa using h)
    rw [List.take_succ_cons, List.take_succ_cons]
    unfold encG
    rw [ih, ← List.append_assoc]
    congr 2
    cases k with
    | zero => simp
    | succ j => simp
theorem encG_le : ∀ (l : List Int) (p : Int), -1 ≤ p → UpIn p l → (encG p l).length ≤ 10 * l.length
  | [], _, _, _ => by simp [encG]
  | x :: q, p, hp, ⟨h1, h2, h3⟩ => by
    have h := encG_le q x (by omega) h3
    have hx := encI_len (x - p - 1) (by omega)
    unfold encG
    rw [List.length_append, List.length_cons]
    omega
theorem upIn_take : ∀ {l : List Int} {p : Int} (k : Nat), UpIn p l → UpIn p (l.take k)
  | _, _, 0, _ => trivial
  | [], _, _ + 1, _ => trivial
  | x :: q, p, k + 1, ⟨h1, h2, h3⟩ => ⟨h1, h2, upIn_take k h3⟩
theorem encI_byte (x : Int) : ∀ z ∈ encI x, z < 256 := enc_byte _ _ (Nat.le_refl _)
theorem encRob_byte (r : Rec) : ∀ z ∈ encRob r, z < 256 := by
  intro z hz
  unfold encRob at hz
  simp only [List.mem_append] at hz
  rcases hz with (((hz | hz) | hz) | hz) | hz <;> exact encI_byte _ z hz
theorem encJob_byte (r : Rec) : ∀ z ∈ encJob r, z < 256 := by
  intro z hz
  unfold encJob at hz
  simp only [List.mem_append] at hz
  rcases hz with (((hz | hz) | hz) | hz) | hz <;> exact encI_byte _ z hz
theorem encG_byte : ∀ (l : List Int) (p : Int), ∀ z ∈ encG p l, z < 256
  | [], _, z, hz => by simp [encG] at hz
  | x :: r, p, z, hz => by
    unfold encG at hz
    rcases List.mem_append.1 hz with hz | hz
    · exact encI_byte _ z hz
    · exact encG_byte r x z hz
theorem encS_byte (s : St) : ∀ z ∈ encS s, z < 256 := by
  intro z hz
  unfold encS at hz
  simp only [List.mem_append, List.mem_flatMap] at hz
  rcases hz with (((((hz | hz) | ⟨r, _, hz⟩) | hz) | ⟨r, _, hz⟩) | hz) | hz
  · exact encI_byte _ z hz
  · exact enc_byte _ _ (Nat.le_refl _) z hz
  · exact encRob_byte r z hz
  · exact enc_byte _ _ (Nat.le_refl _) z hz
  · exact encJob_byte r z hz
  · exact enc_byte _ _ (Nat.le_refl _) z hz
  · exact encG_byte _ _ z hz
end Go.Proofs.YtplnaaokapilpaaDoor.Vm

namespace Go.Proofs.YtplnaaokapilpaaDoor.Vm

/-- A record as lists; ck: its Check. -/
structure Rcd where
  tick : Int
  ins : List Inp
  cs : List Int
  ws : List Int
  ck : Int
/-- The maximal sequences of equal elements: the element, and how many. -/
def runs : List Int → List (Int × Nat)
  | [] => []
  | x :: r => match runs r with
    | [] => [(x, 1)]
    | (y, m) :: q => if x = y then (y, m + 1) :: q else (x, 1) :: (y, m) :: q
def expand (l : List (Int × Nat)) : List Int := l.flatMap fun p => List.replicate p.2 p.1
theorem runs_nil {l : List Int} (h : runs l = []) : l = [] := by
  cases l with
  | nil => rfl
  | cons x r =>
    unfold runs at h
    split at h
    · simp at h
    · split at h <;> simp at h
theorem runs_head (y : Int) (r : List Int) : ∃ m q, runs (y :: r) = (y, m + 1) :: q := by
  unfold runs
  split
  · exact ⟨0, [], rfl⟩
  · rename_i z m q _
    by_cases h : y = z
    · rw [if_pos h, h]; exact ⟨m, q, rfl⟩
    · rw [if_neg h]; exact ⟨0, _, rfl⟩
theorem runs_one {x : Int} {r : List Int} (h : ∀ y q, r = y :: q → x ≠ y) : runs (x :: r) = (x, 1) :: runs r := by
  cases r with
  | nil => rfl
  | cons y q =>
    obtain ⟨m, p, e⟩ := runs_head y q
    show (match runs (y :: q) with | [] => [(x, 1)] | (y, m) :: q => if x = y then (y, m + 1) :: q else (x, 1) :: (y, m) :: q) = _
    rw [e]
    simp only []
    rw [if_neg (h y q rfl)]
theorem runs_rep {x : Int} {r : List Int} (h : ∀ y q, r = y :: q → x ≠ y) : ∀ n, runs (List.replicate (n + 1) x ++ r) = (x, n + 1) :: runs r
  | 0 => runs_one h
  | n + 1 => by
    have ih := runs_rep h n
    rw [List.replicate_succ, List.cons_append]
    show (match runs (List.replicate (n + 1) x ++ r) with | [] => [(x, 1)] | (y, m) :: q => if x = y then (y, m + 1) :: q else (x, 1) :: (y, m) :: q) = _
    rw [ih]
    simp
theorem expand_runs : ∀ l : List Int, expand (runs l) = l
  | [] => rfl
  | x :: r => by
    have ih := expand_runs r
    cases r with
    | nil => rfl
    | cons y q =>
      obtain ⟨m, p, e⟩ := runs_head y q
      rw [e] at ih
      unfold runs
      rw [e]
      simp only []
      by_cases h : x = y
      · subst h
        rw [if_pos rfl]
        rw [← ih]
        simp [expand, List.replicate_succ]
      · rw [if_neg h]
        rw [← ih]
        simp [expand]
theorem runs_mem : ∀ (l : List Int), ∀ p ∈ runs l, p.1 ∈ l ∧ 1 ≤ p.2 ∧ p.2 ≤ l.length
  | [], p, hp => by simp [runs] at hp
  | x :: r, p, hp => by
    have ih := runs_mem r
    unfold runs at hp
    split at hp
    · obtain rfl := List.mem_singleton.1 hp
      simp
    · rename_i y m q e
      rw [e] at ih
      obtain ⟨i1, i2, i3⟩ := ih (y, m) (by simp)
      simp only at i1 i2 i3
      split at hp
      · rcases List.mem_cons.1 hp with rfl | h2
        · refine ⟨List.mem_cons_of_mem _ i1, by simp, by simp; omega⟩
        · obtain ⟨j1, j2, j3⟩ := ih p (by simp [h2])
          exact ⟨List.mem_cons_of_mem _ j1, j2, by simp; omega⟩
      · rcases List.mem_cons.1 hp with rfl | h2
        · refine ⟨by simp, by simp, by simp⟩
        · obtain ⟨j1, j2, j3⟩ := ih p h2
          exact ⟨List.mem_cons_of_mem _ j1, j2, by simp; omega⟩
theorem runs_len : ∀ l : List Int, (runs l).length ≤ l.length
  | [] => by simp [runs]
  | x :: r => by
    have ih := runs_len r
    unfold runs
    split
    · simp
    · rename_i y m q e
      rw [e] at ih
      simp only [List.length_cons] at ih ⊢
      split <;> simp <;> omega

def encZ (x : Int) : List Nat := enc (zig x).toNat
def encPut (p : Inp × Int) : List Nat := encZ p.1.k ++ encZ p.1.a ++ encZ p.1.b ++ encZ p.1.c ++ encI p.2
def encRun (p : Int × Nat) : List Nat := encI p.1 ++ enc (p.2 - 1)
def encR (x : Rcd) : List Nat :=
  encI x.tick ++ enc x.ins.length ++ (x.ins.zip x.cs).flatMap encPut ++ enc (runs x.ws).length ++ (runs x.ws).flatMap encRun ++ encI x.ck
abbrev I64 (x : Int) : Prop := -9223372036854775808 ≤ x ∧ x ≤ 9223372036854775807
abbrev InpWf (x : Inp) : Prop := I64 x.k ∧ I64 x.a ∧ I64 x.b ∧ I64 x.c
/-- A record's numbers are of their types. -/
structure WfR (x : Rcd) : Prop where
  ins : ∀ p ∈ x.ins, InpWf p
  ck : 0 ≤ x.ck ∧ x.ck < 4294967296
structure CanR (x : Rcd) : Prop where
  tick : InR x.tick
  cn : x.cs.length = x.ins.length
  cs : ∀ c ∈ x.cs, 0 ≤ c ∧ c ≤ 255
  ws : ∀ v ∈ x.ws, 0 ≤ v ∧ v ≤ 4

theorem tk_lt {zs : List Nat} (hz : ∀ x ∈ zs, x < 256) (t : Tk) : (tk zs t).1 < 18446744073709551616 := by
  unfold tk
  split
  · simp
  · split
    · rename_i h
      exact (takeS_ok hz h).2.2.2.2.1
    · simp
def onePut (zs : List Nat) (t : Tk) : (Inp × Int) × Tk :=
  ((⟨zag (tk zs t).1, zag (tk zs (tk zs t).2).1, zag (tk zs (tk zs (tk zs t).2).2).1, zag (tk zs (tk zs (tk zs (tk zs t).2).2).2).1⟩, ((sm zs (tk zs (tk zs (tk zs (tk zs t).2).2).2).2).1 : Nat)), (sm zs (tk zs (tk zs (tk zs (tk zs t).2).2).2).2).2)
def readPut (zs : List Nat) : Nat → Tk → List (Inp × Int) × Tk
  | 0, t => ([], t)
  | n + 1, t => if t.o = true then ([], t) else ((onePut zs t).1 :: (readPut zs n (onePut zs t).2).1, (readPut zs n (onePut zs t).2).2)
/-- The ways, behind some; none: more than 100000. -/
def readW (zs : List Nat) : Nat → List Int → Tk → Option (List Int × Tk)
  | 0, ws, t => some (ws, t)
  | n + 1, ws, t => if t.o = true then some (ws, t) else
      if 100000 < ws.length + ((sm zs (sm zs t).2).1 + 1) then none else
        readW zs n (ws ++ if (sm zs (sm zs t).2).2.o = true then [] else List.replicate ((sm zs (sm zs t).2).1 + 1) ((sm zs t).1 : Int)) (sm zs (sm zs t).2).2
theorem tk_encZ {zs r : List Nat} {t : Tk} {x : Int} (h : Rd zs t (encZ x ++ r)) (hx : I64 x) : ∃ t', tk zs t = ((zig x).toNat, t') ∧ Rd zs t' r := tk_enc h (by have := zig_bd hx.1 hx.2; omega)
theorem zag_nat {x : Int} (hx : I64 x) : zag ((zig x).toNat : Int) = x := by
  rw [Int.toNat_of_nonneg (zig_bd hx.1 hx.2).1, zag_zig]
theorem onePut_enc {zs r : List Nat} {t : Tk} {p : Inp × Int} (h : Rd zs t (encPut p ++ r)) (hp : InpWf p.1) (hc : 0 ≤ p.2 ∧ p.2 ≤ 255) : ∃ t', onePut zs t = (p, t') ∧ Rd zs t' r := by
  unfold encPut at h
  simp only [List.append_assoc] at h
  obtain ⟨a1, a2, a3, a4⟩ := hp
  obtain ⟨t1, e1, h⟩ := tk_encZ h a1
  obtain ⟨t2, e2, h⟩ := tk_encZ h a2
  obtain ⟨t3, e3, h⟩ := tk_encZ h a3
  obtain ⟨t4, e4, h⟩ := tk_encZ h a4
  obtain ⟨t5, e5, h⟩ := sm_encI h hc.1 (by omega)
  refine ⟨t5, ?_, h⟩
  unfold onePut
  simp only [e1, e2, e3, e4, e5]
  rw [zag_nat a1, zag_nat a2, zag_nat a3, zag_nat a4, Int.toNat_of_nonneg hc.1]
theorem readPut_enc {zs r : List Nat} : ∀ (ps : List (Inp × Int)) (t : Tk), Rd zs t (ps.flatMap encPut ++ r) → (∀ p ∈ ps, InpWf p.1 ∧ 0 ≤ p.2 ∧ p.2 ≤ 255) → ∃ t', readPut zs ps.length t = (ps, t') ∧ Rd zs t' r
  | [], t, h, _ => ⟨t, rfl, h⟩
  | p :: q, t, h, hx => by
    rw [List.flatMap_cons, List.append_assoc] at h
    have ho := h.1
    obtain ⟨t1, e1, h1⟩ := onePut_enc h (hx p (by simp)).1 (hx p (by simp)).2
    obtain ⟨t2, e2, h2⟩ := readPut_enc q t1 h1 (fun y hy => hx y (by simp [hy]))
    refine ⟨t2, ?_, h2⟩
    rw [List.length_cons]
    unfold readPut
    rw [if_neg (by simp [ho]), e1]
    simp only []
    rw [e2]
theorem readW_enc {zs r : List Nat} : ∀ (l : List (Int × Nat)) (ws : List Int) (t : Tk), Rd zs t (l.flatMap encRun ++ r) → (∀ p ∈ l, 0 ≤ p.1 ∧ p.1 ≤ 4 ∧ 1 ≤ p.2) → (ws ++ expand l).length ≤ 100000 →
    ∃ t', readW zs l.length ws t = some (ws ++ expand l, t') ∧ Rd zs t' r
  | [], ws, t, h, _, _ => ⟨t, by simp [readW, expand], h⟩
  | p :: q, ws, t, h, hx, hn => by
    rw [List.flatMap_cons, List.append_assoc] at h
    unfold encRun at h
    rw [List.append_assoc] at h
    have ho := h.1
    obtain ⟨a1, a2, a3⟩ := hx p (by simp)
    have ee : expand (p :: q) = List.replicate p.2 p.1 ++ expand q := by simp [expand]
    rw [ee] at hn ⊢
    have hn' := hn
    simp only [List.length_append, List.length_replicate] at hn'
    obtain ⟨t1, e1, h1⟩ := sm_encI h a1 (by omega)
    obtain ⟨t2, e2, h2⟩ := sm_enc h1 (by omega)
    obtain ⟨t3, e3, h3⟩ := readW_enc q (ws ++ List.replicate p.2 p.1) t2 h2 (fun y hy => hx y (by simp [hy])) (by rw [List.append_assoc]; exact hn)
    refine ⟨t3, ?_, h3⟩
    rw [List.length_cons]
    unfold readW
    rw [if_neg (by simp [ho]), e1]
    simp only []
    rw [e2]
    simp only []
    rw [if_neg (by omega), if_neg (by simp [h2.1]), Nat.sub_add_cancel a3, Int.toNat_of_nonneg a1, e3, List.append_assoc]

/-- What is read of any bytes, as far as it goes; none: more than 100000 ways. -/
def readRc (zs : List Nat) : Option (Rcd × Tk) :=
  match sm zs ⟨0, false⟩ with
  | (a, t1) => match sm zs t1 with
    | (n, t2) => match readPut zs n t2 with
      | (ps, t3) => match sm zs t3 with
        | (m, t4) => match readW zs m [] t4 with
          | none => none
          | some (ws, t5) => some (⟨a, ps.map Prod.fst, ps.map Prod.snd, ws, ((tk zs t5).1 % 4294967296 : Nat)⟩, (tk zs t5).2)
theorem readRc_of {zs : List Nat} {a n m : Nat} {t1 t2 t3 t4 t5 : Tk} {ps : List (Inp × Int)} {ws : List Int} (h1 : sm zs ⟨0, false⟩ = (a, t1)) (h2 : sm zs t1 = (n, t2)) (h3 : readPut zs n t2 = (ps, t3)) (h4 : sm zs t3 = (m, t4)) (h5 : readW zs m [] t4 = some (ws, t5)) :
    readRc zs = some (⟨a, ps.map Prod.fst, ps.map Prod.snd, ws, ((tk zs t5).1 % 4294967296 : Nat)⟩, (tk zs t5).2) := by
  unfold readRc
  simp only [h1, h2, h3, h4, h5]
theorem readRc_none {zs : List Nat} {a n m : Nat} {t1 t2 t3 t4 : Tk} {ps : List (Inp × Int)} (h1 : sm zs ⟨0, false⟩ = (a, t1)) (h2 : sm zs t1 = (n, t2)) (h3 : readPut zs n t2 = (ps, t3)) (h4 : sm zs t3 = (m, t4)) (h5 : readW zs m [] t4 = none) :
    readRc zs = none := by
  unfold readRc
  simp only [h1, h2, h3, h4, h5]
theorem enc_pos (n : Nat) : 1 ≤ (enc n).length := by
  by_cases h : n < 128
  · rw [enc_small h]; simp
  · rw [enc_big (by omega)]; simp
theorem encPut_pos (p : Inp × Int) : 5 ≤ (encPut p).length := by
  unfold encPut encZ encI
  simp only [List.length_append]
  have h1 := enc_pos (zig p.1.k).toNat
  have h2 := enc_pos (zig p.1.a).toNat
  have h3 := enc_pos (zig p.1.b).toNat
  have h4 := enc_pos (zig p.1.c).toNat
  have h5 := enc_pos p.2.toNat
  omega
theorem encPuts_len : ∀ ps : List (Inp × Int), ps.length ≤ (ps.flatMap encPut).length
  | [] => by simp
  | p :: q => by
    have h1 := encPuts_len q
    have h2 := encPut_pos p
    rw [List.flatMap_cons, List.length_append, List.length_cons]
    omega
/-- What was laid is read. -/
theorem readRc_enc {x : Rcd} (h : CanR x) (hw : WfR x) (hn : x.ins.length ≤ 2147483648) (hs : x.ws.length ≤ 100000) : ∃ t, readRc (encR x) = some (x, t) ∧ t.o = false := by
  have h0 : Rd (encR x) ⟨0, false⟩ (encR x) := ⟨rfl, Nat.zero_le _, List.drop_zero⟩
  have e0 : encR x = encI x.tick ++ (enc (x.ins.zip x.cs).length ++ ((x.ins.zip x.cs).flatMap encPut ++ (enc (runs x.ws).length ++ ((runs x.ws).flatMap encRun ++ (enc x.ck.toNat ++ []))))) := by
    have el : (x.ins.zip x.cs).length = x.ins.length := by rw [List.length_zip, h.cn, Nat.min_self]
    rw [el]
    unfold encR encI
    simp only [List.append_assoc, List.append_nil]
  have hz : ∀ p ∈ x.ins.zip x.cs, InpWf p.1 ∧ 0 ≤ p.2 ∧ p.2 ≤ 255 := by
    intro p hp
    obtain ⟨u, v⟩ := p
    obtain ⟨h1, h2⟩ := List.of_mem_zip hp
    exact ⟨hw.ins u h1, h.cs v h2⟩
  have hl : (x.ins.zip x.cs).length ≤ 2147483648 := by rw [List.length_zip]; omega
  rw [e0] at h0 ⊢
  obtain ⟨t1, e1, h1⟩ := sm_encI h0 h.tick.1 (by have := h.tick.2; omega)
  obtain ⟨t2, e2, h2⟩ := sm_enc h1 hl
  obtain ⟨t3, e3, h3⟩ := readPut_enc _ t2 h2 hz
  obtain ⟨t4, e4, h4⟩ := sm_enc h3 (by have := runs_len x.ws; omega)
  obtain ⟨t5, e5, h5⟩ := readW_enc (runs x.ws) [] t4 h4 (fun p hp => by
    obtain ⟨m1, m2, _⟩ := runs_mem x.ws p hp
    exact ⟨(h.ws _ m1).1, (h.ws _ m1).2, m2⟩) (by rw [List.nil_append, expand_runs]; exact hs)
  obtain ⟨t6, e6, h6⟩ := tk_enc h5 (by have := hw.ck; omega)
  rw [List.nil_append, expand_runs] at e5
  refine ⟨t6, ?_, h6.1⟩
  rw [readRc_of e1 e2 e3 e4 e5, e6]
  have i1 : (x.ins.zip x.cs).map Prod.fst = x.ins := List.map_fst_zip (by rw [h.cn]; exact Nat.le_refl _)
  have i2 : (x.ins.zip x.cs).map Prod.snd = x.cs := List.map_snd_zip (by rw [h.cn]; exact Nat.le_refl _)
  have i3 : ((x.ck.toNat % 4294967296 : Nat) : Int) = x.ck := by have := hw.ck; omega
  rw [i1, i2]
  simp only []
  rw [i3, Int.toNat_of_nonneg h.tick.1]
theorem encR_ins {z : Rcd} {N : Nat} (hz : CanR z) (hl : (encR z).length ≤ N) : z.ins.length ≤ N := by
  have h1 := encPuts_len (z.ins.zip z.cs)
  rw [List.length_zip, hz.cn, Nat.min_self] at h1
  unfold encR at hl
  simp only [List.length_append] at hl
  omega
theorem encR_inj {x y : Rcd} (h : CanR x) (hw : WfR x) (hs : x.ws.length ≤ 100000) (h' : CanR y) (hw' : WfR y) (hs' : y.ws.length ≤ 100000) (hl : (encR x).length ≤ 2147483648) (e : encR x = encR y) : x = y := by
  obtain ⟨t, e1, _⟩ := readRc_enc h hw (encR_ins h hl) hs
  obtain ⟨t', e2, _⟩ := readRc_enc h' hw' (encR_ins h' (e ▸ hl)) hs'
  rw [e, e2] at e1
  exact (congrArg Prod.fst (Option.some.inj e1)).symm
theorem zip_take {ins : List Inp} {cs : List Int} {i : Nat} (hc : cs.length = ins.length) (hi : i < ins.length) : ((ins.zip cs).take (i + 1)).flatMap encPut = ((ins.zip cs).take i).flatMap encPut ++ encPut (ins.getD i zx, cs.getD i 0) := by
  have hl : i < (ins.zip cs).length := by rw [List.length_zip]; omega
  rw [List.take_succ_eq_append_getElem hl, List.flatMap_append, List.getElem_zip]
  simp [List.getD, hi, show i < cs.length by omega]
theorem run_at {ws : List Int} {i m : Nat} (hm : 1 ≤ m) (hi : i + m ≤ ws.length) (h1 : ∀ j, j < m → ws.getD (i + j) 0 = ws.getD i 0) (h2 : i + m < ws.length → ws.getD (i + m) 0 ≠ ws.getD i 0) :
    runs (ws.drop i) = (ws.getD i 0, m) :: runs (ws.drop (i + m)) := by
  have e : ws.drop i = List.replicate m (ws.getD i 0) ++ ws.drop (i + m) := by
    have e1 : (ws.drop i).take m = List.replicate m (ws.getD i 0) := by
      refine List.eq_replicate_iff.2 ⟨by rw [List.length_take, List.length_drop]; omega, fun b hb => ?_⟩
      obtain ⟨j, hj, rfl⟩ := List.getElem_of_mem hb
      rw [List.length_take, List.length_drop] at hj
      have := h1 j (by omega)
      simp only [List.getD, List.getElem?_eq_getElem (show i + j < ws.length by omega), Option.getD_some] at this
      rw [List.getElem_take, List.getElem_drop]
      exact this
    rw [← e1, ← List.drop_drop, List.take_append_drop]
  obtain ⟨k, rfl⟩ : ∃ k, m = k + 1 := ⟨m - 1, by omega⟩
  rw [e]
  refine runs_rep (fun y q hq => ?_) k
  have hl : i + (k + 1) < ws.length := by
    have := congrArg List.length hq
    rw [List.length_drop, List.length_cons] at this
    omega
  have := h2 hl
  rw [List.drop_eq_getElem_cons hl] at hq
  injection hq with hq1 _
  simp only [List.getD, List.getElem?_eq_getElem hl, Option.getD_some, hq1] at this
  simp only [List.getD] at this ⊢
  exact fun e => this e.symm
theorem encZ_len {x : Int} (hx : I64 x) : (encZ x).length ≤ 10 := (enc_len64 (n := (zig x).toNat) (by have := zig_bd hx.1 hx.2; omega)).2
theorem encRuns_le : ∀ {l : List (Int × Nat)}, (∀ p ∈ l, p.1 ≤ 4 ∧ p.2 ≤ 2147483647) → (l.flatMap encRun).length ≤ 20 * l.length
  | [], _ => by simp
  | p :: q, h => by
    have h1 := encRuns_le (l := q) (fun x hx => h x (by simp [hx]))
    obtain ⟨h2, h3⟩ := h p (by simp)
    have h4 := encI_len p.1 (by omega)
    have h5 := (enc_len64 (n := p.2 - 1) (by omega)).2
    have h6 : (encRun p).length ≤ 20 := by
      unfold encRun
      rw [List.length_append]
      omega
    rw [List.flatMap_cons, List.length_append, List.length_cons]
    omega
theorem encR_byte (x : Rcd) : ∀ z ∈ encR x, z < 256 := by
  intro z hz
  unfold encR encPut encRun encZ at hz
  simp only [List.mem_append, List.mem_flatMap] at hz
  rcases hz with ((((hz | hz) | ⟨p, _, hz⟩) | hz) | ⟨p, _, hz⟩) | hz
  · exact encI_byte _ z hz
  · exact enc_byte _ _ (Nat.le_refl _) z hz
  · rcases hz with (((hz | hz) | hz) | hz) | hz
    · exact enc_byte _ _ (Nat.le_refl _) z hz
    · exact enc_byte _ _ (Nat.le_refl _) z hz
    · exact enc_byte _ _ (Nat.le_refl _) z hz
    · exact enc_byte _ _ (Nat.le_refl _) z hz
    · exact encI_byte _ z hz
  · exact enc_byte _ _ (Nat.le_refl _) z hz
  · rcases hz with hz | hz
    · exact encI_byte _ z hz
    · exact enc_byte _ _ (Nat.le_refl _) z hz
  · exact encI_byte _ z hz
end Go.Proofs.YtplnaaokapilpaaDoor.Vm

namespace Go.Proofs.YtplnaaokapilpaaDoor.Vm

theorem enc_pf {n m : Nat} {r r' : List Nat} (hn : n < 18446744073709551616) (hm : m < 18446744073709551616) (h : enc n ++ r = enc m ++ r') : n = m ∧ r = r' := by
  have e1 := dec_enc64 n r hn
  rw [h, dec_enc64 m r' hm] at e1
  have e2 : m = n := congrArg Prod.fst e1
  subst e2
  exact ⟨rfl, List.append_cancel_left h⟩
theorem takeS_yes {zs : List Nat} {p : Nat} (hz : ∀ x ∈ zs, x < 256) (he : (takeS zs p).2.2 = 0) :
    (takeS zs p).2.1 ≤ zs.length ∧ zs.drop p = enc (takeS zs p).1 ++ zs.drop (takeS zs p).2.1 ∧ (takeS zs p).1 < 18446744073709551616 := by
  obtain ⟨_, h2, _, h4, h5, h6⟩ := takeS_ok hz he
  rw [Int.toNat_natCast] at h2 h6
  refine ⟨h4, ?_, h5⟩
  rw [h6]
  conv => lhs; rw [← List.take_append_drop ((takeS zs p).2.1 - p) (zs.drop p)]
  rw [List.drop_drop, show p + ((takeS zs p).2.1 - p) = (takeS zs p).2.1 by omega]
theorem takeS_no {zs : List Nat} {p : Nat} (hp : p ≤ zs.length) (he : (takeS zs p).2.2 ≠ 0) (n : Nat) (r : List Nat) (hn : n < 18446744073709551616) : zs.drop p ≠ enc n ++ r := fun h => by
  apply he
  unfold takeS
  rw [if_neg (by omega), Int.toNat_natCast, h, dec_enc64 n r hn, if_pos rfl]
/-- Numbers, one behind the other. -/
theorem encs_pf : ∀ {l l' : List Nat} {r r' : List Nat}, l.length = l'.length → (∀ x ∈ l, x < 18446744073709551616) → (∀ x ∈ l', x < 18446744073709551616) → l.flatMap enc ++ r = l'.flatMap enc ++ r' → l = l' ∧ r = r'
  | [], [], _, _, _, _, _, h => ⟨rfl, h⟩
  | [], _ :: _, _, _, h, _, _, _ => by simp at h
  | _ :: _, [], _, _, h, _, _, _ => by simp at h
  | x :: l, y :: l', r, r', hl, h1, h2, h => by
    rw [List.flatMap_cons, List.flatMap_cons, List.append_assoc, List.append_assoc] at h
    obtain ⟨rfl, h3⟩ := enc_pf (h1 x (by simp)) (h2 y (by simp)) h
    obtain ⟨rfl, h4⟩ := encs_pf (by simpa using hl) (fun z hz => h1 z (by simp [hz])) (fun z hz => h2 z (by simp [hz])) h3
    exact ⟨rfl, h4⟩
/-- Where the next number can't be taken, no longer list of numbers stands there. -/
theorem encs_fail : ∀ {pre l : List Nat} {ys r2 r : List Nat} {M : Nat}, ys = pre.flatMap enc ++ r2 → (∀ x r, x ≤ M → r2 ≠ enc x ++ r) → pre.length < l.length → l.getD pre.length 0 ≤ M → (∀ x ∈ pre, x < 18446744073709551616) → (∀ x ∈ l, x < 18446744073709551616) → ys ≠ l.flatMap enc ++ r
  | [], [], _, _, _, _, _, _, h, _, _, _ => by simp at h
  | [], x :: l, _, _, r, _, e, h, _, hm, _, _ => fun h' => h x (l.flatMap enc ++ r) (by simpa using hm) (by rw [← List.append_assoc, ← List.flatMap_cons, ← h', e]; rfl)
  | _ :: _, [], _, _, _, _, _, _, h, _, _, _ => by simp at h
  | y :: pre, x :: l, _, _, r, _, e, h, hl, hm, h1, h2 => fun h' => by
    rw [e, List.flatMap_cons, List.flatMap_cons, List.append_assoc, List.append_assoc] at h'
    obtain ⟨rfl, h3⟩ := enc_pf (h1 y (by simp)) (h2 x (by simp)) h'
    exact encs_fail (pre := pre) (l := l) rfl h (by simpa using hl) (by simpa using hm) (fun z hz => h1 z (by simp [hz])) (fun z hz => h2 z (by simp [hz])) h3

/-- Things that are encoded one behind the other, each of them told by its beginning. -/
structure Pf {α : Type} (ok : α → Prop) (f : α → List Nat) : Prop where
  one : ∀ x y r r', ok x → ok y → f x ++ r = f y ++ r' → x = y ∧ r = r'
theorem Pf.all {α : Type} {ok : α → Prop} {f : α → List Nat} (P : Pf ok f) : ∀ {l l' : List α} {r r' : List Nat}, l.length = l'.length → (∀ x ∈ l, ok x) → (∀ x ∈ l', ok x) → l.flatMap f ++ r = l'.flatMap f ++ r' → l = l' ∧ r = r'
  | [], [], _, _, _, _, _, h => ⟨rfl, h⟩
  | [], _ :: _, _, _, h, _, _, _ => by simp at h
  | _ :: _, [], _, _, h, _, _, _ => by simp at h
  | x :: l, y :: l', r, r', hl, h1, h2, h => by
    rw [List.flatMap_cons, List.flatMap_cons, List.append_assoc, List.append_assoc] at h
    obtain ⟨rfl, h3⟩ := P.one x y _ _ (h1 x (by simp)) (h2 y (by simp)) h
    obtain ⟨rfl, h4⟩ := P.all (by simpa using hl) (fun z hz => h1 z (by simp [hz])) (fun z hz => h2 z (by simp [hz])) h3
    exact ⟨rfl, h4⟩
theorem Pf.fail {α : Type} {ok : α → Prop} {f : α → List Nat} (P : Pf ok f) : ∀ {pre l : List α} {r2 r : List Nat}, (∀ x r, ok x → r2 ≠ f x ++ r) → pre.length < l.length → (∀ x ∈ pre, ok x) → (∀ x ∈ l, ok x) → pre.flatMap f ++ r2 ≠ l.flatMap f ++ r
  | _, [], _, _, _, h, _, _ => by simp at h
  | [], x :: l, _, r, h, _, _, h2 => fun h' => h x (l.flatMap f ++ r) (h2 x (by simp)) (by rw [← List.append_assoc, ← List.flatMap_cons, ← h']; rfl)
  | y :: pre, x :: l, _, r, h, hl, h1, h2 => fun h' => by
    rw [List.flatMap_cons, List.flatMap_cons, List.append_assoc, List.append_assoc] at h'
    obtain ⟨rfl, h3⟩ := P.one y x _ _ (h1 y (by simp)) (h2 x (by simp)) h'
    exact P.fail h (by simpa using hl) (fun z hz => h1 z (by simp [hz])) (fun z hz => h2 z (by simp [hz])) h3

theorem toNat_inj {x y : Int} (hx : 0 ≤ x) (hy : 0 ≤ y) (h : x.toNat = y.toNat) : x = y := by omega
def robL (r : Rec) : List Nat := [r.a.toNat, r.b.toNat, r.c.toNat, r.d.toNat, r.e.toNat]
theorem encRob_L (r : Rec) : encRob r = (robL r).flatMap enc := by simp [encRob, robL, encI, List.append_assoc]
def jobL (r : Rec) : List Nat := [r.a.toNat, r.b.toNat, r.c.toNat, r.d.toNat, (r.e + 1).toNat]
theorem encJob_L (r : Rec) : encJob r = (jobL r).flatMap enc := by simp [encJob, jobL, encI, List.append_assoc]
def putL (p : Inp × Int) : List Nat := [(zig p.1.k).toNat, (zig p.1.a).toNat, (zig p.1.b).toNat, (zig p.1.c).toNat, p.2.toNat]
theorem encPut_L (p : Inp × Int) : encPut p = (putL p).flatMap enc := by simp [encPut, putL, encI, encZ, List.append_assoc]
theorem robL_lt {r : Rec} (h : RobIn r) : ∀ x ∈ robL r, x < 18446744073709551616 := by
  obtain ⟨a, b, c, d, e⟩ := h
  intro x hx
  simp [robL] at hx
  rcases hx with rfl | rfl | rfl | rfl | rfl <;> omega
theorem jobL_lt {r : Rec} (h : JobIn r) : ∀ x ∈ jobL r, x < 18446744073709551616 := by
  obtain ⟨a, b, c, d, e⟩ := h
  intro x hx
  simp [jobL] at hx
  rcases hx with rfl | rfl | rfl | rfl | rfl <;> omega
theorem putL_lt {p : Inp × Int} (h : InpWf p.1) (hc : 0 ≤ p.2 ∧ p.2 ≤ 255) : ∀ x ∈ putL p, x < 18446744073709551616 := by
  obtain ⟨a, b, c, d⟩ := h
  have h1 := zig_bd a.1 a.2
  have h2 := zig_bd b.1 b.2
  have h3 := zig_bd c.1 c.2
  have h4 := zig_bd d.1 d.2
  intro x hx
  simp [putL] at hx
  rcases hx with rfl | rfl | rfl | rfl | rfl <;> omega
theorem zig_inj {x y : Int} (h : zig x = zig y) : x = y := by rw [← zag_zig x, h, zag_zig]
theorem zig_zag {n : Nat} (h : n < 18446744073709551616) : zig (zag n) = n ∧ I64 (zag n) := by
  unfold zig zag I64
  split <;> split <;> omega
theorem rob_pf : Pf RobIn encRob := ⟨fun x y r r' hx hy h => by
  rw [encRob_L, encRob_L] at h
  obtain ⟨h1, h2⟩ := encs_pf (by simp [robL]) (robL_lt hx) (robL_lt hy) h
  simp only [robL, List.cons.injEq, and_true] at h1
  obtain ⟨a, b, c, d, e⟩ := h1
  refine ⟨?_, h2⟩
  obtain ⟨xa, xb, xc, xd, xe⟩ := x
  obtain ⟨ya, yb, yc, yd, ye⟩ := y
  obtain ⟨a1, b1, c1, d1, e1⟩ := hx
  obtain ⟨a2, b2, c2, d2, e2⟩ := hy
  simp only at a b c d e a1 b1 c1 d1 e1 a2 b2 c2 d2 e2
  simp only [Rec.mk.injEq]
  refine ⟨?_, ?_, ?_, ?_, ?_⟩ <;> omega⟩
theorem job_pf : Pf JobIn encJob := ⟨fun x y r r' hx hy h => by
  rw [encJob_L, encJob_L] at h
  obtain ⟨h1, h2⟩ := encs_pf (by simp [jobL]) (jobL_lt hx) (jobL_lt hy) h
  simp only [jobL, List.cons.injEq, and_true] at h1
  obtain ⟨a, b, c, d, e⟩ := h1
  refine ⟨?_, h2⟩
  obtain ⟨xa, xb, xc, xd, xe⟩ := x
  obtain ⟨ya, yb, yc, yd, ye⟩ := y
  obtain ⟨a1, b1, c1, d1, e1, f1⟩ := hx
  obtain ⟨a2, b2, c2, d2, e2, f2⟩ := hy
  simp only at a b c d e a1 b1 c1 d1 e1 f1 a2 b2 c2 d2 e2 f2
  simp only [Rec.mk.injEq]
  refine ⟨?_, ?_, ?_, ?_, ?_⟩ <;> omega⟩
abbrev PutIn (p : Inp × Int) : Prop := InpWf p.1 ∧ 0 ≤ p.2 ∧ p.2 ≤ 255
theorem put_pf : Pf PutIn encPut := ⟨fun x y r r' hx hy h => by
  rw [encPut_L, encPut_L] at h
  obtain ⟨h1, h2⟩ := encs_pf (by simp [putL]) (putL_lt hx.1 hx.2) (putL_lt hy.1 hy.2) h
  simp only [putL, List.cons.injEq, and_true] at h1
  obtain ⟨a, b, c, d, e⟩ := h1
  refine ⟨?_, h2⟩
  obtain ⟨⟨xa, xb, xc, xd⟩, xe⟩ := x
  obtain ⟨⟨ya, yb, yc, yd⟩, ye⟩ := y
  obtain ⟨⟨a1, b1, c1, d1⟩, e1⟩ := hx
  obtain ⟨⟨a2, b2, c2, d2⟩, e2⟩ := hy
  simp only at a b c d e a1 b1 c1 d1 e1 a2 b2 c2 d2 e2
  have ka := zig_inj (toNat_inj (zig_bd a1.1 a1.2).1 (zig_bd a2.1 a2.2).1 a)
  have kb := zig_inj (toNat_inj (zig_bd b1.1 b1.2).1 (zig_bd b2.1 b2.2).1 b)
  have kc := zig_inj (toNat_inj (zig_bd c1.1 c1.2).1 (zig_bd c2.1 c2.2).1 c)
  have kd := zig_inj (toNat_inj (zig_bd d1.1 d1.2).1 (zig_bd d2.1 d2.2).1 d)
  have ke : xe = ye := by omega
  rw [ka, kb, kc, kd, ke]⟩
/-- An input without its error. -/
def inpN (x : Inp) : List Nat := [(zig x.k).toNat, (zig x.a).toNat, (zig x.b).toNat, (zig x.c).toNat]
def encInp (x : Inp) : List Nat := encZ x.k ++ encZ x.a ++ encZ x.b ++ encZ x.c
theorem encInp_L (x : Inp) : encInp x = (inpN x).flatMap enc := by simp [encInp, inpN, encZ, List.append_assoc]
theorem inpN_lt {x : Inp} (h : InpWf x) : ∀ y ∈ inpN x, y < 18446744073709551616 := by
  obtain ⟨a, b, c, d⟩ := h
  have h1 := zig_bd a.1 a.2
  have h2 := zig_bd b.1 b.2
  have h3 := zig_bd c.1 c.2
  have h4 := zig_bd d.1 d.2
  intro y hy
  simp [inpN] at hy
  rcases hy with rfl | rfl | rfl | rfl <;> omega
theorem inp_pf {x y : Inp} {r r' : List Nat} (hx : InpWf x) (hy : InpWf y) (h : encInp x ++ r = encInp y ++ r') : x = y ∧ r = r' := by
  rw [encInp_L, encInp_L] at h
  obtain ⟨h1, h2⟩ := encs_pf (by simp [inpN]) (inpN_lt hx) (inpN_lt hy) h
  simp only [inpN, List.cons.injEq, and_true] at h1
  obtain ⟨a, b, c, d⟩ := h1
  refine ⟨?_, h2⟩
  obtain ⟨xa, xb, xc, xd⟩ := x
  obtain ⟨ya, yb, yc, yd⟩ := y
  obtain ⟨a1, b1, c1, d1⟩ := hx
  obtain ⟨a2, b2, c2, d2⟩ := hy
  simp only at a b c d a1 b1 c1 d1 a2 b2 c2 d2
  have ka := zig_inj (toNat_inj (zig_bd a1.1 a1.2).1 (zig_bd a2.1 a2.2).1 a)
  have kb := zig_inj (toNat_inj (zig_bd b1.1 b1.2).1 (zig_bd b2.1 b2.2).1 b)
  have kc := zig_inj (toNat_inj (zig_bd c1.1 c1.2).1 (zig_bd c2.1 c2.2).1 c)
  have kd := zig_inj (toNat_inj (zig_bd d1.1 d1.2).1 (zig_bd d2.1 d2.2).1 d)
  rw [ka, kb, kc, kd]
theorem encPut_inp (p : Inp × Int) : encPut p = encInp p.1 ++ encI p.2 := by simp [encPut, encInp]
/-- What lay in a list of numbers. -/
abbrev Ate (ys : List Nat) (pre : List Nat) (r : List Nat) : Prop := ys = pre.flatMap enc ++ r
theorem flat_snoc {α : Type} {f : α → List Nat} {l : List α} {x : α} {ys y r : List Nat} (h1 : ys = l.flatMap f ++ y) (h2 : y = f x ++ r) : ys = (l ++ [x]).flatMap f ++ r := by
  rw [h1, h2, List.flatMap_append, List.append_assoc]
  simp
theorem all_snoc {α : Type} {ok : α → Prop} {l : List α} {x : α} (h : ∀ y ∈ l, ok y) (hx : ok x) : ∀ y ∈ l ++ [x], ok y := fun y hy => by
  rcases List.mem_append.1 hy with h1 | h1
  · exact h y h1
  · rw [List.mem_singleton.1 h1]
    exact hx
end Go.Proofs.YtplnaaokapilpaaDoor.Vm

namespace Go.Proofs.YtplnaaokapilpaaDoor.Vm

def T3 (s : St) : List Nat := enc s.bl.length ++ encG (-1) s.bl
def T2 (s : St) : List Nat := enc s.ts.length ++ (s.ts.flatMap encJob ++ T3 s)
def T1 (s : St) : List Nat := enc s.rs.length ++ (s.rs.flatMap encRob ++ T2 s)
theorem encS_T (s : St) : encS s = encI s.tick ++ T1 s := by simp [encS, T1, T2, T3, List.append_assoc]
theorem encRobs_len : ∀ rs : List Rec, rs.length ≤ (rs.flatMap encRob).length
  | [] => by simp
  | r :: q => by
    have h1 := encRobs_len q
    have h2 := enc_pos r.a.toNat
    have h3 : (enc r.a.toNat).length ≤ (encRob r).length := by
      unfold encRob encI
      simp only [List.length_append]
      omega
    rw [List.flatMap_cons, List.length_append, List.length_cons]
    omega
theorem encJobs_len : ∀ rs : List Rec, rs.length ≤ (rs.flatMap encJob).length
  | [] => by simp
  | r :: q => by
    have h1 := encJobs_len q
    have h2 := enc_pos r.a.toNat
    have h3 : (enc r.a.toNat).length ≤ (encJob r).length := by
      unfold encJob encI
      simp only [List.length_append]
      omega
    rw [List.flatMap_cons, List.length_append, List.length_cons]
    omega
theorem encG_len : ∀ (l : List Int) (p : Int), l.length ≤ (encG p l).length
  | [], _ => by simp
  | x :: q, p => by
    have h1 := encG_len q x
    have h2 := enc_pos (x - p - 1).toNat
    unfold encG encI
    rw [List.length_append, List.length_cons]
    omega
/-- The last one of some, or p. -/
def lastG : Int → List Int → Int
  | p, [] => p
  | _, x :: q => lastG x q
theorem lastG_snoc (x : Int) : ∀ (l : List Int) (p : Int), lastG p (l ++ [x]) = x
  | [], _ => rfl
  | y :: q, _ => lastG_snoc x q y
theorem encG_snoc (x : Int) : ∀ (l : List Int) (p : Int), encG p (l ++ [x]) = encG p l ++ encI (x - lastG p l - 1)
  | [], p => by simp [encG, lastG]
  | y :: q, p => by
    have h := encG_snoc x q y
    rw [List.cons_append]
    unfold encG lastG
    rw [h, List.append_assoc]
theorem upIn_snoc (x : Int) : ∀ (l : List Int) (p : Int), UpIn p l → lastG p l < x → x ≤ 2147483647 → UpIn p (l ++ [x])
  | [], _, _, h1, h2 => ⟨h1, h2, trivial⟩
  | y :: q, _, ⟨a, b, c⟩, h1, h2 => ⟨a, b, upIn_snoc x q y c h1 h2⟩
theorem upIn_last : ∀ (l : List Int) (p : Int), UpIn p l → -1 ≤ p → p ≤ 2147483647 → -1 ≤ lastG p l ∧ lastG p l ≤ 2147483647
  | [], _, _, h, h' => ⟨h, h'⟩
  | y :: q, p, ⟨a, b, c⟩, h, _ => upIn_last q y c (by omega) b
theorem encG_pf : ∀ {l l' : List Int} {p : Int} {r r' : List Nat}, -1 ≤ p → l.length = l'.length → UpIn p l → UpIn p l' → encG p l ++ r = encG p l' ++ r' → l = l' ∧ r = r'
  | [], [], _, _, _, _, _, _, _, h => ⟨rfl, h⟩
  | [], _ :: _, _, _, _, _, h, _, _, _ => by simp at h
  | _ :: _, [], _, _, _, _, h, _, _, _ => by simp at h
  | x :: l, y :: l', p, r, r', hp, hl, ⟨a1, b1, c1⟩, ⟨a2, b2, c2⟩, h => by
    unfold encG encI at h
    rw [List.append_assoc, List.append_assoc] at h
    obtain ⟨e, h3⟩ := enc_pf (by omega) (by omega) h
    have : x = y := by omega
    subst this
    obtain ⟨rfl, h4⟩ := encG_pf (by omega) (by simpa using hl) c1 c2 h3
    exact ⟨rfl, h4⟩
theorem encG_fail : ∀ {pre l : List Int} {p : Int} {r2 r : List Nat}, -1 ≤ p → (∀ (x : Int) r, lastG p pre < x → x ≤ 2147483647 → r2 ≠ encI (x - lastG p pre - 1) ++ r) → pre.length < l.length → UpIn p pre → UpIn p l → encG p pre ++ r2 ≠ encG p l ++ r
  | _, [], _, _, _, _, _, h, _, _ => by simp at h
  | [], x :: l, p, _, r, _, h, _, _, ⟨a, b, _⟩ => fun h' => h x (encG x l ++ r) a b (by rw [← List.append_assoc]; exact h')
  | y :: pre, x :: l, p, r2, r, hp, h, hl, ⟨a1, b1, c1⟩, ⟨a2, b2, c2⟩ => fun h' => by
    unfold encG encI at h'
    rw [List.append_assoc, List.append_assoc] at h'
    obtain ⟨e, h3⟩ := enc_pf (by omega) (by omega) h'
    have : y = x := by omega
    subst this
    exact encG_fail (pre := pre) (l := l) (p := y) (by omega) h (by simpa using hl) c1 c2 h3

section
variable {ys y1 y2 y3 y4 y5 y6 : List Nat} {v1 v2 v3 v4 n : Nat} {rs ts : List Rec} {bl : List Int}
/-- What is left stands for what is left of any state that stands there. -/
def F1 (ys : List Nat) (v1 : Nat) (y1 : List Nat) : Prop := ∀ s r, CanS s → ys = encS s ++ r → s.tick = v1 ∧ y1 = T1 s ++ r
def F2 (ys : List Nat) (v1 v2 : Nat) (y2 : List Nat) : Prop := ∀ s r, CanS s → ys = encS s ++ r → s.tick = v1 ∧ s.rs.length = v2 ∧ y2 = s.rs.flatMap encRob ++ (T2 s ++ r)
def F3 (ys : List Nat) (v1 : Nat) (rs : List Rec) (y3 : List Nat) : Prop := ∀ s r, CanS s → ys = encS s ++ r → s.tick = v1 ∧ s.rs = rs ∧ y3 = T2 s ++ r
def F4 (ys : List Nat) (v1 : Nat) (rs : List Rec) (v2 : Nat) (y4 : List Nat) : Prop := ∀ s r, CanS s → ys = encS s ++ r → s.tick = v1 ∧ s.rs = rs ∧ s.ts.length = v2 ∧ y4 = s.ts.flatMap encJob ++ (T3 s ++ r)
def F5 (ys : List Nat) (v1 : Nat) (rs ts : List Rec) (y5 : List Nat) : Prop := ∀ s r, CanS s → ys = encS s ++ r → s.tick = v1 ∧ s.rs = rs ∧ s.ts = ts ∧ y5 = T3 s ++ r
def F6 (ys : List Nat) (v1 : Nat) (rs ts : List Rec) (v3 : Nat) (y6 : List Nat) : Prop := ∀ s r, CanS s → ys = encS s ++ r → s.tick = v1 ∧ s.rs = rs ∧ s.ts = ts ∧ s.bl.length = v3 ∧ y6 = encG (-1) s.bl ++ r
theorem f1_of (h : ys = enc v1 ++ y1) (hv : v1 ≤ 2147483647) : F1 ys v1 y1 := fun s r hs he => by
  rw [h, encS_T, List.append_assoc] at he
  have := hs.tick
  obtain ⟨e, h2⟩ := enc_pf (by omega) (by omega) he
  exact ⟨by omega, h2⟩
theorem f1_no (h : ∀ x r, x ≤ 2147483647 → ys ≠ enc x ++ r) : ∀ s r, CanS s → ys ≠ encS s ++ r := fun s r hs he => by
  have := hs.tick
  exact h s.tick.toNat (T1 s ++ r) (by omega) (by rw [he, encS_T, List.append_assoc]; rfl)
theorem f2_of (hF : F1 ys v1 y1) (h : y1 = enc v2 ++ y2) (hv : v2 ≤ 2147483647) : F2 ys v1 v2 y2 := fun s r hs he => by
  obtain ⟨h1, h2⟩ := hF s r hs he
  unfold T1 at h2
  rw [h, List.append_assoc, List.append_assoc] at h2
  have := hs.rn
  obtain ⟨e, h3⟩ := enc_pf (by omega) (by omega) h2
  exact ⟨h1, e.symm, h3⟩
theorem f2_no (hF : F1 ys v1 y1) (hn : y1.length ≤ n) (h : ∀ x r, x ≤ n → y1 ≠ enc x ++ r) : ∀ s r, CanS s → ys ≠ encS s ++ r := fun s r hs he => by
  obtain ⟨h1, h2⟩ := hF s r hs he
  unfold T1 at h2
  rw [List.append_assoc, List.append_assoc] at h2
  have h4 := encRobs_len s.rs
  have h5 := congrArg List.length h2
  simp only [List.length_append] at h5
  exact h s.rs.length _ (by omega) h2
theorem f3_of (hF : F2 ys v1 v2 y2) (h : y2 = rs.flatMap encRob ++ y3) (hl : rs.length = v2) (ho : ∀ x ∈ rs, RobIn x) : F3 ys v1 rs y3 := fun s r hs he => by
  obtain ⟨h1, h2, h3⟩ := hF s r hs he
  rw [h] at h3
  obtain ⟨e, h4⟩ := rob_pf.all (by omega) ho hs.rob h3
  exact ⟨h1, e.symm, h4⟩
theorem f3_no (hF : F2 ys v1 v2 y2) (h : y2 = rs.flatMap encRob ++ y3) (hl : rs.length < v2) (ho : ∀ x ∈ rs, RobIn x) (hno : ∀ x r, RobIn x → y3 ≠ encRob x ++ r) : ∀ s r, CanS s → ys ≠ encS s ++ r := fun s r hs he => by
  obtain ⟨h1, h2, h3⟩ := hF s r hs he
  rw [h] at h3
  exact rob_pf.fail hno (by omega) ho hs.rob h3
theorem f4_of (hF : F3 ys v1 rs y3) (h : y3 = enc v2 ++ y4) (hv : v2 ≤ 2147483647) : F4 ys v1 rs v2 y4 := fun s r hs he => by
  obtain ⟨h1, h2, h3⟩ := hF s r hs he
  unfold T2 at h3
  rw [h, List.append_assoc, List.append_assoc] at h3
  have := hs.tn
  obtain ⟨e, h4⟩ := enc_pf (by omega) (by omega) h3
  exact ⟨h1, h2, e.symm, h4⟩
theorem f4_no (hF : F3 ys v1 rs y3) (hn : y3.length ≤ n) (h : ∀ x r, x ≤ n → y3 ≠ enc x ++ r) : ∀ s r, CanS s → ys ≠ encS s ++ r := fun s r hs he => by
  obtain ⟨_, _, h2⟩ := hF s r hs he
  unfold T2 at h2
  rw [List.append_assoc, List.append_assoc] at h2
  have h4 := encJobs_len s.ts
  have h5 := congrArg List.length h2
  simp only [List.length_append] at h5
  exact h s.ts.length _ (by omega) h2
theorem f5_of (hF : F4 ys v1 rs v2 y4) (h : y4 = ts.flatMap encJob ++ y5) (hl : ts.length = v2) (ho : ∀ x ∈ ts, JobIn x) : F5 ys v1 rs ts y5 := fun s r hs he => by
  obtain ⟨h1, h2, h3, h4⟩ := hF s r hs he
  rw [h] at h4
  obtain ⟨e, h5⟩ := job_pf.all (by omega) ho hs.job h4
  exact ⟨h1, h2, e.symm, h5⟩
theorem f5_no (hF : F4 ys v1 rs v2 y4) (h : y4 = ts.flatMap encJob ++ y5) (hl : ts.length < v2) (ho : ∀ x ∈ ts, JobIn x) (hno : ∀ x r, JobIn x → y5 ≠ encJob x ++ r) : ∀ s r, CanS s → ys ≠ encS s ++ r := fun s r hs he => by
  obtain ⟨h1, h2, h3, h4⟩ := hF s r hs he
  rw [h] at h4
  exact job_pf.fail hno (by omega) ho hs.job h4
theorem f6_of (hF : F5 ys v1 rs ts y5) (h : y5 = enc v3 ++ y6) (hv : v3 ≤ 2147483647) : F6 ys v1 rs ts v3 y6 := fun s r hs he => by
  obtain ⟨h1, h2, h3, h4⟩ := hF s r hs he
  unfold T3 at h4
  rw [h, List.append_assoc] at h4
  have := hs.bn
  obtain ⟨e, h5⟩ := enc_pf (by omega) (by omega) h4
  exact ⟨h1, h2, h3, e.symm, h5⟩
theorem f6_no (hF : F5 ys v1 rs ts y5) (hn : y5.length ≤ n) (h : ∀ x r, x ≤ n → y5 ≠ enc x ++ r) : ∀ s r, CanS s → ys ≠ encS s ++ r := fun s r hs he => by
  obtain ⟨_, _, _, h2⟩ := hF s r hs he
  unfold T3 at h2
  rw [List.append_assoc] at h2
  have h4 := encG_len s.bl (-1)
  have h5 := congrArg List.length h2
  simp only [List.length_append] at h5
  exact h s.bl.length _ (by omega) h2
theorem f7_no (hF : F6 ys v1 rs ts v3 y6) (h : y6 = encG (-1) bl ++ y1) (hl : bl.length < v3) (ho : UpIn (-1) bl) (hno : ∀ (x : Int) r, lastG (-1) bl < x → x ≤ 2147483647 → y1 ≠ encI (x - lastG (-1) bl - 1) ++ r) : ∀ s r, CanS s → ys ≠ encS s ++ r := fun s r hs he => by
  obtain ⟨_, _, _, h2, h3⟩ := hF s r hs he
  rw [h] at h3
  exact encG_fail (by omega) hno (by omega) ho hs.up h3
/-- The state that was eaten. -/
theorem ate_all (h1 : ys = enc v1 ++ y1) (h2 : y1 = enc v2 ++ y2) (h3 : y2 = rs.flatMap encRob ++ y3) (h4 : y3 = enc v3 ++ y4) (h5 : y4 = ts.flatMap encJob ++ y5) (h6 : y5 = enc v4 ++ y6) {r : List Nat} (h7 : y6 = encG (-1) bl ++ r)
    (l1 : rs.length = v2) (l2 : ts.length = v3) (l3 : bl.length = v4) : ys = encS ⟨v1, rs, ts, bl⟩ ++ r := by
  rw [h1, h2, h3, h4, h5, h6, h7, encS_T]
  simp [T1, T2, T3, encI, l1, l2, l3, List.append_assoc]
end
/-- A state's bytes tell it. -/
theorem encS_pf {s s' : St} {r r' : List Nat} (h : CanS s) (h' : CanS s') (e : encS s ++ r = encS s' ++ r') : s = s' ∧ r = r' := by
  have a1 := f1_of (ys := encS s ++ r) (v1 := s.tick.toNat) (y1 := T1 s ++ r) (by rw [encS_T, List.append_assoc]; rfl) (by have := h.tick; omega)
  have a2 := f2_of (v2 := s.rs.length) (y2 := s.rs.flatMap encRob ++ (T2 s ++ r)) a1 (by unfold T1; simp [List.append_assoc]) h.rn
  have a3 := f3_of (rs := s.rs) (y3 := T2 s ++ r) a2 rfl rfl h.rob
  have a4 := f4_of (v2 := s.ts.length) (y4 := s.ts.flatMap encJob ++ (T3 s ++ r)) a3 (by unfold T2; simp [List.append_assoc]) h.tn
  have a5 := f5_of (ts := s.ts) (y5 := T3 s ++ r) a4 rfl rfl h.job
  have a6 := f6_of (v3 := s.bl.length) (y6 := encG (-1) s.bl ++ r) a5 (by unfold T3; simp [List.append_assoc]) h.bn
  obtain ⟨b1, b2, b3, b4, b5⟩ := a6 s' r' h' e
  obtain ⟨c1, c2⟩ := encG_pf (by omega) (by omega) h.up h'.up b5
  have := h.tick
  obtain ⟨t, rs, ts, bl⟩ := s
  obtain ⟨t', rs', ts', bl'⟩ := s'
  simp only at b1 b2 b3 c1 this
  have e1 : t = t' := by omega
  exact ⟨by rw [e1, b2, b3, c1], c2⟩
end Go.Proofs.YtplnaaokapilpaaDoor.Vm

namespace Go.Proofs.YtplnaaokapilpaaDoor.Vm

/-- No two runs of one way stand side by side. -/
def Apart : List (Int × Nat) → Prop
  | [] => True
  | [_] => True
  | p :: q :: r => p.1 ≠ q.1 ∧ Apart (q :: r)
theorem runs_apart : ∀ l : List Int, Apart (runs l)
  | [] => trivial
  | x :: r => by
    have ih := runs_apart r
    unfold runs
    cases h : runs r with
    | nil => simp only []; trivial
    | cons p q =>
      obtain ⟨y, m⟩ := p
      rw [h] at ih
      simp only []
      by_cases e : x = y
      · rw [if_pos e]
        cases q with
        | nil => trivial
        | cons z t => exact ⟨ih.1, ih.2⟩
      · rw [if_neg e]
        exact ⟨e, ih⟩
theorem expand_head {p : Int × Nat} {r : List (Int × Nat)} (h : 1 ≤ p.2) : ∃ t, expand (p :: r) = p.1 :: t := by
  obtain ⟨k, hk⟩ : ∃ k, p.2 = k + 1 := ⟨p.2 - 1, by omega⟩
  exact ⟨List.replicate k p.1 ++ expand r, by simp [expand, hk, List.replicate_succ]⟩
theorem runs_of : ∀ {R : List (Int × Nat)}, Apart R → (∀ p ∈ R, 1 ≤ p.2) → runs (expand R) = R
  | [], _, _ => rfl
  | p :: R, ha, h1 => by
    have hp := h1 p (by simp)
    have ha2 : Apart R := by
      cases R with
      | nil => trivial
      | cons q r => exact ha.2
    have ih := runs_of ha2 (fun q hq => h1 q (by simp [hq]))
    obtain ⟨k, hk⟩ : ∃ k, p.2 = k + 1 := ⟨p.2 - 1, by omega⟩
    have e : expand (p :: R) = List.replicate (k + 1) p.1 ++ expand R := by simp [expand, hk]
    rw [e, runs_rep (fun y q hq => ?_) k, ih, ← hk]
    cases R with
    | nil => simp [expand] at hq
    | cons z r =>
      obtain ⟨t, ht⟩ := expand_head (p := z) (r := r) (h1 z (by simp))
      rw [ht] at hq
      injection hq with h2 _
      exact fun h => ha.1 (by rw [h, h2])
theorem expand_append (a b : List (Int × Nat)) : expand (a ++ b) = expand a ++ expand b := by simp [expand]
theorem expand_one (p : Int × Nat) : expand [p] = List.replicate p.2 p.1 := by simp [expand]
/-- What comes behind some runs: another way than the last one's. -/
theorem apart_snoc : ∀ {l : List (Int × Nat)} {p : Int × Nat}, Apart l → (∀ q ∈ l, 1 ≤ q.2) → (∀ x, (expand l).getLast? = some x → x ≠ p.1) → Apart (l ++ [p])
  | [], _, _, _, _ => trivial
  | [q], p, _, h1, h => by
    refine ⟨h q.1 ?_, trivial⟩
    have := h1 q (by simp)
    obtain ⟨k, hk⟩ : ∃ k, q.2 = k + 1 := ⟨q.2 - 1, by omega⟩
    rw [expand_one, hk, List.getLast?_replicate]
    simp
  | q :: s :: r, p, ha, h1, h => by
    refine ⟨ha.1, apart_snoc (l := s :: r) ha.2 (fun z hz => h1 z (by simp [hz])) (fun x hx => h x ?_)⟩
    have e : expand (q :: s :: r) = List.replicate q.2 q.1 ++ expand (s :: r) := by simp [expand]
    rw [e, List.getLast?_append, hx]
    rfl
theorem apart_next : ∀ {l r : List (Int × Nat)} {p : Int × Nat}, Apart (l ++ p :: r) → (∀ q ∈ l, 1 ≤ q.2) → ∀ x, (expand l).getLast? = some x → x ≠ p.1
  | [], _, _, _, _, x, hx => by simp [expand] at hx
  | [q], r, p, ha, h1, x, hx => by
    have := h1 q (by simp)
    obtain ⟨k, hk⟩ : ∃ k, q.2 = k + 1 := ⟨q.2 - 1, by omega⟩
    rw [expand_one, hk, List.getLast?_replicate] at hx
    simp at hx
    rw [← hx]
    exact ha.1
  | q :: s :: l, r, p, ha, h1, x, hx => by
    have h2 : 1 ≤ s.2 := h1 s (by simp)
    refine apart_next (l := s :: l) (r := r) ha.2 (fun z hz => h1 z (by simp [hz])) x ?_
    have e : expand (q :: s :: l) = List.replicate q.2 q.1 ++ expand (s :: l) := by simp [expand]
    obtain ⟨t, ht⟩ := expand_head (p := s) (r := l) h2
    rw [e, List.getLast?_append, ht] at hx
    rw [ht]
    cases h3 : (s.1 :: t).getLast? with
    | none => simp at h3
    | some y => rw [h3] at hx; exact hx

/-- Ways that may be read; a run of them. -/
abbrev WOk (ws : List Int) : Prop := (∀ v ∈ ws, 0 ≤ v ∧ v ≤ 4) ∧ ws.length ≤ 100000
abbrev RunOk (p : Int × Nat) : Prop := 0 ≤ p.1 ∧ p.1 ≤ 4 ∧ 1 ≤ p.2 ∧ p.2 ≤ 100000
def encW (ws : List Int) : List Nat := enc (runs ws).length ++ (runs ws).flatMap encRun
theorem run_pf : Pf RunOk encRun := ⟨fun x y r r' hx hy h => by
  obtain ⟨a, m⟩ := x
  obtain ⟨b, k⟩ := y
  obtain ⟨h1, h2, h3, h4⟩ := hx
  obtain ⟨g1, g2, g3, g4⟩ := hy
  simp only at h1 h2 h3 h4 g1 g2 g3 g4
  unfold encRun encI at h
  simp only [List.append_assoc] at h
  obtain ⟨e1, h⟩ := enc_pf (by omega) (by omega) h
  obtain ⟨e2, h⟩ := enc_pf (by omega) (by omega) h
  have e3 : a = b := by omega
  have e4 : m = k := by omega
  exact ⟨by rw [e3, e4], h⟩⟩
theorem runs_ok {ws : List Int} (h : WOk ws) : ∀ p ∈ runs ws, RunOk p := fun p hp => by
  obtain ⟨h1, h2, h3⟩ := runs_mem ws p hp
  exact ⟨(h.1 _ h1).1, (h.1 _ h1).2, h2, Nat.le_trans h3 h.2⟩
theorem encW_pf {ws ws' : List Int} {r r' : List Nat} (h : WOk ws) (h' : WOk ws') (e : encW ws ++ r = encW ws' ++ r') : ws = ws' ∧ r = r' := by
  unfold encW at e
  rw [List.append_assoc, List.append_assoc] at e
  have l1 := runs_len ws
  have l2 := runs_len ws'
  have m1 := h.2
  have m2 := h'.2
  obtain ⟨e1, e2⟩ := enc_pf (by omega) (by omega) e
  obtain ⟨e3, e4⟩ := run_pf.all e1 (runs_ok h) (runs_ok h') e2
  exact ⟨by rw [← expand_runs ws, e3, expand_runs], e4⟩
theorem encRuns_len : ∀ l : List (Int × Nat), l.length ≤ (l.flatMap encRun).length
  | [] => by simp
  | p :: q => by
    have h1 := encRuns_len q
    have h2 := enc_pos p.1.toNat
    have h3 : (enc p.1.toNat).length ≤ (encRun p).length := by
      unfold encRun encI
      simp only [List.length_append]
      omega
    rw [List.flatMap_cons, List.length_append, List.length_cons]
    omega
theorem ways_no1 {ys : List Nat} {n : Nat} (hn : ys.length ≤ n) (h : ∀ x r, x ≤ n → ys ≠ enc x ++ r) : ∀ ws r, WOk ws → ys ≠ encW ws ++ r := fun ws r hw he => by
  unfold encW at he
  rw [List.append_assoc] at he
  have h4 := encRuns_len (runs ws)
  have h5 := congrArg List.length he
  simp only [List.length_append] at h5
  exact h (runs ws).length _ (by omega) he
/-- Where no further run can be taken. -/
theorem ways_no2 {ys y2 y : List Nat} {m : Nat} {pre : List (Int × Nat)} (hy : ys = enc m ++ y2) (hm : m < 18446744073709551616) (h2 : y2 = pre.flatMap encRun ++ y) (hl : pre.length < m) (ho : ∀ p ∈ pre, RunOk p)
    (hno : ∀ p r, RunOk p → (∀ x, (expand pre).getLast? = some x → x ≠ p.1) → (expand pre).length + p.2 ≤ 100000 → y ≠ encRun p ++ r) : ∀ ws r, WOk ws → ys ≠ encW ws ++ r := fun ws r hw he => by
  unfold encW at he
  rw [List.append_assoc, hy] at he
  have l1 := runs_len ws
  have m1 := hw.2
  obtain ⟨e1, e2⟩ := enc_pf hm (by omega) he
  have hro := runs_ok hw
  have hap := runs_apart ws
  have hex := expand_runs ws
  generalize runs ws = R at e1 e2 hro hap hex
  have hsplit : R = R.take pre.length ++ R.drop pre.length := (List.take_append_drop _ _).symm
  have hlt : pre.length < R.length := by omega
  rw [hsplit, List.flatMap_append, List.append_assoc, h2] at e2
  obtain ⟨e3, e4⟩ := run_pf.all (by rw [List.length_take]; omega) ho (fun p hp => hro p (List.mem_of_mem_take hp)) e2
  rw [List.drop_eq_getElem_cons hlt] at e4 hsplit
  rw [← e3] at hsplit
  rw [List.flatMap_cons, List.append_assoc] at e4
  generalize R[pre.length] = p at e4 hsplit
  have hp : RunOk p := hro p (by rw [hsplit]; simp)
  rw [hsplit] at hap
  refine hno p _ hp (apart_next hap (fun q hq => (ho q hq).2.2.1)) ?_ e4
  have h9 := congrArg List.length hex
  rw [hsplit, expand_append, show expand (p :: R.drop (pre.length + 1)) = List.replicate p.2 p.1 ++ expand (R.drop (pre.length + 1)) by simp [expand]] at h9
  simp only [List.length_append, List.length_replicate] at h9
  omega
theorem ways_yes {ys y2 y : List Nat} {m : Nat} {pre : List (Int × Nat)} (hy : ys = enc m ++ y2) (h2 : y2 = pre.flatMap encRun ++ y) (hl : pre.length = m) (ho : ∀ p ∈ pre, RunOk p) (ha : Apart pre) (hn : (expand pre).length ≤ 100000) :
    WOk (expand pre) ∧ ys = encW (expand pre) ++ y := by
  refine ⟨⟨fun v hv => ?_, hn⟩, ?_⟩
  · unfold expand at hv
    obtain ⟨p, hp, hv⟩ := List.mem_flatMap.1 hv
    rw [List.eq_of_mem_replicate hv]
    exact ⟨(ho p hp).1, (ho p hp).2.1⟩
  · unfold encW
    rw [runs_of ha (fun p hp => (ho p hp).2.2.1), hl, hy, h2, List.append_assoc]

/-- A record that may be read. -/
structure OkR (x : Rcd) : Prop where
  can : CanR x
  wf : WfR x
  ws : x.ws.length ≤ 100000
def U1 (x : Rcd) : List Nat := enc x.ins.length ++ ((x.ins.zip x.cs).flatMap encPut ++ (encW x.ws ++ encI x.ck))
theorem encR_U (x : Rcd) : encR x = encI x.tick ++ U1 x := by simp [encR, U1, encW, List.append_assoc]
theorem OkR.puts {x : Rcd} (h : OkR x) : ∀ p ∈ x.ins.zip x.cs, PutIn p := fun p hp => by
  obtain ⟨u, v⟩ := p
  obtain ⟨h1, h2⟩ := List.of_mem_zip hp
  exact ⟨h.wf.ins u h1, h.can.cs v h2⟩
theorem OkR.zl {x : Rcd} (h : OkR x) : (x.ins.zip x.cs).length = x.ins.length := by rw [List.length_zip, h.can.cn, Nat.min_self]
theorem OkR.wok {x : Rcd} (h : OkR x) : WOk x.ws := ⟨h.can.ws, h.ws⟩
section
variable {ys y1 y2 y3 y4 : List Nat} {v1 v2 n : Nat} {ps : List (Inp × Int)} {ws : List Int}
def G1 (ys : List Nat) (v1 : Nat) (y1 : List Nat) : Prop := ∀ x r, OkR x → ys = encR x ++ r → x.tick = v1 ∧ y1 = U1 x ++ r
def G2 (ys : List Nat) (v1 v2 : Nat) (y2 : List Nat) : Prop := ∀ x r, OkR x → ys = encR x ++ r → x.tick = v1 ∧ x.ins.length = v2 ∧ y2 = (x.ins.zip x.cs).flatMap encPut ++ (encW x.ws ++ (encI x.ck ++ r))
def G3 (ys : List Nat) (v1 : Nat) (ps : List (Inp × Int)) (y3 : List Nat) : Prop := ∀ x r, OkR x → ys = encR x ++ r → x.tick = v1 ∧ x.ins.zip x.cs = ps ∧ y3 = encW x.ws ++ (encI x.ck ++ r)
def G4 (ys : List Nat) (v1 : Nat) (ps : List (Inp × Int)) (ws : List Int) (y4 : List Nat) : Prop := ∀ x r, OkR x → ys = encR x ++ r → x.tick = v1 ∧ x.ins.zip x.cs = ps ∧ x.ws = ws ∧ y4 = encI x.ck ++ r
theorem g1_of (h : ys = enc v1 ++ y1) (hv : v1 ≤ 2147483647) : G1 ys v1 y1 := fun s r hs he => by
  rw [h, encR_U, List.append_assoc] at he
  have := hs.can.tick
  obtain ⟨e, h2⟩ := enc_pf (by omega) (by omega) he
  exact ⟨by omega, h2⟩
theorem g1_no (h : ∀ x r, x ≤ 2147483647 → ys ≠ enc x ++ r) : ∀ x r, OkR x → ys ≠ encR x ++ r := fun s r hs he => by
  have := hs.can.tick
  exact h s.tick.toNat (U1 s ++ r) (by omega) (by rw [he, encR_U, List.append_assoc]; rfl)
theorem g2_of (hF : G1 ys v1 y1) (h : y1 = enc v2 ++ y2) (hv : v2 ≤ 2147483647) (hn : y1.length ≤ 2147483647) : G2 ys v1 v2 y2 := fun s r hs he => by
  obtain ⟨h1, h2⟩ := hF s r hs he
  unfold U1 at h2
  have h4 := encPuts_len (s.ins.zip s.cs)
  rw [hs.zl] at h4
  have h5 := congrArg List.length h2
  simp only [List.length_append] at h5
  rw [h] at h2
  simp only [List.append_assoc] at h2
  obtain ⟨e, h3⟩ := enc_pf (by omega) (by omega) h2
  exact ⟨h1, e.symm, h3⟩
theorem g2_no (hF : G1 ys v1 y1) (hn : y1.length ≤ n) (h : ∀ x r, x ≤ n → y1 ≠ enc x ++ r) : ∀ x r, OkR x → ys ≠ encR x ++ r := fun s r hs he => by
  obtain ⟨h1, h2⟩ := hF s r hs he
  unfold U1 at h2
  have h4 := encPuts_len (s.ins.zip s.cs)
  rw [hs.zl] at h4
  have h5 := congrArg List.length h2
  simp only [List.length_append] at h5
  rw [List.append_assoc] at h2
  exact h s.ins.length _ (by omega) h2
theorem g3_of (hF : G2 ys v1 v2 y2) (h : y2 = ps.flatMap encPut ++ y3) (hl : ps.length = v2) (ho : ∀ x ∈ ps, PutIn x) : G3 ys v1 ps y3 := fun s r hs he => by
  obtain ⟨h1, h2, h3⟩ := hF s r hs he
  rw [h] at h3
  obtain ⟨e, h4⟩ := put_pf.all (by rw [hs.zl]; omega) ho hs.puts h3
  exact ⟨h1, e.symm, h4⟩
theorem g3_no (hF : G2 ys v1 v2 y2) (h : y2 = ps.flatMap encPut ++ y3) (hl : ps.length < v2) (ho : ∀ x ∈ ps, PutIn x) (hno : ∀ x r, PutIn x → y3 ≠ encPut x ++ r) : ∀ x r, OkR x → ys ≠ encR x ++ r := fun s r hs he => by
  obtain ⟨h1, h2, h3⟩ := hF s r hs he
  rw [h] at h3
  exact put_pf.fail hno (by rw [hs.zl]; omega) ho hs.puts h3
theorem put_no1 (h : ∀ x r, InpWf x → y1 ≠ encInp x ++ r) : ∀ p r, PutIn p → y1 ≠ encPut p ++ r := fun p r hp he => by
  rw [encPut_inp, List.append_assoc] at he
  exact h p.1 _ hp.1 he
theorem put_no2 {x : Inp} (hy : y1 = encInp x ++ y2) (hx : InpWf x) (h : ∀ c r, c ≤ 255 → y2 ≠ enc c ++ r) : ∀ p r, PutIn p → y1 ≠ encPut p ++ r := fun p r hp he => by
  rw [encPut_inp, List.append_assoc, hy] at he
  obtain ⟨_, h2⟩ := inp_pf hx hp.1 he
  exact h p.2.toNat r (by have := hp.2; omega) h2
theorem g4_of (hF : G3 ys v1 ps y3) (h : y3 = encW ws ++ y4) (hw : WOk ws) : G4 ys v1 ps ws y4 := fun s r hs he => by
  obtain ⟨h1, h2, h3⟩ := hF s r hs he
  rw [h] at h3
  obtain ⟨e, h4⟩ := encW_pf hw hs.wok h3
  exact ⟨h1, h2, e.symm, h4⟩
theorem g4_no (hF : G3 ys v1 ps y3) (hno : ∀ ws r, WOk ws → y3 ≠ encW ws ++ r) : ∀ x r, OkR x → ys ≠ encR x ++ r := fun s r hs he => by
  obtain ⟨h1, h2, h3⟩ := hF s r hs he
  exact hno s.ws _ hs.wok h3
theorem g5_no (hF : G4 ys v1 ps ws y4) (hno : ∀ x r, x ≤ 4294967295 → y4 ≠ enc x ++ r) : ∀ x r, OkR x → ys ≠ encR x ++ r := fun s r hs he => by
  obtain ⟨h1, h2, h3, h4⟩ := hF s r hs he
  exact hno s.ck.toNat r (by have := hs.wf.ck; omega) h4
/-- The record that was eaten. -/
theorem ate_rec {ck : Nat} {r : List Nat} (h1 : ys = enc v1 ++ y1) (h2 : y1 = enc v2 ++ y2) (h3 : y2 = ps.flatMap encPut ++ y3) (h4 : y3 = encW ws ++ y4) (h5 : y4 = enc ck ++ r) (hv : v1 ≤ 2147483647) (hl : ps.length = v2) (ho : ∀ x ∈ ps, PutIn x) (hw : WOk ws) (hc : ck ≤ 4294967295) :
    OkR ⟨v1, ps.map Prod.fst, ps.map Prod.snd, ws, ck⟩ ∧ ys = encR ⟨v1, ps.map Prod.fst, ps.map Prod.snd, ws, ck⟩ ++ r := by
  have ez : (ps.map Prod.fst).zip (ps.map Prod.snd) = ps := by
    clear h3 hl ho
    induction ps with
    | nil => rfl
    | cons p q ih => simp [ih]
  refine ⟨⟨⟨⟨by show (0 : Int) ≤ v1; omega, by show (v1 : Int) ≤ 2147483647; omega⟩, by simp, fun c hc => ?_, hw.1⟩, ⟨fun p hp => ?_, ⟨by show (0 : Int) ≤ ck; omega, by show (ck : Int) < 4294967296; omega⟩⟩, hw.2⟩, ?_⟩
  · obtain ⟨p, hp, rfl⟩ := List.mem_map.1 hc
    exact (ho p hp).2
  · obtain ⟨q, hq, rfl⟩ := List.mem_map.1 hp
    exact (ho q hq).1
  · rw [h1, h2, h3, h4, h5, encR_U]
    unfold U1
    simp only []
    rw [ez, List.length_map, hl]
    simp [encI, List.append_assoc]
end
/-- A record's bytes tell it. -/
theorem encR_pf {x y : Rcd} {r r' : List Nat} (h : OkR x) (h' : OkR y) (hl : (encR x ++ r).length ≤ 2147483647) (e : encR x ++ r = encR y ++ r') : x = y ∧ r = r' := by
  have a1 := g1_of (ys := encR x ++ r) (v1 := x.tick.toNat) (y1 := U1 x ++ r) (by rw [encR_U, List.append_assoc]; rfl) (by have := h.can.tick; omega)
  have hu : (U1 x ++ r).length ≤ 2147483647 := by
    rw [encR_U] at hl
    simp only [List.length_append] at hl ⊢
    omega
  have hi : x.ins.length ≤ 2147483647 := by
    have h4 := encPuts_len (x.ins.zip x.cs)
    rw [h.zl] at h4
    unfold U1 at hu
    simp only [List.length_append] at hu
    omega
  have a2 := g2_of (v2 := x.ins.length) (y2 := (x.ins.zip x.cs).flatMap encPut ++ (encW x.ws ++ (encI x.ck ++ r))) a1 (by unfold U1; simp [List.append_assoc]) hi hu
  have a3 := g3_of (ps := x.ins.zip x.cs) (y3 := encW x.ws ++ (encI x.ck ++ r)) a2 rfl h.zl h.puts
  have a4 := g4_of (ws := x.ws) (y4 := encI x.ck ++ r) a3 rfl h.wok
  obtain ⟨b1, b2, b3, b4⟩ := a4 y r' h' e
  have c1 := h.wf.ck
  have c2 := h'.wf.ck
  unfold encI at b4
  obtain ⟨d1, d2⟩ := enc_pf (by omega) (by omega) b4
  have ht := h.can.tick
  have e1 : x.ins = y.ins := by
    have := congrArg (List.map Prod.fst) b2
    rw [List.map_fst_zip (by have := h.can.cn; have := h'.can.cn; omega), List.map_fst_zip (by have := h.can.cn; have := h'.can.cn; omega)] at this
    exact this.symm
  have e2 : x.cs = y.cs := by
    have := congrArg (List.map Prod.snd) b2
    rw [List.map_snd_zip (by have := h.can.cn; have := h'.can.cn; omega), List.map_snd_zip (by have := h.can.cn; have := h'.can.cn; omega)] at this
    exact this.symm
  obtain ⟨t, i, c, v, k⟩ := x
  obtain ⟨t', i', c', v', k'⟩ := y
  simp only at b1 b3 c1 c2 d1 ht e1 e2
  have e3 : t = t' := by omega
  have e4 : k = k' := by omega
  exact ⟨by rw [e3, e1, e2, b3, e4], d2⟩
end Go.Proofs.YtplnaaokapilpaaDoor.Vm
