/- Words for memory: records of five ints (robots, tasks), and slices that hold them. No function of the program is named here. The mathematics of states: which may be; which task is the first of an Id; the states of robots in any cells. No program is named here. A grid that lies in a block. Words for memory: states as values, as blocks, and what their slices hold; grids and states in boxes. No function of the program is named here. -/
import Derived.Test.YtplnaaokapilpaaDoorOwns
import Derived.Test.YtplnaaokapilpaaDoorWords
import Derived.Test.YtplnaaokapilpaaDoorFloors
namespace Go.Proofs.YtplnaaokapilpaaDoor.Vm
open Go.RowKit

/-- A record of five ints: a robot (cell, mode, task, battery, hold), or a task (id, from, to, state, robot). -/
structure Rec where
  a : Int
  b : Int
  c : Int
  d : Int
  e : Int
/-- The record of noughts. -/
def zr : Rec := ⟨0, 0, 0, 0, 0⟩
theorem Rec.same {x y : Rec} (ha : x.a = y.a) (hb : x.b = y.b) (hc : x.c = y.c) (hd : x.d = y.d) (he : x.e = y.e) : x = y := by
  obtain ⟨_, _, _, _, _⟩ := x
  obtain ⟨_, _, _, _, _⟩ := y
  simp only at ha hb hc hd he
  subst ha hb hc hd he
  rfl
abbrev recV (r : Rec) : Value := .agg #[.int .i64 r.a, .int .i64 r.b, .int .i64 r.c, .int .i64 r.d, .int .i64 r.e]
def recL (r : Rec) : List Value := [.int .i64 r.a, .int .i64 r.b, .int .i64 r.c, .int .i64 r.d, .int .i64 r.e]

/-- A record lies in these five cells. -/
def RecAt (w : World) (b o : Nat) (r : Rec) : Prop :=
  w.cell? ⟨b, o, none⟩ = some (.int .i64 r.a) ∧ w.cell? ⟨b, o + 1, none⟩ = some (.int .i64 r.b) ∧ w.cell? ⟨b, o + 2, none⟩ = some (.int .i64 r.c) ∧
  w.cell? ⟨b, o + 3, none⟩ = some (.int .i64 r.d) ∧ w.cell? ⟨b, o + 4, none⟩ = some (.int .i64 r.e)
theorem RecAt.keep {w w' : World} {b o : Nat} {r : Rec} (h : RecAt w b o r) (hk : ∀ p : Addr, p.block = b → w'.cell? p = w.cell? p) : RecAt w' b o r :=
  ⟨(hk _ rfl).trans h.1, (hk _ rfl).trans h.2.1, (hk _ rfl).trans h.2.2.1, (hk _ rfl).trans h.2.2.2.1, (hk _ rfl).trans h.2.2.2.2⟩
theorem RecAt.below {w w' : World} {b o B : Nat} {r : Rec} (h : RecAt w b o r) (hb : Below B w w') (hB : b < B) : RecAt w' b o r :=
  h.keep fun p hp => hb.cell (p := p) (by omega)

/-- The slice '.slice a n c' holds these records, in a block below B. -/
def RowR (w : World) (B : Nat) (a : Option Addr) (n c : Nat) (rs : List Rec) : Prop :=
  rs.length = n ∧ n ≤ c ∧ c ≤ maxLen ∧
  (0 < n → ∃ b off, a = some ⟨b, off, none⟩ ∧ b < B ∧ ∀ i, i < n → RecAt w b (off + i * 5) (rs.getD i zr))
section
variable {w w' : World} {B B' : Nat} {a : Option Addr} {n c : Nat} {rs : List Rec}
theorem RowR.nil (w : World) (B : Nat) : RowR w B none 0 0 [] := ⟨rfl, Nat.le_refl _, by simp [maxLen], fun h => absurd h (by omega)⟩
theorem RowR.keep (h : RowR w B a n c rs) (hk : ∀ p : Addr, p.block < B → w'.cell? p = w.cell? p) : RowR w' B a n c rs :=
  ⟨h.1, h.2.1, h.2.2.1, fun hn => by
    obtain ⟨b, off, e, hb, hc⟩ := h.2.2.2 hn
    exact ⟨b, off, e, hb, fun i hi => (hc i hi).keep fun p hp => hk p (by omega)⟩⟩
theorem RowR.mono (h : RowR w B a n c rs) (hB : B ≤ B') : RowR w B' a n c rs :=
  ⟨h.1, h.2.1, h.2.2.1, fun hn => by
    obtain ⟨b, off, e, hb, hc⟩ := h.2.2.2 hn
    exact ⟨b, off, e, by omega, hc⟩⟩
theorem RowR.below (h : RowR w B a n c rs) (hb : Below B w w') : RowR w' B a n c rs := h.keep fun _ hp => hb.cell hp
theorem RowR.cells (h : RowR w B a n c rs) (hn : 0 < n) : ∃ b off, a = some ⟨b, off, none⟩ ∧ b < B ∧ ∀ i, i < n → RecAt w b (off + i * 5) (rs.getD i zr) := h.2.2.2 hn
theorem RowR.len (h : RowR w B a n c rs) : n ≤ maxLen := Nat.le_trans h.2.1 h.2.2.1
end
end Go.Proofs.YtplnaaokapilpaaDoor.Vm

namespace Go.Proofs.YtplnaaokapilpaaDoor.Vm

/-- Whether something holds, as a bool. -/
noncomputable def yes (p : Prop) : Bool := @decide p (Classical.propDecidable p)
theorem yes_true {p : Prop} (h : p) : yes p = true := @decide_eq_true p (Classical.propDecidable p) h
theorem yes_false {p : Prop} (h : ¬ p) : yes p = false := @decide_eq_false p (Classical.propDecidable p) h
theorem yes_iff {p : Prop} : yes p = true ↔ p := ⟨fun h => @of_decide_eq_true p (Classical.propDecidable p) h, yes_true⟩
theorem yes_same {p q : Prop} (h : p ↔ q) : yes p = yes q := by rw [propext h]
theorem yes_not {p : Prop} : (!yes p) = yes (¬ p) := by
  by_cases h : p
  · rw [yes_true h, yes_false (fun n => n h)]; rfl
  · rw [yes_false h, yes_true h]; rfl
theorem yes_dec {p : Prop} [i : Decidable p] : yes p = decide p := by
  by_cases h : p
  · rw [yes_true h, decide_eq_true h]
  · rw [yes_false h, decide_eq_false h]

theorem upto_more {P : Nat → Prop} {k : Nat} (h : ∀ j, j < k → P j) (hk : P k) : ∀ j, j < k + 1 → P j := fun j hj => by
  by_cases e : j = k
  · exact e ▸ hk
  · exact h j (by omega)

/-- A state. -/
structure St where
  tick : Int
  rs : List Rec
  ts : List Rec
  bl : List Int

/-- The first task of an Id; -1: none. -/
def findS (ts : List Rec) (id : Int) : Int := if ts.findIdx (fun t => t.a == id) < ts.length then (ts.findIdx (fun t => t.a == id) : Nat) else -1
theorem findS_at {ts : List Rec} {id : Int} {k : Nat} (hk : k < ts.length) (hb : ∀ j, j < k → (ts.getD j zr).a ≠ id) (h : (ts.getD k zr).a = id) : findS ts id = k := by
  have e : ts.findIdx (fun t => t.a == id) = k := by
    refine (List.findIdx_eq hk).2 ⟨?_, fun j hj => ?_⟩
    · simpa [List.getD, hk] using h
    · have := hb j hj
      simpa [List.getD, show j < ts.length by omega] using this
  unfold findS
  rw [e, if_pos hk]
theorem findS_no {ts : List Rec} {id : Int} (hb : ∀ j, j < ts.length → (ts.getD j zr).a ≠ id) : findS ts id = -1 := by
  unfold findS
  rw [if_neg]
  intro h
  have h2 := List.findIdx_getElem (p := fun t : Rec => t.a == id) (w := h)
  have h3 := hb _ h
  simp [List.getD, h] at h3
  simp at h2
  exact h3 h2
theorem findS_cases (ts : List Rec) (id : Int) : (findS ts id = -1 ∧ ∀ j, j < ts.length → (ts.getD j zr).a ≠ id) ∨
    ∃ k : Nat, k < ts.length ∧ findS ts id = k ∧ (ts.getD k zr).a = id ∧ ∀ j, j < k → (ts.getD j zr).a ≠ id := by
  by_cases h : ts.findIdx (fun t => t.a == id) < ts.length
  · refine .inr ⟨_, h, by unfold findS; rw [if_pos h], ?_, fun j hj => ?_⟩
    · have h2 := List.findIdx_getElem (p := fun t : Rec => t.a == id) (w := h)
      simp at h2
      simp [List.getD, h, h2]
    · have h2 := List.not_of_lt_findIdx (p := fun t : Rec => t.a == id) hj
      simp at h2
      simp [List.getD, show j < ts.length by omega, h2]
  · refine .inl ⟨by unfold findS; rw [if_neg h], fun j hj e => ?_⟩
    apply h
    exact List.findIdx_lt_length_of_exists ⟨ts[j]'hj, List.getElem_mem _, by simpa [List.getD, hj] using e⟩

/-- The i-th robot, but for its task. -/
def RestP (fl : Int → Bool) (rs : List Rec) (i : Nat) : Prop :=
  fl (rs.getD i zr).a = true ∧ (∀ k, k < i → (rs.getD k zr).a ≠ (rs.getD i zr).a) ∧ (0 ≤ (rs.getD i zr).d ∧ (rs.getD i zr).d ≤ 1000) ∧ (0 ≤ (rs.getD i zr).e ∧ (rs.getD i zr).e ≤ 1000)
/-- The first task of that Id is the i-th robot's, and stands so. -/
def OwnP (ts : List Rec) (id : Int) (i : Nat) (st : Int) : Prop := ∃ k : Nat, k < ts.length ∧ findS ts id = k ∧ (ts.getD k zr).d = st ∧ (ts.getD k zr).e = i
/-- A robot's Mode and Task. -/
def ModeP (ts : List Rec) (r : Rec) (i : Nat) : Prop :=
  (r.b = 0 ∨ r.b = 3) ∧ r.c = 0 ∨ r.b = 1 ∧ OwnP ts r.c i 2 ∨ r.b = 2 ∧ OwnP ts r.c i 3 ∨ r.b = 4 ∧ (r.c = 0 ∨ OwnP ts r.c i 3)
/-- The i-th task, but for its robot. -/
def JobP (fl : Int → Bool) (ts : List Rec) (i : Nat) : Prop :=
  (1 ≤ (ts.getD i zr).a ∧ (ts.getD i zr).a ≤ 2147483647) ∧ (∀ k, k < i → (ts.getD k zr).a ≠ (ts.getD i zr).a) ∧ (ts.getD i zr).b ≠ (ts.getD i zr).c ∧ fl (ts.getD i zr).b = true ∧ fl (ts.getD i zr).c = true
/-- A task's State and Robot. -/
def RoleP (rs : List Rec) (t : Rec) : Prop :=
  t.d = 1 ∧ t.e = -1 ∨ (t.d = 2 ∨ t.d = 3) ∧ (0 ≤ t.e ∧ t.e < rs.length) ∧ (rs.getD t.e.toNat zr).c = t.a ∨ t.d = 4 ∧ (0 ≤ t.e ∧ t.e < rs.length)
/-- The i-th cell that is blocked. -/
def ShutP (fl : Int → Bool) (bl : List Int) (i : Nat) : Prop := fl (bl.getD i 0) = true ∧ (0 < i → bl.getD (i - 1) 0 < bl.getD i 0)

/-- A state may be. -/
structure RightP (fl : Int → Bool) (s : St) : Prop where
  tick : 0 ≤ s.tick ∧ s.tick ≤ 2147483647
  rn : s.rs.length ≤ 1024
  tn : s.ts.length ≤ 1000
  rest : ∀ i, i < s.rs.length → RestP fl s.rs i
  job : ∀ i, i < s.ts.length → JobP fl s.ts i
  shut : ∀ i, i < s.bl.length → ShutP fl s.bl i
  role : ∀ i, i < s.ts.length → RoleP s.rs (s.ts.getD i zr)
  mode : ∀ i, i < s.rs.length → ModeP s.ts (s.rs.getD i zr) i

/-- The document's robot. -/
def RobP (fl : Int → Bool) (s : St) (i : Nat) : Prop := RestP fl s.rs i ∧ ModeP s.ts (s.rs.getD i zr) i
/-- The document's task. -/
def TaskP (fl : Int → Bool) (s : St) (i : Nat) : Prop := JobP fl s.ts i ∧ RoleP s.rs (s.ts.getD i zr)
theorem rightP_ref {fl : Int → Bool} {s : St} : RightP fl s ↔ (((0 ≤ s.tick ∧ s.tick ≤ 2147483647) ∧ s.rs.length ≤ 1024 ∧ s.ts.length ≤ 1000) ∧ (∀ i, i < s.rs.length → RobP fl s i) ∧ (∀ i, i < s.ts.length → TaskP fl s i) ∧ ∀ i, i < s.bl.length → ShutP fl s.bl i) :=
  ⟨fun h => ⟨⟨h.tick, h.rn, h.tn⟩, fun i hi => ⟨h.rest i hi, h.mode i hi⟩, fun i hi => ⟨h.job i hi, h.role i hi⟩, h.shut⟩,
   fun ⟨⟨h1, h2, h3⟩, h4, h5, h6⟩ => ⟨h1, h2, h3, fun i hi => (h4 i hi).1, fun i hi => (h5 i hi).1, h6, fun i hi => (h5 i hi).2, fun i hi => (h4 i hi).2⟩⟩

/-- Where Ids differ, each task is the first of its own. -/
theorem findS_own {ts : List Rec} {i : Nat} (hi : i < ts.length) (h : ∀ k, k < i → (ts.getD k zr).a ≠ (ts.getD i zr).a) : findS ts (ts.getD i zr).a = i := findS_at hi h rfl
theorem findS_own_iff {ts : List Rec} {i : Nat} (hi : i < ts.length) : findS ts (ts.getD i zr).a = i ↔ ∀ k, k < i → (ts.getD k zr).a ≠ (ts.getD i zr).a := by
  refine ⟨fun h => ?_, findS_own hi⟩
  rcases findS_cases ts (ts.getD i zr).a with ⟨e, _⟩ | ⟨k, hk, e, _, hb⟩
  · omega
  · obtain rfl : k = i := by omega
    exact hb

/-- Which error a state of robots in these cells is; 0: none. -/
def scanNew (fl : Int → Bool) (pre : List Int) : List Int → Int
  | [] => 0
  | c :: r => if fl c = true then (if c ∈ pre then 6 else scanNew fl (pre ++ [c]) r) else 5
def newE (fl : Int → Bool) (cells : List Int) : Int := if 1024 < cells.length then 4 else scanNew fl [] cells
/-- The robots of a new state. -/
def newR (cells : List Int) : List Rec := cells.map fun c => ⟨c, 0, 0, 1000, 0⟩
/-- What New answers. -/
def newS (fl : Int → Bool) (cells : List Int) : St := if newE fl cells = 0 then ⟨0, newR cells, [], []⟩ else ⟨0, [], [], []⟩

theorem drop_getD {cells : List Int} {k : Nat} (hk : k < cells.length) : cells.drop k = cells.getD k 0 :: cells.drop (k + 1) := by
  rw [List.drop_eq_getElem_cons hk]
  simp [List.getD, hk]
theorem take_getD {cells : List Int} {k : Nat} (hk : k < cells.length) : cells.take (k + 1) = cells.take k ++ [cells.getD k 0] := by
  rw [List.take_add_one]
  simp [List.getD, hk]
theorem scan_step {fl : Int → Bool} {cells : List Int} {k : Nat} (hk : k < cells.length) (hf : fl (cells.getD k 0) = true) (hn : cells.getD k 0 ∉ cells.take k) :
    scanNew fl (cells.take k) (cells.drop k) = scanNew fl (cells.take (k + 1)) (cells.drop (k + 1)) := by
  rw [drop_getD hk, scanNew, if_pos hf, if_neg hn, take_getD hk]
theorem scan_5 {fl : Int → Bool} {cells : List Int} {k : Nat} (hk : k < cells.length) (hf : fl (cells.getD k 0) = false) : scanNew fl (cells.take k) (cells.drop k) = 5 := by
  rw [drop_getD hk, scanNew, if_neg (by rw [hf]; simp)]
theorem scan_6 {fl : Int → Bool} {cells : List Int} {k : Nat} (hk : k < cells.length) (hf : fl (cells.getD k 0) = true) (hn : cells.getD k 0 ∈ cells.take k) : scanNew fl (cells.take k) (cells.drop k) = 6 := by
  rw [drop_getD hk, scanNew, if_pos hf, if_pos hn]
theorem mem_take {cells : List Int} {k : Nat} {c : Int} (hk : k ≤ cells.length) : c ∈ cells.take k ↔ ∃ j, j < k ∧ cells.getD j 0 = c := by
  rw [List.mem_iff_getElem]
  constructor
  · rintro ⟨j, hj, e⟩
    have hj' : j < k ∧ j < cells.length := by simp at hj; omega
    refine ⟨j, hj'.1, ?_⟩
    rw [← e]
    simp [List.getD, hj'.2]
  · rintro ⟨j, hj, e⟩
    refine ⟨j, by simp; omega, ?_⟩
    rw [← e]
    simp [List.getD, show j < cells.length by omega]
theorem mem_takeR {rs : List Rec} {k : Nat} {c : Int} (hk : k ≤ rs.length) : c ∈ (rs.take k).map Rec.a ↔ ∃ j, j < k ∧ (rs.getD j zr).a = c := by
  rw [List.mem_iff_getElem]
  constructor
  · rintro ⟨j, hj, e⟩
    have hj' : j < k ∧ j < rs.length := by simp at hj; omega
    refine ⟨j, hj'.1, ?_⟩
    rw [← e]
    simp [List.getD, hj'.2]
  · rintro ⟨j, hj, e⟩
    refine ⟨j, by simp; omega, ?_⟩
    rw [← e]
    simp [List.getD, show j < rs.length by omega]
theorem takeR_more {rs : List Rec} {k : Nat} (hk : k < rs.length) : (rs.take (k + 1)).map Rec.a = (rs.take k).map Rec.a ++ [(rs.getD k zr).a] := by
  rw [List.take_add_one, List.map_append]
  simp only [List.getD, List.getElem?_eq_getElem hk, Option.toList_some, List.map_cons, List.map_nil, Option.getD_some]

/-- What a scan that finds nothing wrong says. -/
theorem scan_zero {fl : Int → Bool} {cells : List Int} : ∀ (m k : Nat), k + m = cells.length → scanNew fl (cells.take k) (cells.drop k) = 0 → ∀ j, k ≤ j → j < cells.length → fl (cells.getD j 0) = true ∧ cells.getD j 0 ∉ cells.take j := by
  intro m
  induction m with
  | zero => intro k hk _ j h1 h2; omega
  | succ m ih =>
    intro k hk h j h1 h2
    by_cases hf : fl (cells.getD k 0) = true
    · by_cases hn : cells.getD k 0 ∈ cells.take k
      · rw [scan_6 (by omega) hf hn] at h; omega
      · rw [scan_step (by omega) hf hn] at h
        by_cases e : j = k
        · subst e; exact ⟨hf, hn⟩
        · exact ih (k + 1) (by omega) h j (by omega) h2
    · rw [scan_5 (by omega) (by simpa using hf)] at h; omega
theorem newR_at {cells : List Int} {i : Nat} (hi : i < cells.length) : (newR cells).getD i zr = ⟨cells.getD i 0, 0, 0, 1000, 0⟩ := by
  simp [newR, List.getD, hi]
/-- The state that New answers may be. -/
theorem new_right {fl : Int → Bool} {cells : List Int} (h : newE fl cells = 0) : RightP fl (newS fl cells) := by
  unfold newS
  rw [if_pos h]
  unfold newE at h
  by_cases h1 : 1024 < cells.length
  · rw [if_pos h1] at h; omega
  rw [if_neg h1] at h
  have hz := scan_zero (fl := fl) (cells := cells) cells.length 0 (by omega) (by simpa using h)
  have hl : (newR cells).length = cells.length := by simp [newR]
  refine ⟨⟨by simp, by simp⟩, by simp only [hl]; omega, by simp, fun i hi => ?_, fun i hi => absurd hi (by simp), fun i hi => absurd hi (by simp), fun i hi => absurd hi (by simp), fun i hi => ?_⟩
  · simp only [hl] at hi
    have h2 := hz i (by omega) hi
    refine ⟨by rw [newR_at hi]; exact h2.1, fun k hk => ?_, by rw [newR_at hi]; simp, by rw [newR_at hi]; simp⟩
    rw [newR_at hi, newR_at (by omega)]
    intro e
    exact h2.2 ((mem_take (by omega)).2 ⟨k, hk, e⟩)
  · simp only [hl] at hi
    show ModeP _ ((newR cells).getD i zr) i
    rw [newR_at hi]
    exact .inl ⟨.inl rfl, rfl⟩

end Go.Proofs.YtplnaaokapilpaaDoor.Vm

namespace Go.Proofs.YtplnaaokapilpaaDoor.Vm
open Go.RowKit

/-- A grid that lies in a block. -/
def GridAt (w : World) (b : Nat) (W H : Int) (s : ByteArray) : Prop :=
  w.cell? ⟨b, 0, none⟩ = some (.int .i64 W) ∧ w.cell? ⟨b, 1, none⟩ = some (.int .i64 H) ∧ w.cell? ⟨b, 2, none⟩ = some (.string s)
theorem GridAt.below {w w' : World} {b B : Nat} {W H : Int} {s : ByteArray} (h : GridAt w b W H s) (hb : Below B w w') (hB : b < B) : GridAt w' b W H s :=
  ⟨(hb.cell (p := ⟨b, 0, none⟩) hB).trans h.1, (hb.cell (p := ⟨b, 1, none⟩) hB).trans h.2.1, (hb.cell (p := ⟨b, 2, none⟩) hB).trans h.2.2⟩

end Go.Proofs.YtplnaaokapilpaaDoor.Vm

namespace Go.Proofs.YtplnaaokapilpaaDoor.Vm
open Go.RowKit

/-- A state's cells. -/
structure Sh where
  t : Int
  a1 : Option Addr
  n1 : Nat
  c1 : Nat
  a2 : Option Addr
  n2 : Nat
  c2 : Nat
  a3 : Option Addr
  n3 : Nat
  c3 : Nat
abbrev shV (h : Sh) : Value := .agg #[.int .i64 h.t, .slice h.a1 h.n1 h.c1, .slice h.a2 h.n2 h.c2, .slice h.a3 h.n3 h.c3]
/-- A state's cells lie in block b. -/
def StAt (w : World) (b : Nat) (h : Sh) : Prop :=
  w.cell? ⟨b, 0, none⟩ = some (.int .i64 h.t) ∧ w.cell? ⟨b, 1, none⟩ = some (.slice h.a1 h.n1 h.c1) ∧ w.cell? ⟨b, 2, none⟩ = some (.slice h.a2 h.n2 h.c2) ∧ w.cell? ⟨b, 3, none⟩ = some (.slice h.a3 h.n3 h.c3)
theorem StAt.below {w w' : World} {b B : Nat} {h : Sh} (hs : StAt w b h) (hb : Below B w w') (hB : b < B) : StAt w' b h :=
  ⟨(hb.cell (p := ⟨b, 0, none⟩) hB).trans hs.1, (hb.cell (p := ⟨b, 1, none⟩) hB).trans hs.2.1, (hb.cell (p := ⟨b, 2, none⟩) hB).trans hs.2.2.1, (hb.cell (p := ⟨b, 3, none⟩) hB).trans hs.2.2.2⟩

/-- What the slices of a state hold. -/
structure StIn (w : World) (B : Nat) (h : Sh) (s : St) : Prop where
  tick : h.t = s.tick
  rs : RowR w B h.a1 h.n1 h.c1 s.rs
  ts : RowR w B h.a2 h.n2 h.c2 s.ts
  bl : RowZ .i64 w B h.a3 h.n3 h.c3 s.bl
theorem StIn.below {w w' : World} {B : Nat} {h : Sh} {s : St} (hs : StIn w B h s) (hb : Below B w w') : StIn w' B h s := ⟨hs.tick, hs.rs.below hb, hs.ts.below hb, hs.bl.below hb⟩
theorem StIn.mono {w : World} {B B' : Nat} {h : Sh} {s : St} (hs : StIn w B h s) (hB : B ≤ B') : StIn w B' h s :=
  ⟨hs.tick, hs.rs.mono hB, hs.ts.mono hB, by
    obtain ⟨h1, h2, h3, h4⟩ := hs.bl
    exact ⟨h1, h2, h3, fun hn => by obtain ⟨b, off, e, hb, hc⟩ := h4 hn; exact ⟨b, off, e, by omega, hc⟩⟩⟩
/-- The robots' Tasks are ints. -/
def WfC (s : St) : Prop := ∀ i, i < s.rs.length → (Lit.int .i64 (s.rs.getD i zr).c).wf = true

/-- A new record. -/
theorem recAt_new (w : World) (r : Rec) (t : TypeId) : RecAt (w.alloc (.cells #[.int .i64 r.a, .int .i64 r.b, .int .i64 r.c, .int .i64 r.d, .int .i64 r.e] t)) w.heap.size 0 r := ⟨by simp, by simp, by simp, by simp, by simp⟩
end Go.Proofs.YtplnaaokapilpaaDoor.Vm
