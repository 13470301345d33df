/- The mathematics of disks (layer 13): names in order, files, and what is done to them. No function of the program is named here. -/
import Derived.Laws.Strings
import Derived.Test.YtkfjbpcngmipnaaWords
namespace Go.Proofs.Ytkfjbpcngmipnaa.Vm
open Go

/-! Names in order, as the language has it. -/
theorem less_irrefl : ∀ l : List UInt8, Op.bytesLess l l = false
  | [] => rfl
  | a :: l => by
    have h : ¬ a < a := by rw [UInt8.lt_iff_toNat_lt]; omega
    simp [Op.bytesLess, less_irrefl l, h]
theorem less_total : ∀ a b : List UInt8, a ≠ b → Op.bytesLess a b = false → Op.bytesLess b a = true
  | [], [], h, _ => absurd rfl h
  | [], _ :: _, _, h => by simp [Op.bytesLess] at h
  | _ :: _, [], _, _ => rfl
  | x :: a, y :: b, h, h2 => by
    simp only [Op.bytesLess, Bool.or_eq_false_iff, decide_eq_false_iff_not, Bool.and_eq_false_iff, UInt8.lt_iff_toNat_lt] at h2
    by_cases e : x = y
    · subst e
      have h3 : Op.bytesLess b a = true := less_total a b (fun e => h (by rw [e])) (by simpa using h2.2)
      simp [Op.bytesLess, h3]
    · have : x.toNat ≠ y.toNat := fun e' => e (UInt8.toNat_inj.1 e')
      have : y < x := by rw [UInt8.lt_iff_toNat_lt]; omega
      simp [Op.bytesLess, this]
theorem less_trans : ∀ a b c : List UInt8, Op.bytesLess a b = true → Op.bytesLess b c = true → Op.bytesLess a c = true
  | _, [], _, h, _ => by simp [Op.bytesLess] at h
  | _, _ :: _, [], _, h => by simp [Op.bytesLess] at h
  | [], _ :: _, _ :: _, _, _ => rfl
  | x :: a, y :: b, z :: c, h, h2 => by
    simp only [Op.bytesLess, Bool.or_eq_true, decide_eq_true_eq, Bool.and_eq_true, UInt8.lt_iff_toNat_lt, beq_iff_eq] at h h2 ⊢
    rcases h with h | ⟨rfl, h⟩
    · rcases h2 with h2 | ⟨rfl, h2⟩
      · exact .inl (by omega)
      · exact .inl h
    · rcases h2 with h2 | ⟨rfl, h2⟩
      · exact .inl h2
      · exact .inr ⟨rfl, less_trans a b c h h2⟩
theorem less_asymm {a b : List UInt8} (h : Op.bytesLess a b = true) : Op.bytesLess b a = false := by
  cases hb : Op.bytesLess b a with
  | false => rfl
  | true => have := less_trans a b a h hb; rw [less_irrefl] at this; cases this
theorem name_eq {a b : ByteArray} : a.toList = b.toList ↔ a = b := by
  refine ⟨fun h => ?_, fun h => by rw [h]⟩
  rw [ByteArray.toList_eq, ByteArray.toList_eq] at h
  cases a; cases b
  simpa [Array.toList_inj] using h
theorem name_beq (a b : ByteArray) : (a.toList == b.toList) = decide (a = b) := by
  by_cases h : a = b
  · simp [h]
  · have : a.toList ≠ b.toList := fun e => h (name_eq.1 e)
    simp [h, this]
/-- One name before another. -/
def nlt (a b : ByteArray) : Bool := Op.bytesLess a.toList b.toList
theorem nlt_irrefl (a : ByteArray) : nlt a a = false := less_irrefl _
theorem nlt_trans {a b c : ByteArray} (h : nlt a b = true) (h2 : nlt b c = true) : nlt a c = true := less_trans _ _ _ h h2
theorem nlt_total {a b : ByteArray} (h : a ≠ b) (h2 : nlt a b = false) : nlt b a = true := less_total _ _ (fun e => h (name_eq.1 e)) h2
theorem nlt_asymm {a b : ByteArray} (h : nlt a b = true) : nlt b a = false := less_asymm h
theorem nlt_ne {a b : ByteArray} (h : nlt a b = true) : a ≠ b := fun e => by rw [e, nlt_irrefl] at h; cases h
/-- The language's greater. -/
theorem ngt_eq (a b : ByteArray) : (!(Op.bytesLess a.toList b.toList || a.toList == b.toList)) = nlt b a := by
  by_cases h : a = b
  · subst h
    simp [nlt_irrefl]
  · rw [name_beq]
    cases h2 : Op.bytesLess a.toList b.toList with
    | true => simp [nlt_asymm (a := a) (b := b) h2]
    | false => simp [h, nlt_total (a := a) (b := b) h h2]

/-! Files and disks. -/
structure FileS where
  name : ByteArray
  b : List Nat
  sure : Nat
structure DiskS where
  F : List FileS
  most : Int
  burn : Int
  down : Bool
def zfile : FileS := ⟨⟨#[]⟩, [], 0⟩
/-- Where a file is; the number of files: there is none. -/
def atS (F : List FileS) (n : ByteArray) : Nat := F.findIdx fun f => decide (f.name = n)
def atI (F : List FileS) (n : ByteArray) : Int := if atS F n < F.length then (atS F n : Nat) else -1
def allS (F : List FileS) : Nat := (F.map fun f => f.b.length).sum
def leftS (d : DiskS) : Int := max (d.most - (allS d.F : Nat)) 0
def okName (n : ByteArray) : Prop := 1 ≤ n.size ∧ n.size ≤ 40
instance (n : ByteArray) : Decidable (okName n) := by unfold okName; infer_instance
def burnS (d : DiskS) : Int × DiskS := if d.down = true ∨ d.burn = 0 then (9, { d with down := true }) else (0, { d with burn := if 0 < d.burn then d.burn - 1 else d.burn })
def burnsS (d : DiskS) (a b : ByteArray) : Int × DiskS := if okName a ∧ okName b then burnS d else (1, d)
/-- Files with one more, in order. -/
def inS (F : List FileS) (f : FileS) : List FileS := (F.takeWhile fun g => !nlt f.name g.name) ++ f :: F.dropWhile fun g => !nlt f.name g.name
def sureF (f : FileS) : FileS := { f with sure := f.b.length }
def appendS (d : DiskS) (n : ByteArray) (x : List Nat) : Int × DiskS :=
  let e := burnsS d n n
  if e.1 ≠ 0 then e else
  if leftS e.2 < (x.length : Nat) then (8, e.2) else
  if atS e.2.F n < e.2.F.length then (0, { e.2 with F := e.2.F.set (atS e.2.F n) { e.2.F.getD (atS e.2.F n) zfile with b := (e.2.F.getD (atS e.2.F n) zfile).b ++ x } }) else
  (0, { e.2 with F := inS e.2.F ⟨n, x, 0⟩ })
def syncS (d : DiskS) (n : ByteArray) : Int × DiskS :=
  let e := burnsS d n n
  if e.1 ≠ 0 then e else
  if atS e.2.F n < e.2.F.length then (0, { e.2 with F := e.2.F.set (atS e.2.F n) (sureF (e.2.F.getD (atS e.2.F n) zfile)) }) else (5, e.2)
def renameS (d : DiskS) (n m : ByteArray) : Int × DiskS :=
  let e := burnsS d n m
  if e.1 ≠ 0 then e else
  if atS e.2.F n < e.2.F.length then
    if n = m then (0, e.2) else
    let F := e.2.F.eraseIdx (atS e.2.F n)
    (0, { e.2 with F := inS (F.eraseIdx (atS F m)) { e.2.F.getD (atS e.2.F n) zfile with name := m } })
  else (5, e.2)
def deleteS (d : DiskS) (n : ByteArray) : Int × DiskS :=
  let e := burnsS d n n
  if e.1 ≠ 0 then e else
  if atS e.2.F n < e.2.F.length then (0, { e.2 with F := e.2.F.eraseIdx (atS e.2.F n) }) else (5, e.2)
def roomS (d : DiskS) (n : Int) : Int × DiskS := if n < 0 ∨ 16777216 < n then (1, d) else (0, { d with most := n })
def fuseS (d : DiskS) (n : Int) : DiskS := { d with burn := max n (-1) }
/-- What is left of a file of which so many bytes more are kept. -/
def cutF (f : FileS) (k : Int) : FileS :=
  let b := if max k 0 < (f.b.length : Int) - f.sure then f.b.take (f.sure + (max k 0).toNat) else f.b
  ⟨f.name, b, b.length⟩
def crashF (F : List FileS) (kept : List Int) : List FileS := F.mapIdx fun i f => cutF f (kept.getD i 0)
def crashS (d : DiskS) (kept : List Int) : DiskS := ⟨crashF d.F kept, d.most, -1, false⟩
def newDk (room : Int) : DiskS := ⟨[], room, -1, false⟩

/-! What is done. -/
structure OpS where
  act : Int
  A : ByteArray
  B : ByteArray
  data : List Nat
  n : Int
  kept : List Int
def doS (d : DiskS) (x : OpS) : Int × DiskS :=
  if x.act = 0 then appendS d x.A x.data else
  if x.act = 1 then syncS d x.A else
  if x.act = 2 then renameS d x.A x.B else
  if x.act = 3 then deleteS d x.A else
  if x.act = 4 then roomS d x.n else
  if x.act = 5 then (0, fuseS d x.n) else (0, crashS d x.kept)
def runS : DiskS → List OpS → DiskS
  | d, [] => d
  | d, x :: l => runS (doS d x).2 l

/-! Disks that may be: the names in order, no more sure than there is, room enough. -/
def Asc (F : List FileS) : Prop := F.Pairwise fun f g => nlt f.name g.name = true
structure OkD (d : DiskS) : Prop where
  asc : Asc d.F
  sure : ∀ f ∈ d.F, f.sure ≤ f.b.length
  most : 0 ≤ d.most ∧ d.most ≤ 16777216
  all : allS d.F ≤ 16777216
  names : ∀ f ∈ d.F, okName f.name
  burn : -1 ≤ d.burn ∧ d.burn ≤ 9223372036854775807

theorem atS_lt {F : List FileS} {n : ByteArray} (h : atS F n < F.length) : (F.getD (atS F n) zfile).name = n := by
  unfold atS at h ⊢
  have := List.findIdx_getElem (w := h)
  simpa [List.getD, h] using this
theorem allS_set {F : List FileS} {i : Nat} (hi : i < F.length) (g : FileS) : allS (F.set i g) + (F.getD i zfile).b.length = allS F + g.b.length := by
  induction F generalizing i with
  | nil => simp at hi
  | cons f F ih =>
    cases i with
    | zero => simp [allS]; omega
    | succ i =>
      have := ih (i := i) (by simpa using hi)
      simp [allS] at this ⊢
      omega
theorem allS_erase_le (F : List FileS) (i : Nat) : allS (F.eraseIdx i) ≤ allS F := by
  induction F generalizing i with
  | nil => simp [allS]
  | cons f F ih =>
    cases i with
    | zero => simp [allS]
    | succ i =>
      have := ih i
      simp [allS] at this ⊢
      omega
theorem allS_erase {F : List FileS} {i : Nat} (hi : i < F.length) : allS (F.eraseIdx i) + (F.getD i zfile).b.length = allS F := by
  induction F generalizing i with
  | nil => simp at hi
  | cons f F ih =>
    cases i with
    | zero => simp [allS]; omega
    | succ i =>
      have := ih (i := i) (by simpa using hi)
      simp [allS] at this ⊢
      omega
theorem allS_append (F G : List FileS) : allS (F ++ G) = allS F + allS G := by simp [allS]
theorem allS_in (F : List FileS) (f : FileS) : allS (inS F f) = allS F + f.b.length := by
  unfold inS
  have h := List.takeWhile_append_dropWhile (p := fun g : FileS => !nlt f.name g.name) (l := F)
  have h2 := congrArg allS h
  rw [allS_append] at h2 ⊢
  simp [allS] at h2 ⊢
  omega
theorem inS_len (F : List FileS) (f : FileS) : (inS F f).length = F.length + 1 := by
  have h := congrArg List.length (List.takeWhile_append_dropWhile (p := fun g : FileS => !nlt f.name g.name) (l := F))
  unfold inS
  simp only [List.length_append, List.length_cons] at h ⊢
  omega
theorem mem_inS {F : List FileS} {f g : FileS} : g ∈ inS F f ↔ g = f ∨ g ∈ F := by
  have h := List.takeWhile_append_dropWhile (p := fun g : FileS => !nlt f.name g.name) (l := F)
  unfold inS
  rw [List.mem_append, List.mem_cons]
  constructor
  · rintro (h1 | h1 | h1)
    · exact .inr (by rw [← h]; exact List.mem_append_left _ h1)
    · exact .inl h1
    · exact .inr (by rw [← h]; exact List.mem_append_right _ h1)
  · rintro (h1 | h1)
    · exact .inr (.inl h1)
    · rw [← h] at h1
      rcases List.mem_append.1 h1 with h1 | h1
      · exact .inl h1
      · exact .inr (.inr h1)
/-- A file of a name that there is not yet, put in, leaves the names in order. -/
theorem Asc.inS : ∀ {F : List FileS} {f : FileS}, Asc F → (∀ g ∈ F, g.name ≠ f.name) → Asc (inS F f)
  | [], f, _, _ => by simp [Vm.inS, Asc]
  | g :: F, f, h, hn => by
    have h1 : ∀ x ∈ F, nlt g.name x.name = true := (List.pairwise_cons.1 h).1
    have h2 : Asc F := (List.pairwise_cons.1 h).2
    by_cases hg : nlt f.name g.name = true
    · have e : Vm.inS (g :: F) f = f :: g :: F := by simp [Vm.inS, List.takeWhile_cons, List.dropWhile_cons, hg]
      rw [e]
      refine List.pairwise_cons.2 ⟨fun x hx => ?_, h⟩
      rcases List.mem_cons.1 hx with rfl | hx
      · exact hg
      · exact nlt_trans hg (h1 x hx)
    · have hg' : nlt f.name g.name = false := by simpa using hg
      have e : Vm.inS (g :: F) f = g :: Vm.inS F f := by simp [Vm.inS, List.takeWhile_cons, List.dropWhile_cons, hg']
      rw [e]
      refine List.pairwise_cons.2 ⟨fun x hx => ?_, Asc.inS h2 (fun x hx => hn x (List.mem_cons_of_mem _ hx))⟩
      rcases mem_inS.1 hx with rfl | hx
      · exact nlt_total (fun e => hn g (by simp) e.symm) hg'
      · exact h1 x hx
theorem Asc.erase {F : List FileS} (h : Asc F) (i : Nat) : Asc (F.eraseIdx i) := h.sublist (List.eraseIdx_sublist F i)
theorem atS_none {F : List FileS} {n : ByteArray} (h : ¬ atS F n < F.length) : ∀ g ∈ F, g.name ≠ n := by
  intro g hg e
  exact h (List.findIdx_lt_length_of_exists ⟨g, hg, by simpa using e⟩)
/-- Behind the file of a name no other one bears it. -/
theorem Asc.erased {F : List FileS} (h : Asc F) (n : ByteArray) : ∀ g ∈ F.eraseIdx (atS F n), g.name ≠ n := by
  intro g hg e
  by_cases hi : atS F n < F.length
  · obtain ⟨j, hj, hjn, rfl⟩ : ∃ j, ∃ hj : j < F.length, j ≠ atS F n ∧ F[j] = g := by
      obtain ⟨k, hk, hg⟩ := List.mem_iff_getElem.1 hg
      rw [List.getElem_eraseIdx] at hg
      split at hg
      · exact ⟨k, by omega, by omega, hg⟩
      · exact ⟨k + 1, by rw [List.length_eraseIdx_of_lt hi] at hk; omega, by omega, hg⟩
    have hn := atS_lt hi
    simp only [List.getD, hi, List.getElem?_eq_getElem, Option.getD_some] at hn
    rcases Nat.lt_or_gt_of_ne hjn with hlt | hlt
    · have := List.pairwise_iff_getElem.1 h j (atS F n) hj hi hlt
      rw [e, hn, nlt_irrefl] at this
      cases this
    · have := List.pairwise_iff_getElem.1 h (atS F n) j hi hj hlt
      rw [e, hn, nlt_irrefl] at this
      cases this
  · exact atS_none hi g (List.mem_of_mem_eraseIdx hg) e

/-! What may be stays so. -/
theorem OkD.burnS {d : DiskS} (h : OkD d) : OkD (Vm.burnS d).2 := by
  unfold Vm.burnS
  split
  · exact ⟨h.asc, h.sure, h.most, h.all, h.names, h.burn⟩
  · refine ⟨h.asc, h.sure, h.most, h.all, h.names, ?_⟩
    have := h.burn
    show -1 ≤ (if 0 < d.burn then d.burn - 1 else d.burn) ∧ (if 0 < d.burn then d.burn - 1 else d.burn) ≤ 9223372036854775807
    split <;> omega
theorem OkD.burnsS {d : DiskS} (h : OkD d) (a b : ByteArray) : OkD (Vm.burnsS d a b).2 := by
  unfold Vm.burnsS
  split
  · exact h.burnS
  · exact h
theorem burnsS_ok {d : DiskS} {a b : ByteArray} (h : (burnsS d a b).1 = 0) : okName a ∧ okName b := by
  unfold burnsS at h
  split at h
  · assumption
  · simp at h
theorem getD_mem {F : List FileS} {i : Nat} (h : i < F.length) : F.getD i zfile ∈ F := by simp [List.getD, h]
theorem Asc.set {F : List FileS} {i : Nat} {g : FileS} (h : Asc F) (hi : i < F.length) (hn : g.name = (F.getD i zfile).name) : Asc (F.set i g) := by
  have e : (F.set i g).map (·.name) = F.map (·.name) := by
    rw [List.map_set, hn]
    refine List.ext_getElem (by simp) (fun j h1 h2 => ?_)
    rw [List.getElem_set]
    split
    · rename_i e
      subst e
      simp [List.getD, hi]
    · rfl
  have h1 : (F.map (·.name)).Pairwise fun a b => nlt a b = true := List.pairwise_map.2 h
  rw [← e] at h1
  exact List.pairwise_map.1 h1
theorem OkD.set {d : DiskS} (h : OkD d) {i : Nat} (hi : i < d.F.length) {g : FileS} (hn : g.name = (d.F.getD i zfile).name) (hs : g.sure ≤ g.b.length) (ha : allS d.F + g.b.length ≤ 16777216 + (d.F.getD i zfile).b.length) : OkD { d with F := d.F.set i g } := by
  refine ⟨h.asc.set hi hn, fun f hf => ?_, h.most, ?_, fun f hf => ?_, h.burn⟩
  · rcases List.mem_or_eq_of_mem_set hf with hf | rfl
    · exact h.sure f hf
    · exact hs
  · have := allS_set hi g
    show allS (d.F.set i g) ≤ _
    omega
  · rcases List.mem_or_eq_of_mem_set hf with hf | rfl
    · exact h.names f hf
    · rw [hn]; exact h.names _ (getD_mem hi)
theorem OkD.erase {d : DiskS} (h : OkD d) (i : Nat) : OkD { d with F := d.F.eraseIdx i } :=
  ⟨h.asc.erase i, fun f hf => h.sure f (List.mem_of_mem_eraseIdx hf), h.most, Nat.le_trans (allS_erase_le _ _) h.all, fun f hf => h.names f (List.mem_of_mem_eraseIdx hf), h.burn⟩
theorem OkD.put {d : DiskS} (h : OkD d) {f : FileS} (hn : ∀ g ∈ d.F, g.name ≠ f.name) (hk : okName f.name) (hs : f.sure ≤ f.b.length) (ha : allS d.F + f.b.length ≤ 16777216) : OkD { d with F := inS d.F f } := by
  refine ⟨h.asc.inS hn, fun g hg => ?_, h.most, by show allS (inS d.F f) ≤ _; rw [allS_in]; exact ha, fun g hg => ?_, h.burn⟩
  · rcases mem_inS.1 hg with rfl | hg
    · exact hs
    · exact h.sure g hg
  · rcases mem_inS.1 hg with rfl | hg
    · exact hk
    · exact h.names g hg
theorem leftS_fits {d : DiskS} (h : OkD d) {n : Nat} (hn : ¬ leftS d < (n : Int)) : allS d.F + n ≤ 16777216 := by
  have h1 := h.most
  have h2 := h.all
  unfold leftS at hn
  omega
theorem OkD.append {d : DiskS} (h : OkD d) (n : ByteArray) (x : List Nat) : OkD (appendS d n x).2 := by
  have hb := h.burnsS n n
  unfold appendS
  simp only []
  generalize he : Vm.burnsS d n n = e at hb ⊢
  by_cases h0 : e.1 = 0
  · have hk := burnsS_ok (d := d) (a := n) (b := n) (by rw [he]; exact h0)
    rw [if_neg (by simpa using h0)]
    by_cases hl : leftS e.2 < (x.length : Int)
    · rw [if_pos hl]; exact hb
    · have hf := leftS_fits hb hl
      rw [if_neg hl]
      by_cases hi : atS e.2.F n < e.2.F.length
      · rw [if_pos hi]
        refine hb.set hi rfl ?_ ?_
        · have := hb.sure _ (getD_mem hi)
          show (e.2.F.getD (atS e.2.F n) zfile).sure ≤ ((e.2.F.getD (atS e.2.F n) zfile).b ++ x).length
          rw [List.length_append]
          omega
        · show allS e.2.F + ((e.2.F.getD (atS e.2.F n) zfile).b ++ x).length ≤ _
          rw [List.length_append]
          omega
      · rw [if_neg hi]
        exact hb.put (atS_none hi) hk.1 (Nat.zero_le _) hf
  · rw [if_pos h0]; exact hb
theorem OkD.sync {d : DiskS} (h : OkD d) (n : ByteArray) : OkD (syncS d n).2 := by
  have hb := h.burnsS n n
  unfold syncS
  simp only []
  generalize Vm.burnsS d n n = e at hb ⊢
  split
  · exact hb
  · split
    · rename_i hi
      exact hb.set hi rfl (Nat.le_refl _) (by have := hb.all; simp [sureF]; omega)
    · exact hb
theorem OkD.delete {d : DiskS} (h : OkD d) (n : ByteArray) : OkD (deleteS d n).2 := by
  have hb := h.burnsS n n
  unfold deleteS
  simp only []
  generalize Vm.burnsS d n n = e at hb ⊢
  split
  · exact hb
  · split
    · exact hb.erase _
    · exact hb
theorem OkD.rename {d : DiskS} (h : OkD d) (n m : ByteArray) : OkD (renameS d n m).2 := by
  have hb := h.burnsS n m
  unfold renameS
  simp only []
  generalize he : Vm.burnsS d n m = e at hb ⊢
  by_cases h0 : e.1 = 0
  · have hk := burnsS_ok (d := d) (a := n) (b := m) (by rw [he]; exact h0)
    rw [if_neg (by simpa using h0)]
    by_cases hi : atS e.2.F n < e.2.F.length
    · rw [if_pos hi]
      by_cases hnm : n = m
      · rw [if_pos hnm]; exact hb
      · rw [if_neg hnm]
        refine ((hb.erase _).erase _).put (Asc.erased (hb.asc.erase _) m) hk.2 (show (e.2.F.getD (atS e.2.F n) zfile).sure ≤ (e.2.F.getD (atS e.2.F n) zfile).b.length from hb.sure _ (getD_mem hi)) ?_
        have h1 := allS_erase hi
        have h2 := allS_erase_le (e.2.F.eraseIdx (atS e.2.F n)) (atS (e.2.F.eraseIdx (atS e.2.F n)) m)
        have h3 := hb.all
        show allS ((e.2.F.eraseIdx _).eraseIdx _) + (e.2.F.getD _ zfile).b.length ≤ _
        omega
    · rw [if_neg hi]; exact hb
  · rw [if_pos h0]; exact hb
theorem cutF_le (f : FileS) (k : Int) (h : f.sure ≤ f.b.length) : (cutF f k).b.length ≤ f.b.length ∧ f.sure ≤ (cutF f k).b.length ∧ (cutF f k).b = f.b.take (cutF f k).b.length := by
  unfold cutF
  simp only []
  split
  · rw [List.length_take]
    refine ⟨by omega, by omega, ?_⟩
    rw [Nat.min_eq_left (by omega)]
  · exact ⟨Nat.le_refl _, h, (List.take_length).symm⟩
theorem cutF_sure (f : FileS) (k : Int) : (cutF f k).sure = (cutF f k).b.length := rfl
theorem cutF_name (f : FileS) (k : Int) : (cutF f k).name = f.name := rfl
theorem cutF_again (f : FileS) (k j : Int) : cutF (cutF f k) j = cutF f k := by
  generalize hg : cutF f k = g
  have hs : g.sure = g.b.length := by rw [← hg]; rfl
  unfold cutF
  simp only []
  rw [if_neg (by rw [hs]; omega), ← hs]
theorem crashF_len (F : List FileS) (kept : List Int) : (crashF F kept).length = F.length := by simp [crashF]
theorem crashF_at {F : List FileS} {kept : List Int} {i : Nat} (hi : i < F.length) : (crashF F kept).getD i zfile = cutF (F.getD i zfile) (kept.getD i 0) := by
  simp [crashF, List.getD, hi]
theorem crashF_names (F : List FileS) (kept : List Int) : (crashF F kept).map (·.name) = F.map (·.name) := by
  refine List.ext_getElem (by simp [crashF]) (fun i h1 h2 => ?_)
  simp [crashF, cutF]
theorem crashF_again (F : List FileS) (kept kept' : List Int) : crashF (crashF F kept) kept' = crashF F kept := by
  refine List.ext_getElem (by simp [crashF]) (fun i h1 h2 => ?_)
  simp [crashF, cutF_again]
theorem allS_le {F G : List FileS} (hl : F.length = G.length) (h : ∀ i, i < F.length → (F.getD i zfile).b.length ≤ (G.getD i zfile).b.length) : allS F ≤ allS G := by
  induction F generalizing G with
  | nil => simp [allS]
  | cons f F ih =>
    cases G with
    | nil => simp at hl
    | cons g G =>
      have h0 := h 0 (by simp)
      have h1 := ih (G := G) (by simpa using hl) (fun i hi => by simpa using h (i + 1) (by simpa using hi))
      simp [allS] at h0 h1 ⊢
      omega
theorem OkD.crash {d : DiskS} (h : OkD d) (kept : List Int) : OkD (crashS d kept) := by
  refine ⟨?_, fun f hf => ?_, h.most, ?_, fun f hf => ?_, by show (-1 : Int) ≤ -1 ∧ (-1 : Int) ≤ 9223372036854775807; omega⟩
  · have h1 : (d.F.map (·.name)).Pairwise fun a b => nlt a b = true := List.pairwise_map.2 h.asc
    rw [← crashF_names d.F kept] at h1
    exact List.pairwise_map.1 h1
  · obtain ⟨i, hi, rfl⟩ := List.mem_mapIdx.1 hf
    exact Nat.le_refl _
  · refine Nat.le_trans (allS_le (crashF_len _ _) (fun i hi => ?_)) h.all
    have hi : i < d.F.length := by rw [← crashF_len d.F kept]; exact hi
    show ((crashF d.F kept).getD i zfile).b.length ≤ _
    rw [crashF_at hi]
    exact (cutF_le _ _ (h.sure _ (getD_mem hi))).1
  · obtain ⟨i, hi, rfl⟩ := List.mem_mapIdx.1 hf
    exact h.names (d.F[i]) (List.getElem_mem hi)
theorem OkD.does {d : DiskS} (h : OkD d) (x : OpS) (hx : x.n ≤ 9223372036854775807) : OkD (doS d x).2 := by
  unfold doS
  split
  · exact h.append _ _
  split
  · exact h.sync _
  split
  · exact h.rename _ _
  split
  · exact h.delete _
  split
  · unfold roomS
    split
    · exact h
    · exact ⟨h.asc, h.sure, by show 0 ≤ x.n ∧ x.n ≤ _; omega, h.all, h.names, h.burn⟩
  split
  · exact ⟨h.asc, h.sure, h.most, h.all, h.names, by show -1 ≤ max x.n (-1) ∧ max x.n (-1) ≤ 9223372036854775807; omega⟩
  · exact h.crash _
theorem OkD.runs : ∀ (l : List OpS) {d : DiskS}, (∀ x ∈ l, x.n ≤ 9223372036854775807) → OkD d → OkD (runS d l)
  | [], _, _, h => h
  | x :: l, _, hx, h => OkD.runs l (fun y hy => hx y (List.mem_cons_of_mem _ hy)) (h.does x (hx x (by simp)))
theorem okD_new {room : Int} (h : 0 ≤ room ∧ room ≤ 16777216) : OkD (newDk room) :=
  ⟨.nil, fun f hf => by simp [newDk] at hf, h, by simp [newDk, allS], fun f hf => by simp [newDk] at hf, by show (-1 : Int) ≤ -1 ∧ (-1 : Int) ≤ 9223372036854775807; omega⟩
theorem runS_append (d : DiskS) (l m : List OpS) : runS d (l ++ m) = runS (runS d l) m := by
  induction l generalizing d with
  | nil => rfl
  | cons x l ih => exact ih _
/-- A disk of so many files has at most one more behind a thing that is done. -/
theorem burnsS_F (d : DiskS) (a b : ByteArray) : (burnsS d a b).2.F = d.F ∧ (burnsS d a b).2.most = d.most := by
  unfold burnsS burnS
  split
  · split <;> exact ⟨rfl, rfl⟩
  · exact ⟨rfl, rfl⟩
theorem doS_len (d : DiskS) (x : OpS) : (doS d x).2.F.length ≤ d.F.length + 1 := by
  unfold doS
  split
  · unfold appendS
    simp only []
    rw [(burnsS_F d x.A x.A).1]
    split
    · rw [(burnsS_F d x.A x.A).1]; omega
    split
    · rw [(burnsS_F d x.A x.A).1]; omega
    split
    · simp
    · simp [inS_len]
  split
  · unfold syncS
    simp only []
    rw [(burnsS_F d x.A x.A).1]
    split
    · rw [(burnsS_F d x.A x.A).1]; omega
    split
    · simp
    · rw [(burnsS_F d x.A x.A).1]; omega
  split
  · unfold renameS
    simp only []
    rw [(burnsS_F d x.A x.B).1]
    split
    · rw [(burnsS_F d x.A x.B).1]; omega
    split
    · split
      · rw [(burnsS_F d x.A x.B).1]; omega
      · show (inS _ _).length ≤ _
        rw [inS_len]
        have h1 := (List.eraseIdx_sublist d.F (atS d.F x.A)).length_le
        have h2 := (List.eraseIdx_sublist (d.F.eraseIdx (atS d.F x.A)) (atS (d.F.eraseIdx (atS d.F x.A)) x.B)).length_le
        omega
    · rw [(burnsS_F d x.A x.B).1]; omega
  split
  · unfold deleteS
    simp only []
    rw [(burnsS_F d x.A x.A).1]
    split
    · rw [(burnsS_F d x.A x.A).1]; omega
    split
    · have h1 := (List.eraseIdx_sublist d.F (atS d.F x.A)).length_le
      show (d.F.eraseIdx _).length ≤ _
      omega
    · rw [(burnsS_F d x.A x.A).1]; omega
  split
  · unfold roomS
    split <;> simp
  split
  · simp [fuseS]
  · simp [crashS, crashF_len]

/-! Without power nothing changes. -/
structure DownS (d e : DiskS) : Prop where
  F : e.F = d.F
  most : e.most = d.most
  off : e.down = true ∨ e.burn = 0
theorem DownS.burns {d e : DiskS} (h : DownS d e) (a b : ByteArray) : ((burnsS e a b).1 = 1 ∨ (burnsS e a b).1 = 9) ∧ DownS d (burnsS e a b).2 := by
  unfold burnsS burnS
  split
  · rw [if_pos h.off]
    exact ⟨.inr rfl, h.F, h.most, .inl rfl⟩
  · exact ⟨.inl rfl, h⟩
theorem DownS.does {d e : DiskS} (h : DownS d e) {x : OpS} (hx : 0 ≤ x.act ∧ x.act ≤ 3) : ((doS e x).1 = 1 ∨ (doS e x).1 = 9) ∧ DownS d (doS e x).2 := by
  have key : ∀ a b, (burnsS e a b).1 ≠ 0 := fun a b => by
    have := (h.burns a b).1
    omega
  unfold doS
  split
  · unfold appendS
    simp only []
    rw [if_pos (key _ _)]
    exact h.burns _ _
  split
  · unfold syncS
    simp only []
    rw [if_pos (key _ _)]
    exact h.burns _ _
  split
  · unfold renameS
    simp only []
    rw [if_pos (key _ _)]
    exact h.burns _ _
  split
  · unfold deleteS
    simp only []
    rw [if_pos (key _ _)]
    exact h.burns _ _
  · omega
end Go.Proofs.Ytkfjbpcngmipnaa.Vm
