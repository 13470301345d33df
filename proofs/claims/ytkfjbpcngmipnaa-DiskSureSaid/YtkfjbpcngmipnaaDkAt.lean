/- The program's disk as it lies in memory: its box, its map of files, their bytes. -/
import Derived.Test.YtkfjbpcngmipnaaDkMap
import Derived.Test.YtkfjbpcngmipnaaAppends
import Derived.Test.YtkfjbpcngmipnaaDiskRows
import Derived.Deep.LoopGhost
import Derived.Lib.Hide
import Derived.BigRegion
import Derived.StillTailTactics
namespace Go.Proofs.Ytkfjbpcngmipnaa.Vm
open Go Go.RowKit Go.Maps
set_option maxRecDepth 100000

theorem Own.alt {S : Nat → Prop} {w w' : World} {B : Nat} {v : Value} {l : List Nat} (h : Own w B v l) (hA : Alt S w w') (hS : ∀ k, v.ownBlock = some k → ¬ S k) : Own w' B v l := by
  refine ⟨h.1, ?_⟩
  rcases h.2 with h2 | ⟨g, cap, cur, rfl, hg, hh, r⟩
  · exact .inl h2
  · exact .inr ⟨g, cap, cur, rfl, hg, by rw [hA.block g (Array.getElem?_eq_some_iff.1 hh).1 (hS g rfl)]; exact hh, r⟩
theorem Own.blk {w : World} {B : Nat} {v : Value} {l : List Nat} (h : Own w B v l) {k : Nat} (hk : v.ownBlock = some k) : B ≤ k ∧ k < w.heap.size ∧ ∃ cs, w.heap[k]? = some (.cells cs 5 (0, 0)) := by
  have h1 := World.ownsRow.lt h k hk
  rcases h.2 with ⟨rfl, _⟩ | ⟨g, cap, cur, rfl, hg, hh, r⟩
  · cases hk
  · injection hk with hk
    subst hk
    exact ⟨hg, h1.2, cur, hh⟩
theorem slV_slice (v : SV) : ∃ a n c, slV v = .slice a n c ∧ ∀ b o, a = some ⟨b, o, none⟩ → (slV v).ownBlock = some b := by
  rcases v with _ | ⟨b, n, c⟩
  · exact ⟨none, 0, 0, rfl, fun b o e => by cases e⟩
  · exact ⟨_, n, c, rfl, fun b' o e => by injection e with e; injection e with e1 e2; subst e1; rfl⟩
/-- What is owned is such a slice. -/
theorem Own.sv {w : World} {B : Nat} {v : Value} {l : List Nat} (h : Own w B v l) : ∃ s : SV, v = slV s := by
  rcases h.2 with ⟨rfl, _⟩ | ⟨g, cap, cur, rfl, _⟩
  · exact ⟨none, rfl⟩
  · exact ⟨some (g, _, _), rfl⟩

/-- A file of the map, its bytes in memory of the disk's own. -/
structure FileP (w : World) (p : PF) (f : FileS) : Prop where
  own : Own w 0 (slV p.v) f.b
  sure : p.s = f.sure
def LikeP (w : World) : Option PF → Option FileS → Prop
  | none, none => True
  | some p, some f => FileP w p f
  | _, _ => False
/-- The files, but for one. -/
structure FilesBut (no : ByteArray → Prop) (w : World) (mb : Nat) (g : ByteArray → Option PF) (F : List FileS) : Prop where
  kin : KIn dkM w mb F.length g
  is : ∀ y, (g y).isSome = (lookF F y).isSome
  like : ∀ y, ¬ no y → LikeP w (g y) (lookF F y)
  apart : ∀ y z p q k, y ≠ z → g y = some p → g z = some q → (slV p.v).ownBlock = some k → (slV q.v).ownBlock ≠ some k
abbrev FilesP := FilesBut fun _ => False
def BoxP (w : World) (bd mb : Nat) (most used fu : Int) (up : Bool) : Prop := w.heap[bd]? = some (.cells #[.map (some mb), .int .i64 most, .int .i64 used, .int .i64 fu, .bool up] 63 (0, 0))
/-- The program's disk. -/
structure PrgAt (w : World) (bd mb : Nat) (g : ByteArray → Option PF) (fu : Int) (d : DiskS) : Prop where
  box : BoxP w bd mb d.most (allS d.F : Nat) fu (!d.down)
  files : FilesP w mb g d.F
  fuse : max fu (-1) = d.burn
  wf : -9223372036854775808 ≤ fu
/-- Its blocks. -/
def Dk (bd mb : Nat) (g : ByteArray → Option PF) (k : Nat) : Prop := k = bd ∨ k = mb ∨ ∃ y p, g y = some p ∧ (slV p.v).ownBlock = some k
def PrgD (w : World) (P : Nat → Prop) (bd : Nat) (d : DiskS) : Prop := ∃ mb g fu, PrgAt w bd mb g fu d ∧ (∀ k, Dk bd mb g k → P k) ∧ ∀ k, P k → k < w.heap.size
/-- What an operation on the program's disk leaves. -/
def PrgPost (w : World) (P : Nat → Prop) (bd : Nat) (d' : DiskS) (w' : World) : Prop := ∃ P', PrgD w' P' bd d' ∧ Alt P w w' ∧ ∀ k, P' k → P k ∨ w.heap.size ≤ k
section
variable {no : ByteArray → Prop} {w w' w1 w2 : World} {S P : Nat → Prop} {bd mb k : Nat} {g : ByteArray → Option PF} {F : List FileS} {d d' : DiskS} {fu most used : Int} {up : Bool} {y n : ByteArray} {p : PF}
theorem FilesBut.file (h : FilesBut no w mb g F) (hy : g y = some p) (hn : ¬ no y) : ∃ f, lookF F y = some f ∧ FileP w p f := by
  have h1 := h.like y hn
  rw [hy] at h1
  cases e : lookF F y with
  | none => rw [e] at h1; exact absurd h1 id
  | some f => rw [e] at h1; exact ⟨f, rfl, h1⟩
theorem FilesBut.has (h : FilesBut no w mb g F) (hi : atS F n < F.length) (hn : ¬ no n) : ∃ p, g n = some p ∧ FileP w p (F.getD (atS F n) zfile) := by
  have h1 := h.like n hn
  rw [lookF_at hi] at h1
  cases e : g n with
  | none => rw [e] at h1; exact absurd h1 id
  | some p => rw [e] at h1; exact ⟨p, rfl, h1⟩
theorem FilesBut.hasNot (h : FilesBut no w mb g F) (hi : ¬ atS F n < F.length) : g n = none := by
  have h1 := h.is n
  rw [lookF_off hi] at h1
  cases e : g n with
  | none => rfl
  | some p => rw [e] at h1; cases h1
theorem FilesBut.blk (h : FilesP w mb g F) (hy : g y = some p) (hk : (slV p.v).ownBlock = some k) : k < w.heap.size ∧ ∃ cs, w.heap[k]? = some (.cells cs 5 (0, 0)) := by
  obtain ⟨f, _, hf⟩ := h.file hy id
  exact (hf.own.blk hk).2
theorem FilesBut.alt (h : FilesP w mb g F) (hA : Alt S w w') (hm : ¬ S mb) (hS : ∀ y p k, ¬ no y → g y = some p → (slV p.v).ownBlock = some k → ¬ S k) : FilesBut no w' mb g F :=
  ⟨h.kin.keep (hA.block mb h.kin.lt hm), h.is, fun y hy => by
    have h1 := h.like y id
    cases e : g y with
    | none => rw [e] at h1; cases e2 : lookF F y with
      | none => trivial
      | some f => rw [e2] at h1; exact absurd h1 id
    | some p => rw [e] at h1; cases e2 : lookF F y with
      | none => rw [e2] at h1; exact absurd h1 id
      | some f => rw [e2] at h1; exact ⟨h1.own.alt hA (fun k hk => hS y p k hy e hk), h1.sure⟩, h.apart⟩
theorem BoxP.alt (h : BoxP w bd mb most used fu up) (hA : Alt S w w') (hS : ¬ S bd) : BoxP w' bd mb most used fu up := by
  unfold BoxP at h ⊢
  rw [hA.block bd (Array.getElem?_eq_some_iff.1 h).1 hS]
  exact h
theorem BoxP.lt (h : BoxP w bd mb most used fu up) : bd < w.heap.size := (Array.getElem?_eq_some_iff.1 h).1
theorem BoxP.cells (h : BoxP w bd mb most used fu up) : w.cell? ⟨bd, 0, none⟩ = some (.map (some mb)) ∧ w.cell? ⟨bd, 1, none⟩ = some (.int .i64 most) ∧ w.cell? ⟨bd, 2, none⟩ = some (.int .i64 used) ∧ w.cell? ⟨bd, 3, none⟩ = some (.int .i64 fu) ∧ w.cell? ⟨bd, 4, none⟩ = some (.bool up) := by
  have key : ∀ i (u : Value), (#[.map (some mb), .int .i64 most, .int .i64 used, .int .i64 fu, .bool up] : Array Value)[i]? = some u → w.cell? ⟨bd, i, none⟩ = some u := fun i u hu => by
    unfold World.cell?
    rw [show w.heap[bd]? = _ from h]
    exact hu
  exact ⟨key 0 _ rfl, key 1 _ rfl, key 2 _ rfl, key 3 _ rfl, key 4 _ rfl⟩
theorem BoxP.frozen (h : BoxP w bd mb most used fu up) (i : Nat) : w.frozen? ⟨bd, i, none⟩ = false := frozen_of h
theorem BoxP.ne_map (h : BoxP w bd mb most used fu up) (hk : KIn dkM w mb k g) : mb ≠ bd := fun e => by
  obtain ⟨es, clock, hb⟩ := hk.isMap
  unfold BoxP at h
  rw [e] at hb
  rw [hb] at h
  cases h
theorem BoxP.ne_bytes {cs : Array Value} (h : BoxP w bd mb most used fu up) (hk : w.heap[k]? = some (.cells cs 5 (0, 0))) : k ≠ bd := fun e => by
  subst e
  rw [show w.heap[k]? = _ from h] at hk
  injection hk with hk
  injection hk with _ hk _
  exact absurd hk (by decide)
theorem KIn.ne_bytes {cs : Array Value} {q : Nat} (h : KIn dkM w mb q g) (hk : w.heap[k]? = some (.cells cs 5 (0, 0))) : k ≠ mb := fun e => by
  obtain ⟨es, clock, hb⟩ := h.isMap
  rw [e, hb] at hk
  cases hk
theorem FilesBut.lt (h : FilesP w mb g F) (hb : BoxP w bd mb most used fu up) (hk : Dk bd mb g k) : k < w.heap.size := by
  rcases hk with rfl | rfl | ⟨y, p, hy, hk⟩
  · exact hb.lt
  · exact h.kin.lt
  · exact (h.blk hy hk).1
theorem PrgAt.lt (h : PrgAt w bd mb g fu d) (hk : Dk bd mb g k) : k < w.heap.size := h.files.lt h.box hk
theorem PrgAt.alt (h : PrgAt w bd mb g fu d) (hA : Alt S w w') (hS : ∀ k, Dk bd mb g k → ¬ S k) : PrgAt w' bd mb g fu d :=
  ⟨h.box.alt hA (hS bd (.inl rfl)), h.files.alt hA (hS mb (.inr (.inl rfl))) (fun y p k _ hy hk => hS k (.inr (.inr ⟨y, p, hy, hk⟩))), h.fuse, h.wf⟩
theorem PrgD.alt (h : PrgD w P bd d) (hA : Alt S w w') (hS : ∀ k, P k → ¬ S k) : PrgD w' P bd d := by
  obtain ⟨mb, g, fu, h, hP, hl⟩ := h
  exact ⟨mb, g, fu, h.alt hA (fun k hk => hS k (hP k hk)), hP, fun k hk => Nat.lt_of_lt_of_le (hl k hk) hA.size⟩
/-- The box's cells written leave the files. -/
theorem setCell_alt (w : World) (b i : Nat) (u : Value) : Alt (fun k => k = b) w (w.setCell ⟨b, i, none⟩ u) := ⟨rfl, rfl, rfl, by simp [World.setCell], fun k hk hn => Below.heap_setCell _ _ _ _ hn⟩
theorem BoxP.store {i : Nat} {u : Value} {most' used' fu' : Int} {up' : Bool} (h : BoxP w bd mb most used fu up) (hc : (#[.map (some mb), .int .i64 most, .int .i64 used, .int .i64 fu, .bool up] : Array Value).setIfInBounds i u = #[.map (some mb), .int .i64 most', .int .i64 used', .int .i64 fu', .bool up']) : BoxP (w.setCell ⟨bd, i, none⟩ u) bd mb most' used' fu' up' := by
  unfold BoxP at h ⊢
  rw [Go.heap_setCell_same _ _ _ _ _ _ h]
  simp only [Array.set!_eq_setIfInBounds, hc]
theorem FilesBut.box {i : Nat} {u : Value} (h : FilesP w mb g F) (hb : BoxP w bd mb most used fu up) : FilesP (w.setCell ⟨bd, i, none⟩ u) mb g F :=
  FilesBut.alt h (setCell_alt w bd i u) (hb.ne_map h.kin) (fun y p k _ hy hk => by
    obtain ⟨_, cs, hc⟩ := h.blk hy hk
    exact hb.ne_bytes hc)
theorem PrgAt.store {i : Nat} {u : Value} {fu' : Int} (h : PrgAt w bd mb g fu d) (hc : (#[.map (some mb), .int .i64 d.most, .int .i64 (allS d.F : Nat), .int .i64 fu, .bool !d.down] : Array Value).setIfInBounds i u = #[.map (some mb), .int .i64 d'.most, .int .i64 (allS d'.F : Nat), .int .i64 fu', .bool !d'.down])
    (hF : d'.F = d.F) (hf : max fu' (-1) = d'.burn) (hw : -9223372036854775808 ≤ fu') : PrgAt (w.setCell ⟨bd, i, none⟩ u) bd mb g fu' d' :=
  ⟨h.box.store hc, by rw [hF]; exact h.files.box h.box, hf, hw⟩
/-- What is left, told. -/
theorem PrgAt.post (h : PrgAt w' bd mb g fu d') (hA : Alt P w w') (hP : ∀ k, Dk bd mb g k → P k ∨ w.heap.size ≤ k) : PrgPost w P bd d' w' :=
  ⟨Dk bd mb g, ⟨mb, g, fu, h, fun k hk => hk, fun k hk => h.lt hk⟩, hA, hP⟩
theorem PrgPost.calls (h : PrgPost w P bd d' w1) (hb : Below w1.heap.size w1 w2) : PrgPost w P bd d' w2 := by
  obtain ⟨P', hD, hA, hP⟩ := h
  exact ⟨P', hD.alt (S := fun _ => False) (Alt.ofBelow hb) (fun _ _ h => h), hA.calls (hb.mono hA.size), hP⟩
theorem PrgPost.drew (h : PrgPost w P bd d' w1) : PrgPost w P bd d' w1.drew := h.calls ⟨rfl, rfl, rfl, Nat.le_refl _, fun _ _ => rfl⟩
theorem PrgPost.behind {P1 : Nat → Prop} (hA : Alt P w w1) (hP : ∀ k, P1 k → P k ∨ w.heap.size ≤ k) (h : PrgPost w1 P1 bd d' w2) : PrgPost w P bd d' w2 := by
  obtain ⟨P', hD, hA', hP'⟩ := h
  refine ⟨P', hD, hA.trans hA' (fun k hk hlt => (hP k hk).elim id (fun h => absurd h (by omega))), fun k hk => ?_⟩
  rcases hP' k hk with h | h
  · exact hP k h
  · exact .inr (Nat.le_trans hA.size h)
end
end Go.Proofs.Ytkfjbpcngmipnaa.Vm
