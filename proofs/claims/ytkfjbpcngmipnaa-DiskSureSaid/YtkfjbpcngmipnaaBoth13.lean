/- Both disks at once: each in memory of its own, all of it new. -/
import Derived.Test.YtkfjbpcngmipnaaLike13
namespace Go.Proofs.Ytkfjbpcngmipnaa.Vm
open Go Go.RowKit
set_option maxRecDepth 100000

theorem RefD.lt {w : World} {O : Nat → Prop} {rd : Nat} {e : DiskS} (h : RefD w O rd e) : ∀ k, O k → k < w.heap.size := by
  obtain ⟨v, l, h⟩ := h
  exact h.lt
theorem PrgD.lt {w : World} {P : Nat → Prop} {bd : Nat} {d : DiskS} (h : PrgD w P bd d) : ∀ k, P k → k < w.heap.size := by
  obtain ⟨mb, g, fu, h, hP, hl⟩ := h
  exact hl
/-- The program's disk, in memory behind B. -/
def PrgN (A : World) (bd : Nat) (d : DiskS) (V : World) : Prop := ∃ P, PrgD V P bd d ∧ (∀ k, P k → A.heap.size ≤ k) ∧ Below A.heap.size A V
/-- Both disks. -/
def BothN (A : World) (bd rd : Nat) (d e : DiskS) (V : World) : Prop := ∃ P O, PrgD V P bd d ∧ RefD V O rd e ∧ (∀ k, P k → A.heap.size ≤ k) ∧ (∀ k, O k → A.heap.size ≤ k) ∧ (∀ k, P k → ¬ O k) ∧ Below A.heap.size A V
section
variable {A V V' : World} {P O : Nat → Prop} {bd rd : Nat} {d d' e e' : DiskS}
theorem PrgPost.news (h : PrgPost V P bd d' V') (hP : ∀ k, P k → A.heap.size ≤ k) (hb : Below A.heap.size A V) : PrgN A bd d' V' := by
  obtain ⟨P', h1, hA, h2⟩ := h
  exact ⟨P', h1, fun k hk => (h2 k hk).elim (hP k) (fun h => Nat.le_trans hb.size h), hb.trans (hA.below hP hb.size)⟩
theorem PrgN.calls (h : PrgN A bd d V) (hb : Below V.heap.size V V') : PrgN A bd d V' := by
  obtain ⟨P, h1, h2, h3⟩ := h
  exact ⟨P, h1.alt (S := fun _ => False) (Alt.ofBelow hb) (fun _ _ h => h), h2, h3.trans (hb.mono h3.size)⟩
theorem BothN.calls (h : BothN A bd rd d e V) (hb : Below V.heap.size V V') : BothN A bd rd d e V' := by
  obtain ⟨P, O, h1, h2, h3, h4, h5, h6⟩ := h
  exact ⟨P, O, h1.alt (S := fun _ => False) (Alt.ofBelow hb) (fun _ _ h => h), h2.alt (S := fun _ => False) (Alt.ofBelow hb) (fun _ _ h => h), h3, h4, h5, h6.trans (hb.mono h6.size)⟩
theorem PrgPost.both (h : PrgPost V P bd d' V') (hr : RefD V O rd e) (hP : ∀ k, P k → A.heap.size ≤ k) (hO : ∀ k, O k → A.heap.size ≤ k) (hd : ∀ k, P k → ¬ O k) (hb : Below A.heap.size A V) : BothN A bd rd d' e V' := by
  obtain ⟨P', h1, hA, h2⟩ := h
  refine ⟨P', O, h1, hr.alt hA (fun k hk hp => hd k hp hk), fun k hk => (h2 k hk).elim (hP k) (fun h => Nat.le_trans hb.size h), hO, fun k hk ho => ?_, hb.trans (hA.below hP hb.size)⟩
  rcases h2 k hk with h | h
  · exact hd k h ho
  · have := hr.lt k ho
    omega
theorem RefPost.both (h : RefPost V O rd e' V') (hp : PrgD V P bd d) (hP : ∀ k, P k → A.heap.size ≤ k) (hO : ∀ k, O k → A.heap.size ≤ k) (hd : ∀ k, P k → ¬ O k) (hb : Below A.heap.size A V) : BothN A bd rd d e' V' := by
  obtain ⟨O', h1, hA, h2⟩ := h
  refine ⟨P, O', hp.alt hA (fun k hk ho => hd k hk ho), h1, hP, fun k hk => (h2 k hk).elim (hO k) (fun h => Nat.le_trans hb.size h), fun k hk ho => ?_, hb.trans (hA.below hO hb.size)⟩
  rcases h2 k ho with h | h
  · exact hd k hk h
  · have := hp.lt k hk
    omega
theorem BothN.prg (h : BothN A bd rd d e V) : PrgN A bd d V := by
  obtain ⟨P, O, h1, _, h3, _, _, h6⟩ := h
  exact ⟨P, h1, h3, h6⟩
theorem BothN.below (h : BothN A bd rd d e V) : Below A.heap.size A V := by
  obtain ⟨P, O, _, _, _, _, _, h6⟩ := h
  exact h6
theorem PrgN.below (h : PrgN A bd d V) : Below A.heap.size A V := by
  obtain ⟨P, _, _, h6⟩ := h
  exact h6
end
abbrev opV (x : OpS) (ov : OpV) : Value := .agg #[.int .i64 x.act, .string x.A, .string x.B, .slice ov.da ov.dn ov.dc, .int .i64 x.n, .slice ov.ka ov.kn ov.kc]
section
variable {A V : World} {bd rd : Nat} {d e : DiskS}
theorem BothN.done (h : BothN A bd rd d e V) (hd : OkD d) (hF : d.F.length ≤ 900000) {x : OpS} {ov : OpV} (hx : OpIn A A.heap.size x ov) :
    Calls Try.prog 10 #[.pointer (some ⟨bd, 0, none⟩), opV x ov] V fun r w' => r = .returned (.int .i64 (doS d x).1) ∧ BothN A bd rd (doS d x).2 e w' := by
  obtain ⟨P, O, h1, h2, h3, h4, h5, h6⟩ := h
  refine (done13_any bd A.heap.size d P x ov V h1 hd hF (hx.below h6) h3).mono ?_
  rintro r w' ⟨rfl, hp⟩
  exact ⟨rfl, hp.both h2 h3 h4 h5 h6⟩
theorem BothN.told (h : BothN A bd rd d e V) (he : OkD e) (hF : e.F.length ≤ 900000) {x : OpS} {ov : OpV} (hx : OpIn A A.heap.size x ov) :
    Calls Try.prog 11 #[.pointer (some ⟨rd, 0, none⟩), opV x ov] V fun r w' => r = .returned (.int .i64 (doS e x).1) ∧ BothN A bd rd d (doS e x).2 w' := by
  obtain ⟨P, O, h1, h2, h3, h4, h5, h6⟩ := h
  refine (told13_any rd A.heap.size e O x ov V h2 he hF (hx.below h6) h4).mono ?_
  rintro r w' ⟨rfl, hp⟩
  exact ⟨rfl, hp.both h1 h3 h4 h5 h6⟩
theorem BothN.like (h : BothN A bd rd d e V) (hd : OkD d) (he : OkD e) (hF : d.F.length ≤ 900000) (eF : e.F = d.F) (em : e.most = d.most) :
    Calls Try.prog 12 #[.pointer (some ⟨bd, 0, none⟩), .pointer (some ⟨rd, 0, none⟩)] V fun r w' => r = .returned (.bool true) ∧ BothN A bd rd d e w' := by
  have h0 := h
  obtain ⟨P, O, h1, h2, h3, h4, h5, h6⟩ := h
  refine (like13_any bd rd P O d e V h1 h2 hd he hF eF em).mono ?_
  rintro r w' ⟨rfl, hb⟩
  exact ⟨rfl, h0.calls hb⟩
theorem BothN.read (h : BothN A bd rd d e V) (hd : OkD d) {n : ByteArray} (hn : n.size ≤ maxLen) :
    Calls Try.prog 13 #[.pointer (some ⟨bd, 0, none⟩), .string n] V fun r w' => SaysReadN V d.F n r w' ∧ BothN A bd rd d e w' := by
  have h0 := h
  obtain ⟨P, O, ⟨mb, g, fu, h1, _⟩, h2, h3, h4, h5, h6⟩ := h
  refine (pRead13_any bd mb g fu d n V h1 hd hn).mono ?_
  intro r w' hs
  refine ⟨hs, ?_⟩
  obtain ⟨_, _, _, _, _, _, _, hb⟩ := hs
  exact h0.calls hb
theorem BothN.rread (h : BothN A bd rd d e V) (he : OkD e) (hF : e.F.length ≤ 1000000) (n : ByteArray) :
    Calls Try.prog 14 #[.pointer (some ⟨rd, 0, none⟩), .string n] V fun r w' => SaysRead V e.F n r w' ∧ BothN A bd rd d e w' := by
  have h0 := h
  obtain ⟨P, O, h1, ⟨v, l, h2⟩, h3, h4, h5, h6⟩ := h
  refine (rRead13_any rd v l e O n V h2 he hF).mono ?_
  intro r w' hs
  refine ⟨hs, ?_⟩
  obtain ⟨_, _, _, _, _, _, _, hb⟩ := hs
  exact h0.calls hb
theorem BothN.list (h : BothN A bd rd d e V) (hd : OkD d) (hF : d.F.length ≤ 1000000) :
    Calls Try.prog 15 #[.pointer (some ⟨bd, 0, none⟩)] V fun r w' => SaysListN V d.F r w' ∧ BothN A bd rd d e w' := by
  have h0 := h
  obtain ⟨P, O, ⟨mb, g, fu, h1, _⟩, h2, h3, h4, h5, h6⟩ := h
  refine (pList13_any bd mb g fu d V h1 hd hF).mono ?_
  intro r w' hs
  refine ⟨hs, ?_⟩
  obtain ⟨_, _, _, _, hb⟩ := hs
  exact h0.calls hb
theorem BothN.fuse (h : BothN A bd rd d e V) {n : Int} (hn : -9223372036854775808 ≤ n) :
    Calls Try.prog 19 #[.pointer (some ⟨bd, 0, none⟩), .int .i64 n] V fun r w' => r = .returned (.tuple #[]) ∧ BothN A bd rd (fuseS d n) e w' := by
  obtain ⟨P, O, h1, h2, h3, h4, h5, h6⟩ := h
  refine (pFuse13_any bd d P n V h1 hn).mono ?_
  rintro r w' ⟨rfl, hp⟩
  exact ⟨rfl, hp.both h2 h3 h4 h5 h6⟩
theorem BothN.crash (h : BothN A bd rd d e V) (hd : OkD d) (hF : d.F.length ≤ 900000) {ao : Option Addr} {mo co : Nat} {kept : List Int} (hk : RowZ .i64 A A.heap.size ao mo co kept) (hw : ∀ k ∈ kept, k ≤ 9223372036854775807) :
    Calls Try.prog 16 #[.pointer (some ⟨bd, 0, none⟩), .slice ao mo co] V fun r w' => r = .returned (.tuple #[]) ∧ BothN A bd rd (crashS d kept) e w' ∧ ∃ P, (∀ k, P k → A.heap.size ≤ k ∧ k < V.heap.size) ∧ Alt P V w' := by
  obtain ⟨P, O, h1, h2, h3, h4, h5, h6⟩ := h
  refine (pCrash13_any bd d P ao mo co kept V h1 hd hF ((hk.below h6).mono h6.size) hw (fun b o e hn hb => by have := hk.off13 b o e hn; have := h3 b hb; omega)).mono ?_
  rintro r w' ⟨rfl, hp⟩
  refine ⟨rfl, hp.both h2 h3 h4 h5 h6, P, fun k hk => ⟨h3 k hk, h1.lt k hk⟩, ?_⟩
  obtain ⟨P', _, hA, _⟩ := hp
  exact hA
/-- Both, new. -/
theorem newBoth (n : Int) (V : World) (hb : Below A.heap.size A V) (hn : 0 ≤ n ∧ n ≤ 16777216) :
    Calls Try.prog 8 #[.int .i64 n] V fun r w1 => ∃ bd, r = .returned (.tuple #[.pointer (some ⟨bd, 0, none⟩), .int .i64 0]) ∧ PrgN A bd (newDk n) w1 ∧ Below V.heap.size V w1 := by
  refine (pNew13_any n V).mono ?_
  intro r w' h
  rw [if_neg (by omega)] at h
  obtain ⟨bd, rfl, hp, hb', _⟩ := h
  exact ⟨bd, rfl, ⟨_, hp, fun k hk => Nat.le_trans hb.size hk.1, hb.trans (hb'.mono hb.size)⟩, hb'⟩
theorem newRef (n : Int) (hb : PrgN A bd d V) (hn : 0 ≤ n ∧ n ≤ 16777216) :
    Calls Try.prog 9 #[.int .i64 n] V fun r w1 => ∃ rd, r = .returned (.tuple #[.pointer (some ⟨rd, 0, none⟩), .int .i64 0]) ∧ BothN A bd rd d (newDk n) w1 := by
  refine (rNew13_any n V).mono ?_
  intro r w' h
  rw [if_neg (by omega)] at h
  obtain ⟨rfl, hr, hb'⟩ := h
  obtain ⟨P, h1, h2, h3⟩ := hb
  refine ⟨V.heap.size, rfl, P, _, h1.alt (S := fun _ => False) (Alt.ofBelow hb') (fun _ _ h => h), ⟨_, _, hr⟩, h2, fun k hk => by rw [hk]; exact h3.size, fun k hk e => ?_, h3.trans (hb'.mono h3.size)⟩
  have := h1.lt k hk
  rw [e] at this
  omega
end
end Go.Proofs.Ytkfjbpcngmipnaa.Vm
