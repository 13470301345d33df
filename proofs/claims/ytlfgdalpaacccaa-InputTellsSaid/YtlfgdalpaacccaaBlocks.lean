/- The contracts of input's block and unblock. -/
import Derived.Test.YtlfgdalpaacccaaInTurns
import Derived.Deep.RegionLaw
import Derived.Deep.QuietTactic
import Derived.BigRegion
import Derived.BigQuiet
namespace Go.Proofs.Ytlfgdalpaacccaa.Vm
open Go Go.RowKit

theorem own_rowZ {w : World} {B n c : Nat} {a : Option Addr} {l : List Int} (h : OwnZ w B (.slice a n c) l) : RowZ .i64 w w.heap.size a n c l := OwnZ.rowZ h

set_option maxRecDepth 100000 in
set_option maxHeartbeats 2000000 in
theorem unblock_any (B b : Nat) (h : Sh) (s : St) (x : Inp) (w : World) (m : Mine w B b h s) (hu : s.bl.Pairwise (· < ·)) (hn : s.bl.length ≤ 100000) (hx : x.a ∈ s.bl) :
    Calls Try.prog 51 #[.pointer (some ⟨b, 0, none⟩), inpV x] w fun e w' => e = .returned (.tuple #[]) ∧ Turns w B b (turnC s x) w' := by
  obtain ⟨w1, hw1, t1, hx1, hz1⟩ := x_head m x
  have s3 := t1.m.cell 3
  have hn3 := t1.m.c.n3
  obtain ⟨hlow, hat⟩ := low_place hu hx
  have HS := Lib.hid fun n => search_any h.a3 h.n3 h.c3 w1.heap.size s.bl x.a (w1.drewN n) (own_rowZ t1.m.c.bl) hu (by omega)
  have HD := Lib.hid fun n => delete_any (w := w1.drewN n) (i := lowZ s.bl x.a) (show OwnZ (w1.drewN n) B (.slice h.a3 h.n3 h.c3) s.bl from t1.m.c.bl) (by omega)
  have HT1 := Lib.hid t1
  have HW := Lib.hid hw1
  have HLE : Hid (s.bl.length ≤ 100000) := hn
  have HTD : Hid (turnC s x = ⟨s.tick, s.rs, s.ts, s.bl.take (lowZ s.bl x.a) ++ s.bl.drop (lowZ s.bl x.a + 1)⟩) := rfl
  have HDE : Hid (decide (x.a ∈ s.bl) = true) := decide_eq_true hx
  have HLL : Hid (lowZ s.bl x.a < s.bl.length) := hlow
  have hltb' := t1.m.lt
  obtain ⟨t, a1, n1, c1, a2, n2, c2, a3, n3, c3⟩ := h
  obtain ⟨xk, xa, xb, xc⟩ := x
  obtain ⟨x0, x1, x2, x3⟩ := hx1
  simp only [] at x0 x1 x2 x3 hn3 HS HD HDE hlow HLL
  simp at s3
  have hp : lowZ s.bl xa ≤ 100000 := by omega
  rw [HDE.out] at HS
  generalize hpp : lowZ s.bl xa = p at HS HD hp
  have HPP := Lib.hid hpp
  have HN3 := Lib.hid hn3
  clear t1 hw1 m hn hx hlow hat hpp hu hn3
  go_enter Try.func51, Try.ntmps51
  go_wp2_with fail
  rw [← HW.out]
  go_quiet ((go_at_call 57; exact Calls.quiet_of (HS.out _)))
  go_wp2_with fail
  refine (HD.out nq).mono ?_
  rintro e w3 ⟨a', c', rfl, ho, hg⟩
  have t2 := HT1.out.trans (.calls HT1.out.m (below_drewN (Below.refl _ _) nq))
  have hob := (hg.block b t2.m.lt (own_apart t2.m.c.bl t2.m.o (by decide)).symm).trans t2.m.o
  have d3 := cell_of_row w3 b 3 _ _ (0, 0) hob
  have f3 := frozen_of_row w3 b 3 _ _ hob
  have HP := Lib.hid (t2.m.putB hg ho (by have := HN3.out; have := HLL.out; rw [HPP.out] at this; simp; omega))
  have HT2 := Lib.hid t2.t
  simp at d3
  clear hg ho hob t2 HD HS HT1 s3 x0 x1 x2 x3
  go_wp2_with fail
  go_end0
  refine ⟨rfl, ?_⟩
  rw [HTD.out]
  rw [HPP.out]
  exact Turns.trans HT2.out HP.out

set_option maxRecDepth 100000 in
set_option maxHeartbeats 2000000 in
theorem block_any (B b : Nat) (h : Sh) (s : St) (x : Inp) (w : World) (m : Mine w B b h s) (hu : s.bl.Pairwise (· < ·)) (hn : s.bl.length ≤ 100000) :
    Calls Try.prog 49 #[.pointer (some ⟨b, 0, none⟩), inpV x] w fun e w' => e = .returned (.tuple #[]) ∧ Turns w B b (turnB s x) w' := by
  obtain ⟨w1, hw1, t1, hx1, hz1⟩ := x_head m x
  have s3 := t1.m.cell 3
  have hn3 := t1.m.c.n3
  have hlow := low_le s.bl x.a
  have HS := Lib.hid fun n => search_any h.a3 h.n3 h.c3 w1.heap.size s.bl x.a (w1.drewN n) (own_rowZ t1.m.c.bl) hu (by omega)
  have HT1 := Lib.hid t1
  have HW := Lib.hid hw1
  have HTD : Hid (turnB s x = ⟨s.tick, s.rs, s.ts, s.bl.take (lowZ s.bl x.a) ++ x.a :: s.bl.drop (lowZ s.bl x.a)⟩) := rfl
  have hltb' := t1.m.lt
  obtain ⟨t, a1, n1, c1, a2, n2, c2, a3, n3, c3⟩ := h
  obtain ⟨xk, xa, xb, xc⟩ := x
  obtain ⟨x0, x1, x2, x3⟩ := hx1
  simp only [] at x0 x1 x2 x3 hn3 HS hlow
  simp at s3
  have HIN := Lib.hid fun (V : World) (hV : TurnsH w B b ⟨t, a1, n1, c1, a2, n2, c2, a3, n3, c3⟩ s V) (q : Nat) (hq : q = lowZ s.bl xa) (vb : Nat) (tv : TypeId) (hvb : V.heap[vb]? = some (.cells #[.int .i64 xa] tv (0, 0))) (hne : ∀ g, a3 = some ⟨g, 0, none⟩ → vb ≠ g) =>
    insert_any (i := q) hV.m.c.bl (Nat.le_of_lt hV.m.base) (by simp only [] at *; omega) (by simp only [] at *; omega) hvb hne
  have hp : lowZ s.bl xa ≤ 100000 := by omega
  have hp3 : lowZ s.bl xa ≤ n3 := by omega
  generalize hpp : lowZ s.bl xa = p at HS HIN hp hp3
  generalize decide (xa ∈ s.bl) = dd at HS
  have HPP := Lib.hid hpp
  have HN3 := Lib.hid hn3
  have HLO := Lib.hid hlow
  clear t1 hw1 m hn hlow hpp hu hn3 hp3
  go_enter Try.func49, Try.ntmps49
  go_wp2_with fail
  rw [← HW.out]
  go_quiet ((go_at_call 57; exact Calls.quiet_of (HS.out _)))
  have t2 := HT1.out.trans (.calls HT1.out.m (below_drewN (Below.refl _ _) nq))
  have y1 : (w1.drewN nq).cell? ⟨w.heap.size, 1, none⟩ = some (.int .i64 xa) := x1
  generalize hw2 : w1.drewN nq = w2 at t2 y1
  have q3 := t2.m.cell 3
  have hlt2 := t2.m.lt
  simp at q3
  obtain ⟨o, ho⟩ : ∃ o, o = Obj.cells #[.int .i64 xa] 3 := ⟨_, rfl⟩
  have q3a : (w2.alloc o).cell? ⟨b, 3, none⟩ = some (.slice a3 n3 c3) := (World.cell?_alloc_lt w2 o ⟨b, 3, none⟩ hlt2).trans q3
  have HTA : Hid (TurnsH w B b ⟨t, a1, n1, c1, a2, n2, c2, a3, n3, c3⟩ s ((w2.alloc o).drew)) := t2.trans (.calls t2.m (((Below.refl _ _).alloc (Nat.le_refl _) _).drew))
  have HCALL : Hid (Calls Try.prog 58 #[.slice a3 n3 c3, .int .i64 (p : Int), .slice (some ⟨w2.heap.size, 0, none⟩) 1 1] ((w2.alloc o).drew) fun e w' => ∃ a' c', e = .returned (.slice a' (n3 + 1) c') ∧ OwnZ w' B (.slice a' (n3 + 1) c') (s.bl.take p ++ xa :: s.bl.drop p) ∧ ((w2.alloc o).drew).grownBy w' (Value.slice a3 n3 c3).ownBlock) := by
    refine HIN.out _ HTA.out p rfl w2.heap.size 3 ?_ ?_
    · rw [ho]; exact heap_alloc_new w2 _
    · intro g hg
      have h1 := World.ownsRow.lt t2.m.c.bl g (by simp only []; rw [hg]; rfl)
      omega
  rw [ho] at q3a HTA HCALL
  clear ho HIN HS x0 x1 x2 x3 s3 t2 hw2 HT1
  go_wp2_with fail
  go_region_law (go_simp; go_at_call 58; refine HCALL.out.mono ?_; rintro e w3 ⟨a', c', rfl, hown, hg⟩; have hob := (hg.block b (by simp; omega) (own_apart HTA.out.m.c.bl HTA.out.m.o (by decide)).symm).trans HTA.out.m.o; have d3 := cell_of_row w3 b 3 _ _ (0, 0) hob; have f3 := frozen_of_row w3 b 3 _ _ hob; have HP := Lib.hid (HTA.out.m.putB hg hown (by have := HN3.out; have := HLO.out; rw [HPP.out] at this; simp; omega)); simp at d3; clear hown hg hob)
  all_goals
    go_wp2_with fail
    go_end0
    refine ⟨rfl, ?_⟩
    rw [HTD.out, HPP.out]
    exact Turns.trans HTA.out.t HP.out
end Go.Proofs.Ytlfgdalpaacccaa.Vm
