/- What codec's takeState keeps. The contract of codec's takeState. -/
import Derived.Test.YtdhaoacnedgogaaReads
import Derived.Test.YtdhaoacnedgogaaCodMath
import Derived.Test.YtdhaoacnedgogaaPushes
import Derived.Deep.LoopGhost
import Derived.Lib.AppendZeros
import Derived.Deep.RegionLaw
import Derived.BigRegion
import Derived.BigQuiet
namespace Go.Proofs.Ytdhaoacnedgogaa.Vm
open Go Go.RowKit

theorem But.grownNew {lb B n : Nat} {A V V' : World} {e : TypeId} {size : Nat} {v : Value} {xs : List Value} (h : But lb A V) (hg : V.grownBy V' v.ownBlock) (ho : V.ownsRow B e size v n xs) (hB : A.heap.size ≤ B) : But lb A V' :=
  ⟨hg.os.trans h.os, hg.tape.trans h.tape, hg.output.trans h.output, Nat.le_trans h.size hg.size, fun k hk hne => (hg.block k (Nat.lt_of_lt_of_le hk h.size) (fun e => by have := (World.ownsRow.lt ho k e.symm).1; omega)).trans (h.block k hk hne)⟩
theorem RdAt.but {w w' : World} {b lb : Nat} {a : Option Addr} {n c : Nat} {zs ys : List Nat} (h : RdAt w b a n c zs ys) (hb : But lb w w') (hne : b ≠ lb) : RdAt w' b a n c zs ys := by
  obtain ⟨p, h1, h2, h3⟩ := h
  exact ⟨p, h1, h2, h3.but hb hne⟩
theorem RdAt.grown {w w' : World} {b B m size : Nat} {a : Option Addr} {n c : Nat} {zs ys : List Nat} {e : TypeId} {v : Value} {xs : List Value} (h : RdAt w b a n c zs ys) (ho : w.ownsRow B e size v m xs) (hg : w.grownBy w' v.ownBlock) (hB : b < B) : RdAt w' b a n c zs ys := by
  obtain ⟨p, h1, h2, h3⟩ := h
  exact ⟨p, h1, h2, (hg.block b h3.lt (fun e => by have := (World.ownsRow.lt ho b e.symm).1; omega)).trans h3⟩
theorem RdAt.len {w : World} {b : Nat} {a : Option Addr} {n c : Nat} {zs ys : List Nat} (h : RdAt w b a n c zs ys) : ys.length ≤ zs.length := by
  obtain ⟨p, _, rfl, _⟩ := h
  rw [List.length_drop]
  omega
/-- The reader, in block b; the state so far, in block bs, its slices in memory of the call's own. -/
structure Tks (w V : World) (b q bs : Nat) (a : Option Addr) (n c : Nat) (zs ys : List Nat) (h : Sh) (s : St) : Prop where
  but : But b w V
  rd : RdAt V b a n c zs ys
  res : BoxAt V q #[.int .i64 0, .slice none 0 0, .slice none 0 0, .slice none 0 0] 26
  st : BoxAt V bs #[.int .i64 h.t, .slice h.a1 h.n1 h.c1, .slice h.a2 h.n2 h.c2, .slice h.a3 h.n3 h.c3] 26
  c : CopyIn V w.heap.size h s
  new : w.heap.size ≤ bs
  old : b < w.heap.size
  nq : w.heap.size ≤ q ∧ q ≠ bs
section
variable {w V V' : World} {b q bs : Nat} {a : Option Addr} {n c : Nat} {zs ys ys' : List Nat} {h : Sh} {s : St}
theorem Tks.begin (h : RdAt w b a n c zs ys) : Tks w ((w.alloc (shO ⟨0, none, 0, 0, none, 0, 0, none, 0, 0⟩)).alloc (shO ⟨0, none, 0, 0, none, 0, 0, none, 0, 0⟩)) b w.heap.size (w.heap.size + 1) a n c zs ys ⟨0, none, 0, 0, none, 0, 0, none, 0, 0⟩ ⟨0, [], [], []⟩ := by
  have h1 : Below w.heap.size w (w.alloc (shO ⟨0, none, 0, 0, none, 0, 0, none, 0, 0⟩)) := (Below.refl _ _).alloc (Nat.le_refl _) _
  have h2 : Below (w.heap.size + 1) (w.alloc (shO ⟨0, none, 0, 0, none, 0, 0, none, 0, 0⟩)) ((w.alloc (shO ⟨0, none, 0, 0, none, 0, 0, none, 0, 0⟩)).alloc (shO ⟨0, none, 0, 0, none, 0, 0, none, 0, 0⟩)) := (Below.refl _ _).alloc (by simp) _
  have hz : (w.alloc (shO ⟨0, none, 0, 0, none, 0, 0, none, 0, 0⟩)).heap.size = w.heap.size + 1 := by simp
  have h3 := boxAt_new (w.alloc (shO ⟨0, none, 0, 0, none, 0, 0, none, 0, 0⟩)) #[.int .i64 0, .slice none 0 0, .slice none 0 0, .slice none 0 0] 26
  rw [hz] at h3
  have h4 : Below w.heap.size w ((w.alloc (shO ⟨0, none, 0, 0, none, 0, 0, none, 0, 0⟩)).alloc (shO ⟨0, none, 0, 0, none, 0, 0, none, 0, 0⟩)) := h1.trans (h2.mono (by omega))
  exact ⟨(But.refl _ _).calls h4, h.calls h4, (boxAt_new w _ _).calls (by rw [hz]; exact h2), h3, ⟨rfl, ownR_nil _ _ _, ownR_nil _ _ _, World.ownsRow_nil _ _ _ _, rfl, rfl, rfl⟩, by omega, h.lt, by omega, by omega⟩
theorem Tks.step (t : Tks w V b q bs a n c zs ys h s) (hr : RdAt V' b a n c zs ys') (hb : But b V V') : Tks w V' b q bs a n c zs ys' h s := by
  obtain ⟨p, _, _, hx⟩ := t.rd
  exact ⟨t.but.trans hb, hr, t.res.but hb (by have := t.nq; have := t.old; omega), t.st.but hb (by have := t.new; have := t.old; omega), t.c.turned hx hb (by decide) (by decide) (by decide), t.new, t.old, t.nq⟩
theorem Tks.drew (t : Tks w V b q bs a n c zs ys h s) : Tks w V.drew b q bs a n c zs ys h s := ⟨t.but.drew, t.rd, t.res, t.st, t.c.calls (Below.refl _ _).drew, t.new, t.old, t.nq⟩
theorem Tks.done (t : Tks w V b q bs a n c zs ys h s) (u0 u1 u2 u3 : Value) :
    CopyIn ((((V.setCell ⟨q, 0, none⟩ u0).setCell ⟨q, 1, none⟩ u1).setCell ⟨q, 2, none⟩ u2).setCell ⟨q, 3, none⟩ u3) w.heap.size h s ∧ RdAt ((((V.setCell ⟨q, 0, none⟩ u0).setCell ⟨q, 1, none⟩ u1).setCell ⟨q, 2, none⟩ u2).setCell ⟨q, 3, none⟩ u3) b a n c zs ys ∧ But b w ((((V.setCell ⟨q, 0, none⟩ u0).setCell ⟨q, 1, none⟩ u1).setCell ⟨q, 2, none⟩ u2).setCell ⟨q, 3, none⟩ u3) := by
  have hk : But q V ((((V.setCell ⟨q, 0, none⟩ u0).setCell ⟨q, 1, none⟩ u1).setCell ⟨q, 2, none⟩ u2).setCell ⟨q, 3, none⟩ u3) := ((((But.refl _ _).set _).set _).set _).set _
  exact ⟨t.c.turned t.res hk (by decide) (by decide) (by decide), t.rd.but hk (by have := t.nq; have := t.old; omega), (((t.but.setNew t.nq.1 _).setNew t.nq.1 _).setNew t.nq.1 _).setNew t.nq.1 _⟩
theorem Tks.alloc (t : Tks w V b q bs a n c zs ys h s) (hb : Below V.heap.size V V') : Tks w V' b q bs a n c zs ys h s :=
  ⟨t.but.calls (hb.mono t.but.size), t.rd.calls hb, t.res.calls hb, t.st.calls hb, t.c.calls hb, t.new, t.old, t.nq⟩
end
section
variable {w A : World} {b q bs : Nat} {a a1 a2 a3 : Option Addr} {n c n1 c1 n2 c2 n3 c3 : Nat} {zs ys : List Nat} {v tick : Int} {rs ts : List Rec} {bl : List Int}
theorem Tks.setTick (t : Tks w A b q bs a n c zs ys ⟨v, a1, n1, c1, a2, n2, c2, a3, n3, c3⟩ ⟨tick, rs, ts, bl⟩) (x : Int) : Tks w (A.setCell ⟨bs, 0, none⟩ (.int .i64 x)) b q bs a n c zs ys ⟨x, a1, n1, c1, a2, n2, c2, a3, n3, c3⟩ ⟨x, rs, ts, bl⟩ := by
  have hk : But bs A (A.setCell ⟨bs, 0, none⟩ (.int .i64 x)) := (But.refl _ _).set _
  have hne : b ≠ bs := by have := t.new; have := t.old; omega
  have hc := t.c.turned t.st hk (by decide) (by decide) (by decide)
  exact ⟨t.but.setNew t.new _, t.rd.but hk hne, t.res.but hk t.nq.2, BoxAt.set t.st 0 _, ⟨rfl, hc.rs, hc.ts, hc.bl, hc.n1, hc.n2, hc.n3⟩, t.new, t.old, t.nq⟩
theorem Tks.push_rob (t : Tks w A b q bs a n c zs ys ⟨v, a1, n1, c1, a2, n2, c2, a3, n3, c3⟩ ⟨tick, rs, ts, bl⟩) (x : Rec) (hlen : rs.length ≤ 90000) :
    ∃ a' c' w', (Builtin.append_ #[22, 22] 22 #[.slice a1 n1 c1, .slice (some ⟨A.heap.size, 0, none⟩) 1 1]).run Try.prog (A.alloc (.cells #[.int .i64 x.a, .int .i64 x.b, .int .i64 x.c, .int .i64 x.d, .int .i64 x.e] 51)) = .ok (.slice a' (rs ++ [x]).length c') w' ∧
      BoxAt w' bs #[.int .i64 v, .slice a1 n1 c1, .slice a2 n2 c2, .slice a3 n3 c3] 26 ∧
      Tks w (w'.setCell ⟨bs, 1, none⟩ (.slice a' (rs ++ [x]).length c')) b q bs a n c zs ys ⟨v, a', (rs ++ [x]).length, c', a2, n2, c2, a3, n3, c3⟩ ⟨tick, rs ++ [x], ts, bl⟩ := by
  obtain ⟨v', w', hrun, hown, hg⟩ := append_rob t.c.rs x hlen t.but.size
  obtain ⟨a', c', rfl⟩ := hown.slice
  have ho := t.c.rs
  have ap : ∀ {b : Nat} {cs : Array Value} {ty : TypeId}, BoxAt A b cs ty → 51 ≠ ty → BoxAt w' b cs ty := fun hk hne => (hg.block _ hk.lt (fun e => own_apart ho hk hne e.symm)).trans hk
  have hst := ap t.st (by decide)
  have hk2 : But bs w' (w'.setCell ⟨bs, 1, none⟩ (.slice a' (rs ++ [x]).length c')) := (But.refl _ _).set _
  have kp : ∀ {e : TypeId} {size m : Nat} {u : Value} {xs : List Value}, w'.ownsRow w.heap.size e size u m xs → e ≠ 26 → (w'.setCell ⟨bs, 1, none⟩ (.slice a' (rs ++ [x]).length c')).ownsRow w.heap.size e size u m xs := fun hh hne => World.ownsRow.kept hh hk2 (.inr (own_apart hh hst hne))
  have hne : b ≠ bs := by have := t.new; have := t.old; omega
  refine ⟨a', c', w', hrun, hst, ⟨(t.but.grownNew hg ho (Nat.le_refl _)).setNew t.new _, (t.rd.grown ho hg t.old).but hk2 hne, (ap t.res (by decide)).but hk2 t.nq.2, BoxAt.set hst 1 _, ⟨t.c.tick, ?_, ?_, ?_, ?_, ?_, ?_⟩, t.new, t.old, t.nq⟩⟩
  · exact kp hown (by decide)
  · exact kp (World.ownsRow.kept t.c.ts hg (own_own ho t.c.ts (by decide))) (by decide)
  · exact kp (World.ownsRow.kept t.c.bl hg (own_own ho t.c.bl (by decide))) (by decide)
  · exact rfl
  · exact t.c.n2
  · exact t.c.n3
theorem Tks.push_job (t : Tks w A b q bs a n c zs ys ⟨v, a1, n1, c1, a2, n2, c2, a3, n3, c3⟩ ⟨tick, rs, ts, bl⟩) (x : Rec) (hlen : ts.length ≤ 90000) :
    ∃ a' c' w', (Builtin.append_ #[23, 23] 23 #[.slice a2 n2 c2, .slice (some ⟨A.heap.size, 0, none⟩) 1 1]).run Try.prog (A.alloc (.cells #[.int .i64 x.a, .int .i64 x.b, .int .i64 x.c, .int .i64 x.d, .int .i64 x.e] 53)) = .ok (.slice a' (ts ++ [x]).length c') w' ∧
      BoxAt w' bs #[.int .i64 v, .slice a1 n1 c1, .slice a2 n2 c2, .slice a3 n3 c3] 26 ∧
      Tks w (w'.setCell ⟨bs, 2, none⟩ (.slice a' (ts ++ [x]).length c')) b q bs a n c zs ys ⟨v, a1, n1, c1, a', (ts ++ [x]).length, c', a3, n3, c3⟩ ⟨tick, rs, ts ++ [x], bl⟩ := by
  obtain ⟨v', w', hrun, hown, hg⟩ := append_job t.c.ts x hlen t.but.size
  obtain ⟨a', c', rfl⟩ := hown.slice
  have ho := t.c.ts
  have ap : ∀ {b : Nat} {cs : Array Value} {ty : TypeId}, BoxAt A b cs ty → 53 ≠ ty → BoxAt w' b cs ty := fun hk hne => (hg.block _ hk.lt (fun e => own_apart ho hk hne e.symm)).trans hk
  have hst := ap t.st (by decide)
  have hk2 : But bs w' (w'.setCell ⟨bs, 2, none⟩ (.slice a' (ts ++ [x]).length c')) := (But.refl _ _).set _
  have kp : ∀ {e : TypeId} {size m : Nat} {u : Value} {xs : List Value}, w'.ownsRow w.heap.size e size u m xs → e ≠ 26 → (w'.setCell ⟨bs, 2, none⟩ (.slice a' (ts ++ [x]).length c')).ownsRow w.heap.size e size u m xs := fun hh hne => World.ownsRow.kept hh hk2 (.inr (own_apart hh hst hne))
  have hne : b ≠ bs := by have := t.new; have := t.old; omega
  refine ⟨a', c', w', hrun, hst, ⟨(t.but.grownNew hg ho (Nat.le_refl _)).setNew t.new _, (t.rd.grown ho hg t.old).but hk2 hne, (ap t.res (by decide)).but hk2 t.nq.2, BoxAt.set hst 2 _, ⟨t.c.tick, ?_, ?_, ?_, ?_, ?_, ?_⟩, t.new, t.old, t.nq⟩⟩
  · exact kp (World.ownsRow.kept t.c.rs hg (own_own ho t.c.rs (by decide))) (by decide)
  · exact kp hown (by decide)
  · exact kp (World.ownsRow.kept t.c.bl hg (own_own ho t.c.bl (by decide))) (by decide)
  · exact t.c.n1
  · exact rfl
  · exact t.c.n3
theorem Tks.push_bl (t : Tks w A b q bs a n c zs ys ⟨v, a1, n1, c1, a2, n2, c2, a3, n3, c3⟩ ⟨tick, rs, ts, bl⟩) (x : Int) (hlen : bl.length ≤ 90000) :
    ∃ a' c' w', (Builtin.append_ #[24, 24] 24 #[.slice a3 n3 c3, .slice (some ⟨A.heap.size, 0, none⟩) 1 1]).run Try.prog (A.alloc (.cells #[.int .i64 x] 3)) = .ok (.slice a' (bl ++ [x]).length c') w' ∧
      BoxAt w' bs #[.int .i64 v, .slice a1 n1 c1, .slice a2 n2 c2, .slice a3 n3 c3] 26 ∧
      Tks w (w'.setCell ⟨bs, 3, none⟩ (.slice a' (bl ++ [x]).length c')) b q bs a n c zs ys ⟨v, a1, n1, c1, a2, n2, c2, a', (bl ++ [x]).length, c'⟩ ⟨tick, rs, ts, bl ++ [x]⟩ := by
  obtain ⟨v', w', hrun, hown, hg⟩ := append_bli t.c.bl x hlen t.but.size
  obtain ⟨a', c', rfl⟩ := hown.slice
  have ho := t.c.bl
  have ap : ∀ {b : Nat} {cs : Array Value} {ty : TypeId}, BoxAt A b cs ty → 3 ≠ ty → BoxAt w' b cs ty := fun hk hne => (hg.block _ hk.lt (fun e => own_apart ho hk hne e.symm)).trans hk
  have hst := ap t.st (by decide)
  have hk2 : But bs w' (w'.setCell ⟨bs, 3, none⟩ (.slice a' (bl ++ [x]).length c')) := (But.refl _ _).set _
  have kp : ∀ {e : TypeId} {size m : Nat} {u : Value} {xs : List Value}, w'.ownsRow w.heap.size e size u m xs → e ≠ 26 → (w'.setCell ⟨bs, 3, none⟩ (.slice a' (bl ++ [x]).length c')).ownsRow w.heap.size e size u m xs := fun hh hne => World.ownsRow.kept hh hk2 (.inr (own_apart hh hst hne))
  have hne : b ≠ bs := by have := t.new; have := t.old; omega
  refine ⟨a', c', w', hrun, hst, ⟨(t.but.grownNew hg ho (Nat.le_refl _)).setNew t.new _, (t.rd.grown ho hg t.old).but hk2 hne, (ap t.res (by decide)).but hk2 t.nq.2, BoxAt.set hst 3 _, ⟨t.c.tick, ?_, ?_, ?_, ?_, ?_, ?_⟩, t.new, t.old, t.nq⟩⟩
  · exact kp (World.ownsRow.kept t.c.rs hg (own_own ho t.c.rs (by decide))) (by decide)
  · exact kp (World.ownsRow.kept t.c.ts hg (own_own ho t.c.ts (by decide))) (by decide)
  · exact kp hown (by decide)
  · exact t.c.n1
  · exact t.c.n2
  · rfl
end
end Go.Proofs.Ytdhaoacnedgogaa.Vm

namespace Go.Proofs.Ytdhaoacnedgogaa.Vm
open Go Go.RowKit

set_option maxRecDepth 100000 in
set_option maxHeartbeats 8000000 in
theorem takeState_any (b B : Nat) (a : Option Addr) (n c : Nat) (zs ys : List Nat) (w : World) (h : RdAt w b a n c zs ys) (hr : Row .u8 w B a n c zs) (hz : ∀ x ∈ zs, x < 256) (hB : B ≤ b) (hn : n ≤ 90000) :
    Calls Try.prog 35 #[.pointer (some ⟨b, 0, none⟩)] w fun e w' =>
      ((∃ s r h', CanS s ∧ ys = encS s ++ r ∧ e = .returned (shV h') ∧ CopyIn w' w.heap.size h' s ∧ RdAt w' b a n c zs r) ∨ ((∀ s r, CanS s → ys ≠ encS s ++ r) ∧ e = pan)) ∧ But b w w' := by
  have hb := h.lt
  have hzn : zs.length = n := hr.1
  have HS : Hid (∀ (V : World) (l : List Nat), But b w V → RdAt V b a n c zs l → Calls Try.prog 51 #[.pointer (some ⟨b, 0, none⟩), .int .i64 2147483647] V fun e w' => ((∃ x r, x ≤ 2147483647 ∧ l = enc x ++ r ∧ e = .returned (.int .i64 (x : Nat)) ∧ RdAt w' b a n c zs r) ∨ ((∀ x r, x ≤ 2147483647 → l ≠ enc x ++ r) ∧ e = pan)) ∧ But b V w') := fun V l hV hq =>
    small_any b B a n c zs l 2147483647 V hq (hr.below (hV.below hB (by omega))) hz (by have := hV.size; omega) (by omega)
  have HC : Hid (∀ (V : World) (l : List Nat), But b w V → RdAt V b a n c zs l → Calls Try.prog 52 #[.pointer (some ⟨b, 0, none⟩)] V fun e w' => ((∃ x r, x ≤ n ∧ l = enc x ++ r ∧ e = .returned (.int .i64 (x : Nat)) ∧ RdAt w' b a n c zs r) ∨ ((∀ x r, x ≤ n → l ≠ enc x ++ r) ∧ e = pan)) ∧ But b V w') := fun V l hV hq =>
    count_any b B a n c zs l V hq (hr.below (hV.below hB (by omega))) hz (by have := hV.size; omega)
  have HR := Lib.hid fun (V : World) (l : List Nat) (hV : But b w V) (hq : RdAt V b a n c zs l) => takeRobot_any b B a n c zs l V hq (hr.below (hV.below hB (by omega))) hz hB
  have HJ := Lib.hid fun (V : World) (l : List Nat) (hV : But b w V) (hq : RdAt V b a n c zs l) => takeTask_any b B a n c zs l V hq (hr.below (hV.below hB (by omega))) hz hB
  have HNY := Lib.hid need_yes
  have HNN := Lib.hid need_no
  have HT0 := Lib.hid (Tks.begin h)
  obtain ⟨w0, hw0⟩ : ∃ w0, w0 = (w.alloc (shO ⟨0, none, 0, 0, none, 0, 0, none, 0, 0⟩)).alloc (shO ⟨0, none, 0, 0, none, 0, 0, none, 0, 0⟩) := ⟨_, rfl⟩
  rw [← hw0] at HT0
  have HW0 := Lib.hid hw0
  clear h hr hz hB hw0
  go_enter Try.func35, Try.ntmps35
  go_wp2_with fail
  rw [← HW0.out]
  refine (HS.out _ _ HT0.out.but HT0.out.rd).mono ?_
  rintro e w1 ⟨⟨v1, y1, hv1, hy1, rfl, hq⟩ | ⟨hno, rfl⟩, hbt⟩
  rotate_left
  · exact ⟨rfl, .inr ⟨f1_no hno, rfl⟩, HT0.out.but.trans hbt⟩
  have HF1 := Lib.hid (f1_of hy1 hv1)
  have HY1 := Lib.hid hy1
  have HV1 := Lib.hid hv1
  have HT1 := Lib.hid (HT0.out.step hq hbt)
  have cf := HT1.out.st.fz 0
  have cc := HT1.out.st.cell (i := 0) rfl
  clear hv1 hy1 hq hbt
  go_wp2_with fail
  have HT2 := Lib.hid (HT1.out.setTick (v1 : Nat))
  obtain ⟨w2, hw2⟩ : ∃ w2, w2 = w1.setCell ⟨w.heap.size + 1, 0, none⟩ (.int .i64 (v1 : Nat)) := ⟨_, rfl⟩
  rw [← hw2] at HT2 ⊢
  clear cf cc hw2 HT1
  refine (HC.out _ _ HT2.out.but HT2.out.rd).mono ?_
  rintro e w3 ⟨⟨v2, y2, hv2, hy2, rfl, hq⟩ | ⟨hno, rfl⟩, hbt⟩
  rotate_left
  · exact ⟨rfl, .inr ⟨f2_no HF1.out (by have := HT2.out.rd.len; omega) hno, rfl⟩, HT2.out.but.trans hbt⟩
  have HF2 := Lib.hid (f2_of HF1.out hy2 (by omega))
  have HY2 := Lib.hid hy2
  have HT3 := Lib.hid (HT2.out.step hq hbt)
  clear hy2 hq hbt HT2
  go_wp2_with fail
  go_loopg [11] v2 (fun gg i wr => ∃ (k : Nat) (sa : Option Addr) (sc : Nat) (rs : List Rec) (y : List Nat), i = .int .i64 k ∧ k + gg = v2 ∧ Hid (rs.length = k) ∧ Hid (∀ r ∈ rs, RobIn r) ∧ Hid (y2 = rs.flatMap encRob ++ y) ∧ Hid (Tks w wr b w.heap.size (w.heap.size + 1) a n c zs y ⟨v1, sa, k, sc, none, 0, 0, none, 0, 0⟩ ⟨v1, rs, [], []⟩))
  case atStart => exact ⟨0, none, 0, [], y2, rfl, by omega, rfl, by simp [Hid], rfl, HT3.out⟩
  case round =>
    clear HT3
    obtain ⟨k, sa1, sc1, rs1, y1, rfl, hkg, HRL, HRO1, HRE1, HT1x⟩ := hrel
    by_cases hgo : k < v2
    · have hgo' : (k : Int) < (v2 : Int) := by omega
      have HTD := Lib.hid HT1x.out.drew
      have c1 := HT1x.out.st.cell (i := 1) rfl
      have hrl : ∀ x, (rs1 ++ [x]).length = k + 1 := fun x => by rw [List.length_append, HRL.out]; rfl
      have HLL := Lib.hid hrl
      have HBN : Hid (rs1.length ≤ 90000) := by unfold Hid; rw [HRL.out]; omega
      clear hrl
      go_wp2_with fail
      go_region_law (first
        | (refine step_append_of rfl _ _ _ rfl rfl rfl hrun ?_)
        | (refine step_call_two rfl _ _ _ rfl Try.func53 (by decide) rfl rfl (HR.out _ y1 HTD.out.but HTD.out.rd) (g := fun l w' => l = [{ v := .iface 36 (.int .i64 3), recovered := false }] ∧ (∀ x r, RobIn x → y1 ≠ encRob x ++ r) ∧ But b wr.drew w') (by
            rintro l w' ⟨rfl, hno, hbt⟩
            exact ⟨rfl, .inr ⟨f3_no HF2.out HRE1.out (by rw [HRL.out]; exact hgo) HRO1.out hno, rfl⟩, HTD.out.but.trans hbt⟩) ?_
           rintro e w4 ⟨⟨x, r, hx, hy, rfl, hq⟩ | ⟨hno, rfl⟩, hbt⟩
           rotate_left
           · exact .inl ⟨_, rfl, rfl, hno, hbt⟩
           refine .inr ⟨_, rfl, ?_⟩
           have HT4 := Lib.hid (HTD.out.step hq hbt)
           have c4 := HT4.out.st.cell (i := 1) rfl
           have c6 := (HT4.out.alloc ((Below.refl _ w4).alloc (Nat.le_refl _) (.cells #[.int .i64 x.a, .int .i64 x.b, .int .i64 x.c, .int .i64 x.d, .int .i64 x.e] 51))).st.cell (i := 1) rfl
           obtain ⟨a', c', w5, hrun, hst, ht5⟩ := HT4.out.push_rob x HBN.out
           rw [HLL.out x] at hrun ht5
           have c5 := hst.cell (i := 1) rfl
           have f5 := hst.fz 1))
      all_goals
        have HX := Lib.hid hx
        have HYR := Lib.hid hy
        have HTN := Lib.hid ht5
        clear hx hy hq hbt c4 c6 c1 c5 f5 hrun hst ht5 HT4 HTD
        go_wp2_with fail
        go_roundg (gk - 1)
        case measure => omega
        case rel => exact ⟨k + 1, a', c', rs1 ++ [x], r, by go_num, by omega, HLL.out x, all_snoc HRO1.out HX.out, flat_snoc HRE1.out HYR.out, HTN.out⟩
    · have HRL1x : Hid (rs1.length = v2) := HRL.out.trans (by omega)
      obtain rfl : v2 = k := by omega
      clear HRL
      have HF3 := Lib.hid (f3_of HF2.out HRE1.out HRL1x.out HRO1.out)
      go_wp2_with fail
      refine (HC.out _ _ HT1x.out.but HT1x.out.rd).mono ?_
      rintro e w5 ⟨⟨v3, y4, hvv3, hy, rfl, hq⟩ | ⟨hno, rfl⟩, hbt⟩
      rotate_left
      · exact ⟨rfl, .inr ⟨f4_no HF3.out (by have := HT1x.out.rd.len; omega) hno, rfl⟩, HT1x.out.but.trans hbt⟩
      have HF4 := Lib.hid (f4_of HF3.out hy (by omega))
      have HYv3 := Lib.hid hy
      have HT4 := Lib.hid (HT1x.out.step hq hbt)
      clear hy hq hbt HT1x
      go_wp2_with fail
      go_loopg [23] v3 (fun gg i wr => ∃ (k : Nat) (sa : Option Addr) (sc : Nat) (rs : List Rec) (y : List Nat), i = .int .i64 k ∧ k + gg = v3 ∧ Hid (rs.length = k) ∧ Hid (∀ r ∈ rs, JobIn r) ∧ Hid (y4 = rs.flatMap encJob ++ y) ∧ Hid (Tks w wr b w.heap.size (w.heap.size + 1) a n c zs y ⟨v1, sa1, v2, sc1, sa, k, sc, none, 0, 0⟩ ⟨v1, rs1, rs, []⟩))
      case atStart => exact ⟨0, none, 0, [], y4, rfl, by omega, rfl, by simp [Hid], rfl, HT4.out⟩
      case round =>
        clear HT4
        obtain ⟨k, sa2, sc2, rs2, y2, rfl, hkg, HRL, HRO2, HRE2, HT2x⟩ := hrel
        by_cases hgo : k < v3
        · have hgo' : (k : Int) < (v3 : Int) := by omega
          have HTD := Lib.hid HT2x.out.drew
          have c1 := HT2x.out.st.cell (i := 2) rfl
          have hrl : ∀ x, (rs2 ++ [x]).length = k + 1 := fun x => by rw [List.length_append, HRL.out]; rfl
          have HLL := Lib.hid hrl
          have HBN : Hid (rs2.length ≤ 90000) := by unfold Hid; rw [HRL.out]; omega
          clear hrl
          go_wp2_with fail
          go_region_law (first
            | (refine step_append_of rfl _ _ _ rfl rfl rfl hrun ?_)
            | (refine step_call_two rfl _ _ _ rfl Try.func54 (by decide) rfl rfl (HJ.out _ y2 HTD.out.but HTD.out.rd) (g := fun l w' => l = [{ v := .iface 36 (.int .i64 3), recovered := false }] ∧ (∀ x r, JobIn x → y2 ≠ encJob x ++ r) ∧ But b wr.drew w') (by
                rintro l w' ⟨rfl, hno, hbt⟩
                exact ⟨rfl, .inr ⟨f5_no HF4.out HRE2.out (by rw [HRL.out]; exact hgo) HRO2.out hno, rfl⟩, HTD.out.but.trans hbt⟩) ?_
               rintro e w4 ⟨⟨x, r, hx, hy, rfl, hq⟩ | ⟨hno, rfl⟩, hbt⟩
               rotate_left
               · exact .inl ⟨_, rfl, rfl, hno, hbt⟩
               refine .inr ⟨_, rfl, ?_⟩
               have HT4 := Lib.hid (HTD.out.step hq hbt)
               have c4 := HT4.out.st.cell (i := 2) rfl
               have c6 := (HT4.out.alloc ((Below.refl _ w4).alloc (Nat.le_refl _) (.cells #[.int .i64 x.a, .int .i64 x.b, .int .i64 x.c, .int .i64 x.d, .int .i64 x.e] 53))).st.cell (i := 2) rfl
               obtain ⟨a', c', w5, hrun, hst, ht5⟩ := HT4.out.push_job x HBN.out
               rw [HLL.out x] at hrun ht5
               have c5 := hst.cell (i := 2) rfl
               have f5 := hst.fz 2))
          all_goals
            have HX := Lib.hid hx
            have HYR := Lib.hid hy
            have HTN := Lib.hid ht5
            clear hx hy hq hbt c4 c6 c1 c5 f5 hrun hst ht5 HT4 HTD
            go_wp2_with fail
            go_roundg (gk - 1)
            case measure => omega
            case rel => exact ⟨k + 1, a', c', rs2 ++ [x], r, by go_num, by omega, HLL.out x, all_snoc HRO2.out HX.out, flat_snoc HRE2.out HYR.out, HTN.out⟩
        · have HRL2x : Hid (rs2.length = v3) := HRL.out.trans (by omega)
          obtain rfl : v3 = k := by omega
          clear HRL
          have HF5 := Lib.hid (f5_of HF4.out HRE2.out HRL2x.out HRO2.out)
          go_wp2_with fail
          refine (HC.out _ _ HT2x.out.but HT2x.out.rd).mono ?_
          rintro e w6 ⟨⟨v4, y6, hvv4, hy, rfl, hq⟩ | ⟨hno, rfl⟩, hbt⟩
          rotate_left
          · exact ⟨rfl, .inr ⟨f6_no HF5.out (by have := HT2x.out.rd.len; omega) hno, rfl⟩, HT2x.out.but.trans hbt⟩
          have HF6 := Lib.hid (f6_of HF5.out hy (by omega))
          have HYv4 := Lib.hid hy
          have HT6 := Lib.hid (HT2x.out.step hq hbt)
          clear hy hq hbt HT2x
          go_wp2_with fail
          go_loopg [4, 5, 35] v4 (fun gg vl vc i wr => ∃ (k : Nat) (sa : Option Addr) (sc : Nat) (bl : List Int) (y : List Nat), i = .int .i64 k ∧ k + gg = v4 ∧ vl = .int .i64 (lastG (-1) bl + 1) ∧ Hid (bl.length = k) ∧ Hid (UpIn (-1) bl) ∧ Hid (y6 = encG (-1) bl ++ y) ∧ Hid (Tks w wr b w.heap.size (w.heap.size + 1) a n c zs y ⟨v1, sa1, v2, sc1, sa2, v3, sc2, sa, k, sc⟩ ⟨v1, rs1, rs2, bl⟩))
          case atStart => exact ⟨0, none, 0, [], y6, rfl, by omega, by first | rfl | (simp [lastG]), rfl, trivial, rfl, HT6.out⟩
          case round =>
            clear HT6
            obtain ⟨k, sa, sc, bl, y, rfl, hkg, rfl, HBL, HUP, HRE, HT⟩ := hrel
            have hlast := upIn_last bl (-1) HUP.out (by omega) (by omega)
            obtain ⟨p, hp⟩ : ∃ p, lastG (-1) bl = p := ⟨_, rfl⟩
            have HP := Lib.hid hp
            rw [hp] at hlast ⊢
            clear hp
            by_cases hgo : k < v4
            · have hgo' : (k : Int) < (v4 : Int) := by omega
              go_wp2_with fail
              refine (HS.out _ _ HT.out.but HT.out.rd).mono ?_
              rintro e w7 ⟨⟨d, r, hd, hy, rfl, hq⟩ | ⟨hno, rfl⟩, hbt⟩
              rotate_left
              · refine ⟨rfl, .inr ⟨f7_no HF6.out HRE.out (by rw [HBL.out]; exact hgo) HUP.out (fun x r h1 h2 => ?_), rfl⟩, HT.out.but.trans hbt⟩
                rw [HP.out] at h1 ⊢
                exact hno _ r (by omega)
              have HD := Lib.hid hy
              have HT7 := Lib.hid (HT.out.step hq hbt)
              have hw1 : IntKind.i64.wrap (p + 1 + (d : Int)) = p + 1 + (d : Int) := by simp only [IntKind.wrap_i64]; omega
              have hw2 : IntKind.i64.wrap (p + 1 + (d : Int) + 1) = p + 1 + (d : Int) + 1 := by simp only [IntKind.wrap_i64]; omega
              clear hy hq hbt HT
              by_cases hle : p + 1 + (d : Int) ≤ 2147483647
              · have HLE := Lib.hid hle
                have c1x := HT7.out.st.cell (i := 3) rfl
                have HBN : Hid (bl.length ≤ 90000) := by unfold Hid; rw [HBL.out]; omega
                obtain ⟨a', c', w8, hrun, hst, ht8⟩ := HT7.out.push_bl (p + 1 + (d : Int)) HBN.out
                have hrl : (bl ++ [p + 1 + (d : Int)]).length = k + 1 := by rw [List.length_append, HBL.out]; rfl
                rw [hrl] at hrun ht8
                have c5 := hst.cell (i := 3) rfl
                have f5 := hst.fz 3
                have HTN := Lib.hid ht8
                have HLL := Lib.hid hrl
                have HUN := Lib.hid (upIn_snoc (p + 1 + (d : Int)) bl (-1) HUP.out (by rw [HP.out]; omega) hle)
                have HLN := Lib.hid (lastG_snoc (p + 1 + (d : Int)) bl (-1))
                have HRN : Hid (y6 = encG (-1) (bl ++ [p + 1 + (d : Int)]) ++ r) := by
                  unfold Hid
                  rw [encG_snoc, HP.out, HRE.out, HD.out, List.append_assoc, show p + 1 + (d : Int) - p - 1 = d by omega]
                  rfl
                obtain ⟨bl', hbl'⟩ : ∃ b', bl ++ [p + 1 + (d : Int)] = b' := ⟨_, rfl⟩
                rw [hbl'] at HLL HUN HLN HRN HTN
                clear hst ht8 hrl hbl' HRE HUP HBL HT7
                go_wp2_with fail
                refine (HNY.out _).mono ?_
                rintro e w9 ⟨rfl, rfl⟩
                go_wp2_with (at_builtin; refine Lib.wpList_append_run _ rfl _ _ _ _ rfl _ _ rfl rfl _ _ hrun ?_)
                go_roundg (gk - 1)
                case measure => omega
                case rel => exact ⟨k + 1, a', c', bl', r, by go_num, by omega, by rw [HLN.out], HLL.out, HUN.out, HRN.out, HTN.out⟩
              · have hdf : decide (p + 1 + (d : Int) ≤ 2147483647) = false := by simp; omega
                go_wp2_with fail
                refine (HNN.out _).mono ?_
                rintro e w9 ⟨rfl, rfl⟩
                go_wp2_with fail
                refine ⟨rfl, .inr ⟨f7_no HF6.out HRE.out (by rw [HBL.out]; exact hgo) HUP.out (fun x r' h1 h2 he => ?_), rfl⟩, HT7.out.but⟩
                rw [HP.out] at h1 he
                rw [HD.out] at he
                have := (enc_pf (by omega) (by omega) he).1
                omega
            · have HRL' : Hid (bl.length = v4) := HBL.out.trans (by omega)
              obtain rfl : v4 = k := by omega
              clear HBL
              have d0 := HT.out.st.cell (i := 0) rfl
              have d1 := HT.out.st.cell (i := 1) rfl
              have d2 := HT.out.st.cell (i := 2) rfl
              have d3 := HT.out.st.cell (i := 3) rfl
              have q0 := HT.out.res.cell (i := 0) rfl
              have q1 := HT.out.res.cell (i := 1) rfl
              have q2 := HT.out.res.cell (i := 2) rfl
              have q3 := HT.out.res.cell (i := 3) rfl
              have f0 := HT.out.res.fz 0
              have f1 := HT.out.res.fz 1
              have f2 := HT.out.res.fz 2
              have f3 := HT.out.res.fz 3
              go_wp2_with fail
              obtain ⟨hc, hr, hbt⟩ := HT.out.done (.int .i64 v1) (.slice sa1 v2 sc1) (.slice sa2 v3 sc2) (.slice sa v4 sc)
              refine bodyPost_ret (v := shV ⟨v1, sa1, v2, sc1, sa2, v3, sc2, sa, v4, sc⟩) (by simp [results, Try.results35, go_sem, q0, q1, q2, q3]) rfl ?_
              refine ⟨.inl ⟨⟨v1, rs1, rs2, bl⟩, ?_, y, ?_, _, rfl, hc, hr⟩, hbt⟩
              · have h1 := HV1.out
                exact ⟨⟨by show (0 : Int) ≤ v1; omega, by show (v1 : Int) ≤ 2147483647; omega⟩, by show rs1.length ≤ _; rw [HRL1x.out]; omega, by show rs2.length ≤ _; rw [HRL2x.out]; omega, by show bl.length ≤ _; rw [HRL'.out]; omega, HRO1.out, HRO2.out, HUP.out⟩
              · exact ate_all HY1.out HY2.out HRE1.out HYv3.out HRE2.out HYv4.out HRE.out HRL1x.out HRL2x.out HRL'.out
end Go.Proofs.Ytdhaoacnedgogaa.Vm
