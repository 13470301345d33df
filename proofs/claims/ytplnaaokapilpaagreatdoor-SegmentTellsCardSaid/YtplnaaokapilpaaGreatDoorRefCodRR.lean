/- Words for the document's ReadRecord: what it keeps. The contract of the document's ReadRecord. -/
import Derived.Test.YtplnaaokapilpaaGreatDoorPushes
import Derived.Test.YtplnaaokapilpaaGreatDoorRefCodR
set_option linter.unusedVariables false
set_option linter.unusedSimpArgs false
namespace Go.Proofs.YtplnaaokapilpaaGreatDoor.Vm
open Go Go.RowKit

/-- What the document's ReadRecord keeps: what reads, in block bt; the record so far, in block bs; the result, in block q, not laid yet. -/
structure Rdr (wr : World) (B q bt bs : Nat) (a : Option Addr) (n c : Nat) (t : Tk) (h : Rh) (x : Rcd) : Prop where
  tk : TkAt wr bt a n c t
  res : BoxAt wr q #[.int .i64 0, .slice none 0 0, .slice none 0 0, .slice none 0 0, .int .u32 0] 50
  st : BoxAt wr bs #[.int .i64 h.t, .slice h.a1 h.n1 h.c1, .slice h.a2 h.n2 h.c2, .slice h.a3 h.n3 h.c3, .int .u32 h.k] 50
  c : RCopy wr B h x
theorem Rdr.turned {w w' : World} {B q bt bs : Nat} {a : Option Addr} {n c : Nat} {t t' : Tk} {h : Rh} {x : Rcd} (r : Rdr w B q bt bs a n c t h x) (ht : TkAt w' bt a n c t') (hb : But bt w w') (h1 : q ≠ bt) (h2 : bs ≠ bt) : Rdr w' B q bt bs a n c t' h x :=
  ⟨ht, r.res.but hb h1, r.st.but hb h2, r.c.turned r.tk hb (by decide) (by decide) (by decide)⟩
theorem Rdr.push_inp {A : World} {B q bt bs : Nat} {a a1 a2 a3 : Option Addr} {n c n1 c1 n2 c2 n3 c3 : Nat} {t : Tk} {v tick k kk : Int} {ins : List Inp} {cs ws : List Int} (r : Rdr A B q bt bs a n c t ⟨v, a1, n1, c1, a2, n2, c2, a3, n3, c3, k⟩ ⟨tick, ins, cs, ws, kk⟩) (x : Inp) (hlen : ins.length ≤ 200000) (hB : B ≤ A.heap.size) (h1 : q ≠ bs) (h2 : bt ≠ bs) :
    ∃ a' c' w', (Builtin.append_ #[46, 46] 46 #[.slice a1 n1 c1, .slice (some ⟨A.heap.size, 0, none⟩) 1 1]).run Tryz.prog (A.alloc (.cells #[.int .i64 x.k, .int .i64 x.a, .int .i64 x.b, .int .i64 x.c] 99)) = .ok (.slice a' (ins ++ [x]).length c') w' ∧
      BoxAt w' bs #[.int .i64 v, .slice a1 n1 c1, .slice a2 n2 c2, .slice a3 n3 c3, .int .u32 k] 50 ∧
      Rdr (w'.setCell ⟨bs, 1, none⟩ (.slice a' (ins ++ [x]).length c')) B q bt bs a n c t ⟨v, a', (ins ++ [x]).length, c', a2, n2, c2, a3, n3, c3, k⟩ ⟨tick, ins ++ [x], cs, ws, kk⟩ ∧ ∀ B0, B0 ≤ B → B0 ≤ bs → Below B0 A (w'.setCell ⟨bs, 1, none⟩ (.slice a' (ins ++ [x]).length c')) := by
  have ho := r.c.ins
  obtain ⟨v', w', hrun, hown, hg⟩ := append_inp ho x hlen hB
  obtain ⟨a', c', rfl⟩ := own_is_slice hown
  have ap : ∀ {b : Nat} {cs : Array Value} {ty : TypeId}, BoxAt A b cs ty → 99 ≠ ty → BoxAt w' b cs ty := fun hk hne => (hg.block _ hk.lt (fun e => own_apart ho hk hne e.symm)).trans hk
  have hst := ap r.st (by decide)
  have hk2 : But bs w' (w'.setCell ⟨bs, 1, none⟩ (.slice a' (ins ++ [x]).length c')) := (But.refl _ _).set _
  have kp : ∀ {e : TypeId} {size m : Nat} {u : Value} {xs : List Value}, w'.ownsRow B e size u m xs → e ≠ 50 → (w'.setCell ⟨bs, 1, none⟩ (.slice a' (ins ++ [x]).length c')).ownsRow B e size u m xs := fun hh hne => World.ownsRow.kept hh hk2 (.inr (own_apart hh hst hne))
  refine ⟨a', c', w', hrun, hst, ⟨(ap r.tk (by decide)).but hk2 h2, (ap r.res (by decide)).but hk2 h1, BoxAt.set hst 1 _, ⟨r.c.tick, ?_, ?_, ?_, r.c.ck⟩⟩, fun B0 hb hb2 => ?_⟩
  · exact kp hown (by decide)
  · exact kp (World.ownsRow.kept r.c.cs hg (own_own ho r.c.cs (by decide))) (by decide)
  · exact kp (World.ownsRow.kept r.c.ws hg (own_own ho r.c.ws (by decide))) (by decide)
  · exact ((Below.refl B0 A).grown hg (Nat.le_trans hb hB) (fun k hk => Nat.le_trans hb (World.ownsRow.lt ho k hk).1)).setCell (show B0 ≤ bs from hb2) _
theorem Rdr.push_err {A : World} {B q bt bs : Nat} {a a1 a2 a3 : Option Addr} {n c n1 c1 n2 c2 n3 c3 : Nat} {t : Tk} {v tick k kk : Int} {ins : List Inp} {cs ws : List Int} (r : Rdr A B q bt bs a n c t ⟨v, a1, n1, c1, a2, n2, c2, a3, n3, c3, k⟩ ⟨tick, ins, cs, ws, kk⟩) (x : Int) (hlen : cs.length ≤ 200000) (hB : B ≤ A.heap.size) (h1 : q ≠ bs) (h2 : bt ≠ bs) :
    ∃ a' c' w', (Builtin.append_ #[47, 47] 47 #[.slice a2 n2 c2, .slice (some ⟨A.heap.size, 0, none⟩) 1 1]).run Tryz.prog (A.alloc (.cells #[.int .i64 x] 28)) = .ok (.slice a' (cs ++ [x]).length c') w' ∧
      BoxAt w' bs #[.int .i64 v, .slice a1 n1 c1, .slice a2 n2 c2, .slice a3 n3 c3, .int .u32 k] 50 ∧
      Rdr (w'.setCell ⟨bs, 2, none⟩ (.slice a' (cs ++ [x]).length c')) B q bt bs a n c t ⟨v, a1, n1, c1, a', (cs ++ [x]).length, c', a3, n3, c3, k⟩ ⟨tick, ins, cs ++ [x], ws, kk⟩ ∧ ∀ B0, B0 ≤ B → B0 ≤ bs → Below B0 A (w'.setCell ⟨bs, 2, none⟩ (.slice a' (cs ++ [x]).length c')) := by
  have ho := r.c.cs
  obtain ⟨v', w', hrun, hown, hg⟩ := append_err ho x hlen hB
  obtain ⟨a', c', rfl⟩ := own_is_slice hown
  have ap : ∀ {b : Nat} {cs : Array Value} {ty : TypeId}, BoxAt A b cs ty → 28 ≠ ty → BoxAt w' b cs ty := fun hk hne => (hg.block _ hk.lt (fun e => own_apart ho hk hne e.symm)).trans hk
  have hst := ap r.st (by decide)
  have hk2 : But bs w' (w'.setCell ⟨bs, 2, none⟩ (.slice a' (cs ++ [x]).length c')) := (But.refl _ _).set _
  have kp : ∀ {e : TypeId} {size m : Nat} {u : Value} {xs : List Value}, w'.ownsRow B e size u m xs → e ≠ 50 → (w'.setCell ⟨bs, 2, none⟩ (.slice a' (cs ++ [x]).length c')).ownsRow B e size u m xs := fun hh hne => World.ownsRow.kept hh hk2 (.inr (own_apart hh hst hne))
  refine ⟨a', c', w', hrun, hst, ⟨(ap r.tk (by decide)).but hk2 h2, (ap r.res (by decide)).but hk2 h1, BoxAt.set hst 2 _, ⟨r.c.tick, ?_, ?_, ?_, r.c.ck⟩⟩, fun B0 hb hb2 => ?_⟩
  · exact kp (World.ownsRow.kept r.c.ins hg (own_own ho r.c.ins (by decide))) (by decide)
  · exact kp hown (by decide)
  · exact kp (World.ownsRow.kept r.c.ws hg (own_own ho r.c.ws (by decide))) (by decide)
  · exact ((Below.refl B0 A).grown hg (Nat.le_trans hb hB) (fun k hk => Nat.le_trans hb (World.ownsRow.lt ho k hk).1)).setCell (show B0 ≤ bs from hb2) _
theorem Rdr.push_way {A : World} {B q bt bs : Nat} {a a1 a2 a3 : Option Addr} {n c n1 c1 n2 c2 n3 c3 : Nat} {t : Tk} {v tick k kk : Int} {ins : List Inp} {cs ws : List Int} (r : Rdr A B q bt bs a n c t ⟨v, a1, n1, c1, a2, n2, c2, a3, n3, c3, k⟩ ⟨tick, ins, cs, ws, kk⟩) (x : Int) (hlen : ws.length ≤ 200000) (hB : B ≤ A.heap.size) (h1 : q ≠ bs) (h2 : bt ≠ bs) :
    ∃ a' c' w', (Builtin.append_ #[23, 23] 23 #[.slice a3 n3 c3, .slice (some ⟨A.heap.size, 0, none⟩) 1 1]).run Tryz.prog (A.alloc (.cells #[.int .i64 x] 3)) = .ok (.slice a' (ws ++ [x]).length c') w' ∧
      BoxAt w' bs #[.int .i64 v, .slice a1 n1 c1, .slice a2 n2 c2, .slice a3 n3 c3, .int .u32 k] 50 ∧
      Rdr (w'.setCell ⟨bs, 3, none⟩ (.slice a' (ws ++ [x]).length c')) B q bt bs a n c t ⟨v, a1, n1, c1, a2, n2, c2, a', (ws ++ [x]).length, c', k⟩ ⟨tick, ins, cs, ws ++ [x], kk⟩ ∧ ∀ B0, B0 ≤ B → B0 ≤ bs → Below B0 A (w'.setCell ⟨bs, 3, none⟩ (.slice a' (ws ++ [x]).length c')) := by
  have ho := r.c.ws
  obtain ⟨v', w', hrun, hown, hg⟩ := append_way ho x hlen hB
  obtain ⟨a', c', rfl⟩ := own_is_slice hown
  have ap : ∀ {b : Nat} {cs : Array Value} {ty : TypeId}, BoxAt A b cs ty → 3 ≠ ty → BoxAt w' b cs ty := fun hk hne => (hg.block _ hk.lt (fun e => own_apart ho hk hne e.symm)).trans hk
  have hst := ap r.st (by decide)
  have hk2 : But bs w' (w'.setCell ⟨bs, 3, none⟩ (.slice a' (ws ++ [x]).length c')) := (But.refl _ _).set _
  have kp : ∀ {e : TypeId} {size m : Nat} {u : Value} {xs : List Value}, w'.ownsRow B e size u m xs → e ≠ 50 → (w'.setCell ⟨bs, 3, none⟩ (.slice a' (ws ++ [x]).length c')).ownsRow B e size u m xs := fun hh hne => World.ownsRow.kept hh hk2 (.inr (own_apart hh hst hne))
  refine ⟨a', c', w', hrun, hst, ⟨(ap r.tk (by decide)).but hk2 h2, (ap r.res (by decide)).but hk2 h1, BoxAt.set hst 3 _, ⟨r.c.tick, ?_, ?_, ?_, r.c.ck⟩⟩, fun B0 hb hb2 => ?_⟩
  · exact kp (World.ownsRow.kept r.c.ins hg (own_own ho r.c.ins (by decide))) (by decide)
  · exact kp (World.ownsRow.kept r.c.cs hg (own_own ho r.c.cs (by decide))) (by decide)
  · exact kp hown (by decide)
  · exact ((Below.refl B0 A).grown hg (Nat.le_trans hb hB) (fun k hk => Nat.le_trans hb (World.ownsRow.lt ho k hk).1)).setCell (show B0 ≤ bs from hb2) _
end Go.Proofs.YtplnaaokapilpaaGreatDoor.Vm

namespace Go.Proofs.YtplnaaokapilpaaGreatDoor.Vm
open Go Go.RowKit

theorem onePut_o {zs : List Nat} (hz : ∀ x ∈ zs, x < 256) (t : Tk) : ((onePut zs t).2.o = false → t.o = false ∧ t.p < (onePut zs t).2.p) ∧ (t.p ≤ zs.length → (onePut zs t).2.p ≤ zs.length) := by
  unfold onePut
  have h1 := tk_o hz t
  have h2 := tk_o hz (tk zs t).2
  have h3 := tk_o hz (tk zs (tk zs t).2).2
  have h4 := tk_o hz (tk zs (tk zs (tk zs t).2).2).2
  have h5 := sm_o hz (tk zs (tk zs (tk zs (tk zs t).2).2).2).2
  refine ⟨fun e => ?_, fun hp => h5.2 (h4.2 (h3.2 (h2.2 (h1.2 hp))))⟩
  obtain ⟨a5, b5⟩ := h5.1 e
  obtain ⟨a4, b4⟩ := h4.1 a5
  obtain ⟨a3, b3⟩ := h3.1 a4
  obtain ⟨a2, b2⟩ := h2.1 a3
  obtain ⟨a1, b1⟩ := h1.1 a2
  exact ⟨a1, Nat.lt_trans b1 (Nat.lt_trans b2 (Nat.lt_trans b3 (Nat.lt_trans b4 b5)))⟩
theorem readPut_o (zs : List Nat) (n : Nat) {t : Tk} (h : t.o = true) : readPut zs n t = ([], t) := by
  cases n with
  | zero => rfl
  | succ n => unfold readPut; rw [if_pos h]
theorem readPut_more {zs : List Nat} {n : Nat} {t : Tk} (ho : t.o = false) : readPut zs (n + 1) t = ((onePut zs t).1 :: (readPut zs n (onePut zs t).2).1, (readPut zs n (onePut zs t).2).2) := by
  show (if t.o = true then _ else _) = _
  rw [if_neg (by simp [ho])]
theorem readPut_len {zs : List Nat} (hz : ∀ x ∈ zs, x < 256) : ∀ (n : Nat) (t : Tk), t.p ≤ zs.length → (readPut zs n t).1.length + t.p ≤ zs.length + 1 ∧ (readPut zs n t).2.p ≤ zs.length
  | 0, t, h => ⟨by simp [readPut]; omega, h⟩
  | n + 1, t, h => by
    by_cases ho : t.o = true
    · rw [readPut_o zs (n + 1) ho]
      exact ⟨by simp; omega, h⟩
    · rw [readPut_more (by simpa using ho)]
      have h5 := onePut_o hz t
      have hp := h5.2 h
      obtain ⟨i1, i2⟩ := readPut_len hz n (onePut zs t).2 hp
      refine ⟨?_, i2⟩
      simp only [List.length_cons]
      by_cases ho2 : (onePut zs t).2.o = true
      · rw [readPut_o zs n ho2]
        simp
        omega
      · have := (h5.1 (by simpa using ho2)).2
        omega
theorem onePut_of {zs : List Nat} {t t1 t2 t3 t4 t5 : Tk} {a b c d e : Nat} (h1 : tk zs t = (a, t1)) (h2 : tk zs t1 = (b, t2)) (h3 : tk zs t2 = (c, t3)) (h4 : tk zs t3 = (d, t4)) (h5 : sm zs t4 = (e, t5)) : onePut zs t = ((⟨zag a, zag b, zag c, zag d⟩, (e : Int)), t5) := by
  unfold onePut
  simp only [h1, h2, h3, h4, h5]

theorem readPut_wf {zs : List Nat} (hz : ∀ x ∈ zs, x < 256) : ∀ (n : Nat) (t : Tk), ∀ p ∈ (readPut zs n t).1, InpWf p.1
  | 0, t, p, hp => by simp [readPut] at hp
  | n + 1, t, p, hp => by
    by_cases ho : t.o = true
    · rw [readPut_o zs (n + 1) ho] at hp
      simp at hp
    · rw [readPut_more (by simpa using ho)] at hp
      rcases List.mem_cons.1 hp with rfl | hp
      · unfold onePut
        exact ⟨(zig_zag (tk_lt hz _)).2, (zig_zag (tk_lt hz _)).2, (zig_zag (tk_lt hz _)).2, (zig_zag (tk_lt hz _)).2⟩
      · exact readPut_wf hz n _ p hp
theorem readW_o (zs : List Nat) (n : Nat) (ws : List Int) {t : Tk} (h : t.o = true) : readW zs n ws t = some (ws, t) := by
  cases n with
  | zero => rfl
  | succ n => unfold readW; rw [if_pos h]
theorem readW_big {zs : List Nat} {n y0 y1 : Nat} {ws : List Int} {t u1 u2 : Tk} (ho : t.o = false) (h1 : sm zs t = (y0, u1)) (h2 : sm zs u1 = (y1, u2)) (hb : 100000 < ws.length + (y1 + 1)) : readW zs (n + 1) ws t = none := by
  unfold readW
  rw [if_neg (by simp [ho]), h1]
  simp only []
  rw [h2]
  simp only []
  rw [if_pos hb]
theorem readW_odd {zs : List Nat} {n y0 y1 : Nat} {ws : List Int} {t u1 u2 : Tk} (ho : t.o = false) (h1 : sm zs t = (y0, u1)) (h2 : sm zs u1 = (y1, u2)) (hb : ¬ 100000 < ws.length + (y1 + 1)) (h3 : u2.o = true) : readW zs (n + 1) ws t = readW zs n ws u2 := by
  conv => lhs; unfold readW
  rw [if_neg (by simp [ho]), h1]
  simp only []
  rw [h2]
  simp only []
  rw [if_neg hb, if_pos h3, List.append_nil]
theorem readW_go {zs : List Nat} {n y0 y1 : Nat} {ws : List Int} {t u1 u2 : Tk} (ho : t.o = false) (h1 : sm zs t = (y0, u1)) (h2 : sm zs u1 = (y1, u2)) (hb : ¬ 100000 < ws.length + (y1 + 1)) (h3 : u2.o = false) : readW zs (n + 1) ws t = readW zs n (ws ++ List.replicate (y1 + 1) (y0 : Int)) u2 := by
  conv => lhs; unfold readW
  rw [if_neg (by simp [ho]), h1]
  simp only []
  rw [h2]
  simp only []
  rw [if_neg hb, if_neg (by simp [h3])]
theorem Rdr.setCk {A : World} {B q bt bs : Nat} {a a1 a2 a3 : Option Addr} {n c n1 c1 n2 c2 n3 c3 : Nat} {t : Tk} {v tick k kk : Int} {ins : List Inp} {cs ws : List Int} (r : Rdr A B q bt bs a n c t ⟨v, a1, n1, c1, a2, n2, c2, a3, n3, c3, k⟩ ⟨tick, ins, cs, ws, kk⟩) (x : Int) (h1 : q ≠ bs) (h2 : bt ≠ bs) :
    Rdr (A.setCell ⟨bs, 4, none⟩ (.int .u32 x)) B q bt bs a n c t ⟨v, a1, n1, c1, a2, n2, c2, a3, n3, c3, x⟩ ⟨tick, ins, cs, ws, x⟩ := by
  have hk : But bs A (A.setCell ⟨bs, 4, none⟩ (.int .u32 x)) := (But.refl _ _).set _
  have hc := r.c.turned r.st hk (by decide) (by decide) (by decide)
  exact ⟨r.tk.but hk h2, r.res.but hk h1, BoxAt.set r.st 4 _, ⟨hc.tick, hc.ins, hc.cs, hc.ws, rfl⟩⟩
theorem noRec {zs : List Nat} {n : Nat} (hz : zs.length = n) (hn : n ≤ 2000) (h : readRc zs = none) : ¬ ∃ x, CanR x ∧ WfR x ∧ x.ws.length ≤ 100000 ∧ encR x = zs := by
  rintro ⟨x, hc, hw, hl, he⟩
  obtain ⟨t, e, _⟩ := readRc_enc hc hw (Nat.le_trans (encR_ins (N := 2000) hc (by rw [he]; omega)) (by omega)) hl
  rw [he, h] at e
  cases e

set_option maxRecDepth 100000 in
set_option maxHeartbeats 8000000 in
theorem rcodRR_any (a : Option Addr) (n c : Nat) (zs : List Nat) (w : World) (h : Row .u8 w w.heap.size a n c zs) (hz : ∀ x ∈ zs, x < 256) (hn : n ≤ 2000) :
    Calls Tryz.prog 25 #[.slice a n c] w fun e w' => ∃ h' er, e = .returned (.tuple #[rhV h', .int .i64 er]) ∧ ((er = 0 ∧ ∃ x, CanR x ∧ WfR x ∧ x.ws.length ≤ 100000 ∧ encR x = zs ∧ RCopy w' w.heap.size h' x) ∨ (er = 3 ∧ h' = ⟨0, none, 0, 0, none, 0, 0, none, 0, 0, 0⟩ ∧ ¬ ∃ x, CanR x ∧ WfR x ∧ x.ws.length ≤ 100000 ∧ encR x = zs)) ∧ Below w.heap.size w w' := by
  have hb0 : Below w.heap.size w (w.alloc (rhO ⟨0, none, 0, 0, none, 0, 0, none, 0, 0, 0⟩)) := (Below.refl _ _).alloc (Nat.le_refl _) _
  have hz0 : (w.alloc (rhO ⟨0, none, 0, 0, none, 0, 0, none, 0, 0, 0⟩)).heap.size = w.heap.size + 1 := by simp
  have hT0 := boxAt_new (w.alloc (rhO ⟨0, none, 0, 0, none, 0, 0, none, 0, 0, 0⟩)) #[.slice a n c, .int .i64 0, .bool false] 96
  have hR0 := boxAt_new w #[.int .i64 0, .slice none 0 0, .slice none 0 0, .slice none 0 0, .int .u32 0] 50
  obtain ⟨w2, hw2⟩ : ∃ w2, w2 = (w.alloc (rhO ⟨0, none, 0, 0, none, 0, 0, none, 0, 0, 0⟩)).alloc (.cells #[.slice a n c, .int .i64 0, .bool false] 96) := ⟨_, rfl⟩
  have hb1 : Below (w.heap.size + 1) (w.alloc (rhO ⟨0, none, 0, 0, none, 0, 0, none, 0, 0, 0⟩)) w2 := by rw [hw2]; exact (Below.refl _ _).alloc (by omega) _
  rw [← hw2, hz0] at hT0
  have hR2 : BoxAt w2 w.heap.size #[.int .i64 0, .slice none 0 0, .slice none 0 0, .slice none 0 0, .int .u32 0] 50 := BoxAt.calls hR0 (by rw [hz0]; exact hb1)
  have HT2 : Hid (TkAt w2 (w.heap.size + 1) a n c ⟨0, false⟩) := hT0
  have HB2 : Hid (Below w.heap.size w w2) := hb0.trans (hb1.mono (by omega))
  have hz2 : w2.heap.size = w.heap.size + 2 := by rw [hw2]; simp
  have HR := Lib.hid fun (V : World) (hV : Below w.heap.size w V) => h.below hV
  have HSM := Lib.hid fun (V : World) (t : Tk) (hV : Below w.heap.size w V) (ht : TkAt V (w.heap.size + 1) a n c t) => rsm_any (w.heap.size + 1) w.heap.size a n c zs t V ht (HR.out V hV) hz hV.size
  have HTM := Lib.hid fun (V : World) (t : Tk) (hV : Below w.heap.size w V) (ht : TkAt V (w.heap.size + 1) a n c t) => rtk_any (w.heap.size + 1) w.heap.size a n c zs t V ht (HR.out V hV) hz hV.size
  have HW2 := Lib.hid hw2
  have HR2 := Lib.hid hR2
  have HZ := Lib.hid hz
  have HZN := Lib.hid h.1
  clear hb0 hz0 hT0 hR0 hw2 hb1 hR2 hz h
  obtain ⟨⟨v1, t1⟩, e1⟩ : ∃ D, sm zs ⟨0, false⟩ = D := ⟨_, rfl⟩
  have HE1 := Lib.hid e1
  clear e1
  go_enter Tryz.func25, Tryz.ntmps25
  go_wp2_with fail
  rw [← HW2.out]
  refine (HSM.out w2 _ HB2.out HT2.out).mono ?_
  rw [HE1.out]
  rintro e w3 ⟨rfl, ht3, hbt3⟩
  have hb3 : Below w.heap.size w w3 := HB2.out.trans (hbt3.below (by omega) (by omega))
  have hz3 := hbt3.size
  have hr3 := HR2.out.but hbt3 (by omega)
  obtain ⟨w4, hw4⟩ : ∃ w4, w4 = w3.alloc (rhO ⟨v1, none, 0, 0, none, 0, 0, none, 0, 0, 0⟩) := ⟨_, rfl⟩
  have hba : Below w3.heap.size w3 w4 := by rw [hw4]; exact (Below.refl _ _).alloc (Nat.le_refl _) _
  have hs4 : BoxAt w4 w3.heap.size #[.int .i64 v1, .slice none 0 0, .slice none 0 0, .slice none 0 0, .int .u32 0] 50 := by rw [hw4]; exact boxAt_new w3 _ _
  have HRD4 : Hid (Rdr w4 (w.heap.size + 2) w.heap.size (w.heap.size + 1) w3.heap.size a n c t1 ⟨v1, none, 0, 0, none, 0, 0, none, 0, 0, 0⟩ ⟨v1, [], [], [], 0⟩) := ⟨BoxAt.calls ht3 hba, BoxAt.calls hr3 hba, hs4, ⟨rfl, World.ownsRow_nil _ _ _ _, World.ownsRow_nil _ _ _ _, World.ownsRow_nil _ _ _ _, rfl⟩⟩
  have HB4 := Lib.hid (hb3.trans (hba.mono (by omega)))
  have hz4 : w4.heap.size = w3.heap.size + 1 := by rw [hw4]; simp
  have HW4 := Lib.hid hw4
  clear ht3 hbt3 hb3 hr3 hba hs4 hw4
  have ht4 := HRD4.out.tk
  go_wp2_with fail
  rw [← HW4.out]
  obtain ⟨⟨v2, t2⟩, e2⟩ : ∃ D, sm zs t1 = D := ⟨_, rfl⟩
  have HE2 := Lib.hid e2
  clear e2
  have hv2 := sm_le zs t1
  rw [HE2.out] at hv2
  simp only [] at hv2
  have hp2 : Hid (t2.p ≤ zs.length) := by
    have h0 := (sm_o HZ.out ⟨0, false⟩).2 (Nat.zero_le _)
    rw [HE1.out] at h0
    have h2 := (sm_o HZ.out t1).2 h0
    rw [HE2.out] at h2
    exact h2
  refine (HSM.out w4 t1 HB4.out ht4).mono ?_
  rw [HE2.out]
  rintro e w5 ⟨rfl, ht5, hbt5⟩
  have HRD5 := Lib.hid (HRD4.out.turned ht5 hbt5 (by omega) (by omega))
  have HB5 := Lib.hid (HB4.out.trans (hbt5.below (by omega) (by omega)))
  have hz5 := hbt5.size
  have HL5 : Hid (readPut zs v2 t2 = ([] ++ (readPut zs v2 t2).1, (readPut zs v2 t2).2)) := by unfold Hid; rw [List.nil_append]
  clear ht5 hbt5 HRD4 HB4 ht4
  go_upto_block 0 with fail
  go_cut [6] from 14 (fun _ V => ∃ (t : Tk) (sa sb : Option Addr) (sc sd : Nat) (ps : List (Inp × Int)) (is : List Inp) (cs : List Int), is = ps.map Prod.fst ∧ cs = ps.map Prod.snd ∧ Hid (Rdr V (w.heap.size + 2) w.heap.size (w.heap.size + 1) w3.heap.size a n c t ⟨v1, sa, is.length, sc, sb, cs.length, sd, none, 0, 0, 0⟩ ⟨v1, is, cs, [], 0⟩) ∧ Hid (Below w.heap.size w V) ∧ Hid (readPut zs v2 t2 = (ps, t)) ∧ w4.heap.size ≤ V.heap.size)
  case first =>
    go_wp2_with fail
    go_loopg [6] v2 (fun gg i wr => ∃ (k : Nat) (t : Tk) (sa sb : Option Addr) (sc sd : Nat) (ps : List (Inp × Int)) (is : List Inp) (cs : List Int), i = .int .i64 k ∧ k ≤ gg ∧ k ≤ 2147483648 ∧ is = ps.map Prod.fst ∧ cs = ps.map Prod.snd ∧ Hid (Rdr wr (w.heap.size + 2) w.heap.size (w.heap.size + 1) w3.heap.size a n c t ⟨v1, sa, is.length, sc, sb, cs.length, sd, none, 0, 0, 0⟩ ⟨v1, is, cs, [], 0⟩) ∧ Hid (Below w.heap.size w wr) ∧ Hid (readPut zs v2 t2 = (ps ++ (readPut zs k t).1, (readPut zs k t).2)) ∧ w4.heap.size ≤ wr.heap.size)
    case atStart => exact ⟨v2, t2, none, none, 0, 0, [], [], [], rfl, Nat.le_refl _, hv2, rfl, rfl, HRD5.out, HB5.out, HL5.out, by omega⟩
    case round =>
      clear HRD5 HB5 HL5
      obtain ⟨k, t, sa, sb, sc, sd, ps, is, cs, rfl, hkg, hk31, his, hcs, HRD, HB, HL, hzr⟩ := hrel
      have HIS := Lib.hid his
      have HCS := Lib.hid hcs
      clear his hcs
      have q2 := HRD.out.tk.c2
      by_cases hgo : 0 < k ∧ t.o = false
      · obtain ⟨hk0, ho⟩ := hgo
        have HO := Lib.hid ho
        rw [ho] at q2
        obtain ⟨k', rfl⟩ : ∃ k', k = k' + 1 := ⟨k - 1, by omega⟩
        have hk1 : (0 : Int) < (k' : Int) + 1 := by omega
        clear ho
        go_wp2_with fail
        clear q2
        have hba : Below wr.heap.size wr (wr.alloc (.cells #[.int .i64 0, .int .i64 0, .int .i64 0, .int .i64 0] 99)) := (Below.refl _ _).alloc (Nat.le_refl _) _
        obtain ⟨A0, hA0⟩ : ∃ A0, A0 = wr.alloc (.cells #[.int .i64 0, .int .i64 0, .int .i64 0, .int .i64 0] 99) := ⟨_, rfl⟩
        have HX0 : Hid (BoxAt A0 wr.heap.size #[.int .i64 0, .int .i64 0, .int .i64 0, .int .i64 0] 99) := by rw [hA0]; exact boxAt_new wr _ _
        rw [← hA0] at hba ⊢
        have HN0 : Hid (But (w.heap.size + 1) wr A0) := (But.refl _ _).calls hba
        have HT0 : Hid (TkAt A0 (w.heap.size + 1) a n c t) := BoxAt.calls HRD.out.tk hba
        clear hA0 hba
        obtain ⟨⟨x0, tt1⟩, ex0⟩ : ∃ D, tk zs t = D := ⟨_, rfl⟩
        have hxl0 := tk_lt HZ.out t
        have EX0 := Lib.hid ex0
        have hbw0 : Below w.heap.size w A0 := HB.out.trans (HN0.out.below (by omega) (by omega))
        refine (HTM.out A0 t hbw0 HT0.out).mono ?_
        rw [ex0] at hxl0 ⊢
        rintro e y0 ⟨rfl, ht, hbt⟩
        simp only [] at hxl0
        have hzy := HN0.out.size
        have HXY := Lib.hid (BoxAt.but HX0.out hbt (by omega))
        have HNY := Lib.hid (HN0.out.trans hbt)
        have HTY := Lib.hid ht
        have cx := BoxAt.cell HXY.out (i := 0) rfl
        have fx := BoxAt.fz HXY.out 0
        have HZG := Lib.hid (rzag_any (x0 : Nat) y0 (by omega) (by omega))
        clear ht hbt hbw0 HX0 HN0 HT0 ex0
        go_wp2_with fail
        refine HZG.out.mono ?_
        rintro e yy ⟨rfl, rfl⟩
        go_wp2_with fail
        obtain ⟨A1, hA⟩ : ∃ A, A = y0.setCell ⟨wr.heap.size, 0, none⟩ (.int .i64 (zag (x0 : Nat))) := ⟨_, rfl⟩
        rw [← hA]
        have HX1 : Hid (BoxAt A1 wr.heap.size #[.int .i64 (zag (x0 : Nat)), .int .i64 0, .int .i64 0, .int .i64 0] 99) := by rw [hA]; exact BoxAt.set HXY.out 0 _
        have HN1 : Hid (But (w.heap.size + 1) wr A1) := by rw [hA]; exact HNY.out.setNew (Nat.le_refl _) _
        have HT1 : Hid (TkAt A1 (w.heap.size + 1) a n c tt1) := by
          rw [hA]
          exact BoxAt.but HTY.out (lb := wr.heap.size) ((But.refl _ _).set _) (by omega)
        clear hA cx fx HXY HNY HTY hzy HZG
        obtain ⟨⟨x1, tt2⟩, ex1⟩ : ∃ D, tk zs tt1 = D := ⟨_, rfl⟩
        have hxl1 := tk_lt HZ.out tt1
        have EX1 := Lib.hid ex1
        have hbw1 : Below w.heap.size w A1 := HB.out.trans (HN1.out.below (by omega) (by omega))
        refine (HTM.out A1 tt1 hbw1 HT1.out).mono ?_
        rw [ex1] at hxl1 ⊢
        rintro e y1 ⟨rfl, ht, hbt⟩
        simp only [] at hxl1
        have hzy := HN1.out.size
        have HXY := Lib.hid (BoxAt.but HX1.out hbt (by omega))
        have HNY := Lib.hid (HN1.out.trans hbt)
        have HTY := Lib.hid ht
        have cx := BoxAt.cell HXY.out (i := 1) rfl
        have fx := BoxAt.fz HXY.out 1
        have HZG := Lib.hid (rzag_any (x1 : Nat) y1 (by omega) (by omega))
        clear ht hbt hbw1 HX1 HN1 HT1 ex1
        go_wp2_with fail
        refine HZG.out.mono ?_
        rintro e yy ⟨rfl, rfl⟩
        go_wp2_with fail
        obtain ⟨A2, hA⟩ : ∃ A, A = y1.setCell ⟨wr.heap.size, 1, none⟩ (.int .i64 (zag (x1 : Nat))) := ⟨_, rfl⟩
        rw [← hA]
        have HX2 : Hid (BoxAt A2 wr.heap.size #[.int .i64 (zag (x0 : Nat)), .int .i64 (zag (x1 : Nat)), .int .i64 0, .int .i64 0] 99) := by rw [hA]; exact BoxAt.set HXY.out 1 _
        have HN2 : Hid (But (w.heap.size + 1) wr A2) := by rw [hA]; exact HNY.out.setNew (Nat.le_refl _) _
        have HT2 : Hid (TkAt A2 (w.heap.size + 1) a n c tt2) := by
          rw [hA]
          exact BoxAt.but HTY.out (lb := wr.heap.size) ((But.refl _ _).set _) (by omega)
        clear hA cx fx HXY HNY HTY hzy HZG
        obtain ⟨⟨x2, tt3⟩, ex2⟩ : ∃ D, tk zs tt2 = D := ⟨_, rfl⟩
        have hxl2 := tk_lt HZ.out tt2
        have EX2 := Lib.hid ex2
        have hbw2 : Below w.heap.size w A2 := HB.out.trans (HN2.out.below (by omega) (by omega))
        refine (HTM.out A2 tt2 hbw2 HT2.out).mono ?_
        rw [ex2] at hxl2 ⊢
        rintro e y2 ⟨rfl, ht, hbt⟩
        simp only [] at hxl2
        have hzy := HN2.out.size
        have HXY := Lib.hid (BoxAt.but HX2.out hbt (by omega))
        have HNY := Lib.hid (HN2.out.trans hbt)
        have HTY := Lib.hid ht
        have cx := BoxAt.cell HXY.out (i := 2) rfl
        have fx := BoxAt.fz HXY.out 2
        have HZG := Lib.hid (rzag_any (x2 : Nat) y2 (by omega) (by omega))
        clear ht hbt hbw2 HX2 HN2 HT2 ex2
        go_wp2_with fail
        refine HZG.out.mono ?_
        rintro e yy ⟨rfl, rfl⟩
        go_wp2_with fail
        obtain ⟨A3, hA⟩ : ∃ A, A = y2.setCell ⟨wr.heap.size, 2, none⟩ (.int .i64 (zag (x2 : Nat))) := ⟨_, rfl⟩
        rw [← hA]
        have HX3 : Hid (BoxAt A3 wr.heap.size #[.int .i64 (zag (x0 : Nat)), .int .i64 (zag (x1 : Nat)), .int .i64 (zag (x2 : Nat)), .int .i64 0] 99) := by rw [hA]; exact BoxAt.set HXY.out 2 _
        have HN3 : Hid (But (w.heap.size + 1) wr A3) := by rw [hA]; exact HNY.out.setNew (Nat.le_refl _) _
        have HT3 : Hid (TkAt A3 (w.heap.size + 1) a n c tt3) := by
          rw [hA]
          exact BoxAt.but HTY.out (lb := wr.heap.size) ((But.refl _ _).set _) (by omega)
        clear hA cx fx HXY HNY HTY hzy HZG
        obtain ⟨⟨x3, tt4⟩, ex3⟩ : ∃ D, tk zs tt3 = D := ⟨_, rfl⟩
        have hxl3 := tk_lt HZ.out tt3
        have EX3 := Lib.hid ex3
        have hbw3 : Below w.heap.size w A3 := HB.out.trans (HN3.out.below (by omega) (by omega))
        refine (HTM.out A3 tt3 hbw3 HT3.out).mono ?_
        rw [ex3] at hxl3 ⊢
        rintro e y3 ⟨rfl, ht, hbt⟩
        simp only [] at hxl3
        have hzy := HN3.out.size
        have HXY := Lib.hid (BoxAt.but HX3.out hbt (by omega))
        have HNY := Lib.hid (HN3.out.trans hbt)
        have HTY := Lib.hid ht
        have cx := BoxAt.cell HXY.out (i := 3) rfl
        have fx := BoxAt.fz HXY.out 3
        have HZG := Lib.hid (rzag_any (x3 : Nat) y3 (by omega) (by omega))
        clear ht hbt hbw3 HX3 HN3 HT3 ex3
        go_wp2_with fail
        refine HZG.out.mono ?_
        rintro e yy ⟨rfl, rfl⟩
        go_upto_region 11 with fail
        obtain ⟨A4, hA⟩ : ∃ A, A = y3.setCell ⟨wr.heap.size, 3, none⟩ (.int .i64 (zag (x3 : Nat))) := ⟨_, rfl⟩
        rw [← hA]
        have HX4 : Hid (BoxAt A4 wr.heap.size #[.int .i64 (zag (x0 : Nat)), .int .i64 (zag (x1 : Nat)), .int .i64 (zag (x2 : Nat)), .int .i64 (zag (x3 : Nat))] 99) := by rw [hA]; exact BoxAt.set HXY.out 3 _
        have HN4 : Hid (But (w.heap.size + 1) wr A4) := by rw [hA]; exact HNY.out.setNew (Nat.le_refl _) _
        have HT4 : Hid (TkAt A4 (w.heap.size + 1) a n c tt4) := by
          rw [hA]
          exact BoxAt.but HTY.out (lb := wr.heap.size) ((But.refl _ _).set _) (by omega)
        clear hA cx fx HXY HNY HTY hzy HZG
        have HRDA := Lib.hid (HRD.out.turned HT4.out HN4.out (by omega) (by omega))
        have HBA := Lib.hid (HB.out.trans (HN4.out.below (by omega) (by omega)))
        have hza := HN4.out.size
        have hlen : Hid (ps.length ≤ 2001) := by
          have h1 := (readPut_len HZ.out v2 t2 hp2.out).1
          rw [HL.out, HZN.out] at h1
          simp only [List.length_append] at h1
          unfold Hid
          omega
        have hlis : is.length ≤ 2001 := by rw [HIS.out, List.length_map]; exact hlen.out
        have hlcs : cs.length ≤ 2001 := by rw [HCS.out, List.length_map]; exact hlen.out
        have d0 := BoxAt.cell HX4.out (i := 0) rfl
        have d1 := BoxAt.cell HX4.out (i := 1) rfl
        have d2 := BoxAt.cell HX4.out (i := 2) rfl
        have d3 := BoxAt.cell HX4.out (i := 3) rfl
        have g1 := BoxAt.cell HRDA.out.st (i := 1) rfl
        obtain ⟨a', c', w', hrun, hst, hrd, hbel⟩ := HRDA.out.push_inp ⟨zag (x0 : Nat), zag (x1 : Nat), zag (x2 : Nat), zag (x3 : Nat)⟩ (by omega) (by omega) (by omega) (by omega)
        obtain ⟨is', his'⟩ : ∃ r', is ++ [(⟨zag (x0 : Nat), zag (x1 : Nat), zag (x2 : Nat), zag (x3 : Nat)⟩ : Inp)] = r' := ⟨_, rfl⟩
        rw [his'] at hrun hrd hbel
        have HIE := Lib.hid his'
        have j1 := BoxAt.cell hst (i := 1) rfl
        have jf := BoxAt.fz hst 1
        simp only [] at hrun
        obtain ⟨B1, hB1⟩ : ∃ B1, B1 = w'.setCell ⟨w3.heap.size, 1, none⟩ (.slice a' is'.length c') := ⟨_, rfl⟩
        rw [← hB1] at hrd hbel
        have HRDB := Lib.hid hrd
        have HBB := Lib.hid (HBA.out.trans (hbel w.heap.size (by omega) (by omega)))
        have hzb := (hbel w.heap.size (by omega) (by omega)).size
        have HBE := Lib.hid hB1
        clear HX4 HT4 HN4 HRDA HBA hst hrd hbel his' HRD HB hB1
        go_upto_region 12 with (at_builtin; refine Lib.wpList_append_run _ rfl _ _ _ _ rfl _ _ rfl rfl _ _ hrun ?_)
        rw [← HBE.out]
        clear HBE j1 jf d0 d1 d2 d3 g1 hrun
        obtain ⟨⟨x4, tt5⟩, ex4⟩ : ∃ D, sm zs tt4 = D := ⟨_, rfl⟩
        have hxl4 := sm_le zs tt4
        have EX4 := Lib.hid ex4
        rw [ex4] at hxl4
        simp only [] at hxl4
        have HCL := Lib.hid fun (V : World) (h1 : Below w.heap.size w V) (h2 : TkAt V (w.heap.size + 1) a n c tt4) => (by
          have := HSM.out V tt4 h1 h2
          rw [ex4] at this
          exact this : Calls Tryz.prog 48 #[.pointer (some ⟨w.heap.size + 1, 0, none⟩)] V fun e w' => e = .returned (.int .i64 (x4 : Nat)) ∧ TkAt w' (w.heap.size + 1) a n c tt5 ∧ But (w.heap.size + 1) V w')
        have hxw : IntKind.i64.wrap (x4 : Int) = (x4 : Int) := by
          simp only [IntKind.wrap_i64]
          omega
        clear ex4
        have g2 := BoxAt.cell HRDB.out.st (i := 2) rfl
        have gf := BoxAt.fz HRDB.out.st 2
        have hBB := HBB.out
        have hTB := HRDB.out.tk
        have HGL : Hid (cs.length ≤ 2001) := hlcs
        have HIE2 : Hid (is'.length = is.length + 1) := by rw [← HIE.out, List.length_append]; rfl
        clear hlcs hlis hlen
        go_region_law (first
          | (refine step_append_of rfl _ _ _ rfl rfl rfl hrun8 ?_)
          | (refine step_call_one rfl _ _ _ rfl Tryz.func48 (by decide) rfl rfl (HCL.out _ (by first | exact hBB | exact Below.drew hBB) (by first | exact hTB | exact BoxAt.drew hTB)) ?_; rintro e y ⟨rfl, ht, hbt⟩; refine ⟨_, rfl, ?_⟩
             have hbt2 : But (w.heap.size + 1) B1 y := by first | exact hbt | exact ((But.refl _ _).drew).trans hbt
             have HRDY := Lib.hid (HRDB.out.turned ht hbt2 (by omega) (by omega))
             have HBY := Lib.hid (HBB.out.trans (hbt2.below (by omega) (by omega)))
             have hzy := hbt2.size
             have g3 := BoxAt.cell HRDY.out.st (i := 2) rfl
             have g4 := (BoxAt.calls HRDY.out.st ((Below.refl _ y).alloc (Nat.le_refl _) (.cells #[.int .i64 (x4 : Nat)] 28))).cell (i := 2) rfl
             obtain ⟨b', d', w8, hrun8, hst8, hrd8, hbel8⟩ := HRDY.out.push_err (x4 : Nat) (by have := HGL.out; omega) (by omega) (by omega) (by omega)
             obtain ⟨cs', hcs'⟩ : ∃ r', cs ++ [(x4 : Int)] = r' := ⟨_, rfl⟩
             rw [hcs'] at hrun8 hrd8 hbel8
             have HCE := Lib.hid hcs'
             clear hcs'
             have j2 := BoxAt.cell hst8 (i := 2) rfl
             have jf2 := BoxAt.fz hst8 2))
        all_goals
          have HRD9 := Lib.hid hrd8
          have HB9 := Lib.hid (HBY.out.trans (hbel8 w.heap.size (by omega) (by omega)))
          have hz9 := (hbel8 w.heap.size (by omega) (by omega)).size
          obtain ⟨ps', hps'⟩ : ∃ r', ps ++ [((⟨zag (x0 : Nat), zag (x1 : Nat), zag (x2 : Nat), zag (x3 : Nat)⟩ : Inp), (x4 : Int))] = r' := ⟨_, rfl⟩
          have HL9 : Hid (readPut zs v2 t2 = (ps' ++ (readPut zs k' tt5).1, (readPut zs k' tt5).2)) := by
            unfold Hid
            rw [← hps', HL.out, readPut_more HO.out, onePut_of EX0.out EX1.out EX2.out EX3.out EX4.out, List.append_assoc]
            rfl
          have HIS9 : Hid (is' = ps'.map Prod.fst) := by unfold Hid; rw [← hps', ← HIE.out, HIS.out, List.map_append]; rfl
          have HCS9 : Hid (cs' = ps'.map Prod.snd) := by unfold Hid; rw [← hps', ← HCE.out, HCS.out, List.map_append]; rfl
          clear hps' hrd8 hbel8 hst8 hrun8 g2 gf g3 g4 j2 jf2 ht hbt hbt2 HRDY HBY HRDB HBB hBB hTB HCL HCE HIE HIE2 HGL
          go_wp2_with fail
          go_roundg k'
          case measure => omega
          case rel => exact ⟨k', tt5, _, _, _, _, ps', is', cs', by go_num, Nat.le_refl _, by omega, HIS9.out, HCS9.out, HRD9.out, HB9.out, HL9.out, by omega⟩
      · have HLF : Hid (readPut zs v2 t2 = (ps, t)) := by
          have h1 := HL.out
          have h2 : readPut zs k t = ([], t) := by
            rcases Nat.eq_zero_or_pos k with rfl | hk
            · rfl
            · exact readPut_o zs k (by simpa [hk] using hgo)
          rw [h2, List.append_nil] at h1
          exact h1
        have HRF := Lib.hid HRD.out
        have HBF := Lib.hid HB.out
        clear HL HRD HB
        rcases Nat.eq_zero_or_pos k with hk | hk
        · subst hk
          go_wp2_with fail
          all_goals go_meet
          all_goals exact ⟨t, sa, sb, sc, sd, ps, is, cs, HIS.out, HCS.out, HRF, HBF, HLF, hzr⟩
        · have hob : t.o = true := by simpa [hk] using hgo
          rw [hob] at q2
          clear hgo hob
          go_wp2_with fail
          all_goals go_meet
          all_goals exact ⟨t, sa, sb, sc, sd, ps, is, cs, HIS.out, HCS.out, HRF, HBF, HLF, hzr⟩
  case rest =>
    obtain ⟨t3, sa1, sb1, sc1, sd1, ps, is, cs, hps, hcs, HRD, HB, HL1, hzc⟩ := hcut
    have HPS := Lib.hid hps
    have HCS := Lib.hid hcs
    clear hps hcs
    have ht3 := HRD.out.tk
    go_wp2_with fail
    obtain ⟨⟨v4, t4⟩, e4⟩ : ∃ D, sm zs t3 = D := ⟨_, rfl⟩
    have HE4 := Lib.hid e4
    clear e4
    have hv4 := sm_le zs t3
    rw [HE4.out] at hv4
    simp only [] at hv4
    refine (HSM.out wc t3 HB.out ht3).mono ?_
    rw [HE4.out]
    rintro e w5 ⟨rfl, ht4x, hbt4⟩
    have HRD5 := Lib.hid (HRD.out.turned ht4x hbt4 (by omega) (by omega))
    have HB5 := Lib.hid (HB.out.trans (hbt4.below (by omega) (by omega)))
    have hz5 := hbt4.size
    clear ht4x hbt4 HRD HB ht3
    go_upto_block 2 with fail
    go_cut [8] from 14 (fun _ V => ∃ (t : Tk) (sw : Option Addr) (sx : Nat) (ws : List Int), Hid (ws.length ≤ 100000) ∧ Hid (Rdr V (w.heap.size + 2) w.heap.size (w.heap.size + 1) w3.heap.size a n c t ⟨v1, sa1, is.length, sc1, sb1, cs.length, sd1, sw, ws.length, sx, 0⟩ ⟨v1, is, cs, ws, 0⟩) ∧ Hid (Below w.heap.size w V) ∧ Hid (readW zs v4 [] t4 = some (ws, t)) ∧ w4.heap.size ≤ V.heap.size)
    case first =>
      go_wp2_with fail
      go_loopg [8] v4 (fun gg i wr => ∃ (k : Nat) (t : Tk) (sw : Option Addr) (sx L : Nat) (ws : List Int), i = .int .i64 k ∧ k ≤ gg ∧ k ≤ 2147483648 ∧ L ≤ 100000 ∧ Hid (ws.length = L) ∧ Hid (Rdr wr (w.heap.size + 2) w.heap.size (w.heap.size + 1) w3.heap.size a n c t ⟨v1, sa1, is.length, sc1, sb1, cs.length, sd1, sw, L, sx, 0⟩ ⟨v1, is, cs, ws, 0⟩) ∧ Hid (Below w.heap.size w wr) ∧ Hid (readW zs v4 [] t4 = readW zs k ws t) ∧ w4.heap.size ≤ wr.heap.size)
      case atStart => exact ⟨v4, t4, none, 0, 0, [], rfl, Nat.le_refl _, hv4, by omega, rfl, HRD5.out, HB5.out, rfl, by omega⟩
      case round =>
        clear HRD5 HB5
        obtain ⟨k, t, sw, sx, L, ws, rfl, hkg, hk31, hL, HWL, HRD, HB, HL, hzr⟩ := hrel
        have q2 := HRD.out.tk.c2
        by_cases hgo : 0 < k ∧ t.o = false
        · obtain ⟨hk0, ho⟩ := hgo
          have HO := Lib.hid ho
          rw [ho] at q2
          obtain ⟨k', rfl⟩ : ∃ k', k = k' + 1 := ⟨k - 1, by omega⟩
          have hk1 : (0 : Int) < (k' : Int) + 1 := by omega
          obtain ⟨⟨y0, u1⟩, ey0⟩ : ∃ D, sm zs t = D := ⟨_, rfl⟩
          have EY0 := Lib.hid ey0
          have hy0 := sm_le zs t
          rw [ey0] at hy0
          simp only [] at hy0
          obtain ⟨⟨y1, u2⟩, ey1⟩ : ∃ D, sm zs u1 = D := ⟨_, rfl⟩
          have EY1 := Lib.hid ey1
          have hy1 := sm_le zs u1
          rw [ey1] at hy1
          simp only [] at hy1
          have htk := HRD.out.tk
          have hw1 : IntKind.i64.wrap ((y1 : Int) + 1) = (y1 : Int) + 1 := by simp only [IntKind.wrap_i64]; omega
          have hw2 : IntKind.i64.wrap ((L : Int) + ((y1 : Int) + 1)) = (L : Int) + ((y1 : Int) + 1) := by simp only [IntKind.wrap_i64]; omega
          clear ho ey0 ey1
          go_wp2_with fail
          clear q2
          refine (HSM.out wr t HB.out htk).mono ?_
          rw [EY0.out]
          rintro e z1 ⟨rfl, ht1, hbt1⟩
          have HRDA := Lib.hid (HRD.out.turned ht1 hbt1 (by omega) (by omega))
          have HBA := Lib.hid (HB.out.trans (hbt1.below (by omega) (by omega)))
          have hza := hbt1.size
          have htk1 := HRDA.out.tk
          clear ht1 hbt1 htk HRD HB
          go_wp2_with fail
          refine (HSM.out z1 u1 HBA.out htk1).mono ?_
          rw [EY1.out]
          rintro e z2 ⟨rfl, ht2, hbt2⟩
          have HRDB := Lib.hid (HRDA.out.turned ht2 hbt2 (by omega) (by omega))
          have HBB := Lib.hid (HBA.out.trans (hbt2.below (by omega) (by omega)))
          have hzb := hbt2.size
          clear ht2 hbt2 htk1 HRDA HBA
          have g3 := BoxAt.cell HRDB.out.st (i := 3) rfl
          by_cases hbig : 100000 < L + (y1 + 1)
          · have hbig' : (100000 : Int) < (L : Int) + ((y1 : Int) + 1) := by omega
            have HNE : Hid (¬ ∃ x, CanR x ∧ WfR x ∧ x.ws.length ≤ 100000 ∧ encR x = zs) := noRec HZN.out hn (readRc_none HE1.out HE2.out HL1.out HE4.out (HL.out.trans (readW_big HO.out EY0.out EY1.out (by rw [HWL.out]; exact hbig))))
            have HRZ := Lib.hid HRDB.out.res
            obtain ⟨q0, q1, q2, q3, q4⟩ : z2.cell? ⟨w.heap.size, 0, none⟩ = some (.int .i64 0) ∧ z2.cell? ⟨w.heap.size, 1, none⟩ = some (.slice none 0 0) ∧ z2.cell? ⟨w.heap.size, 2, none⟩ = some (.slice none 0 0) ∧ z2.cell? ⟨w.heap.size, 3, none⟩ = some (.slice none 0 0) ∧ z2.cell? ⟨w.heap.size, 4, none⟩ = some (.int .u32 0) := ⟨BoxAt.cell HRZ.out (i := 0) rfl, BoxAt.cell HRZ.out (i := 1) rfl, BoxAt.cell HRZ.out (i := 2) rfl, BoxAt.cell HRZ.out (i := 3) rfl, BoxAt.cell HRZ.out (i := 4) rfl⟩
            have f0 := BoxAt.fz HRZ.out 0
            have f1 := BoxAt.fz HRZ.out 1
            have f2 := BoxAt.fz HRZ.out 2
            have f3 := BoxAt.fz HRZ.out 3
            have f4 := BoxAt.fz HRZ.out 4
            go_wp2_with fail
            refine bodyPost_ret (v := .tuple #[.agg #[.int .i64 0, .slice none 0 0, .slice none 0 0, .slice none 0 0, .int .u32 0], .int .i64 3]) (by simp [results, Tryz.results25, go_sem, q0, q1, q2, q3, q4]) rfl ⟨⟨0, none, 0, 0, none, 0, 0, none, 0, 0, 0⟩, 3, by first | rfl | trivial, .inr ⟨rfl, rfl, HNE.out⟩, ?_⟩
            exact HBB.out.trans ((((((But.refl w.heap.size _).set _).set _).set _).set _).set _ |>.below (Nat.le_refl _) HBB.out.size)
          · have hbig' : decide ((100000 : Int) < (L : Int) + ((y1 : Int) + 1)) = false := by simp; omega
            have HBIG := Lib.hid hbig
            have hLy : L + (y1 + 1) ≤ 100000 := by omega
            have HLY := Lib.hid hLy
            clear hbig hLy
            have q3 := HRDB.out.tk.c2
            by_cases ho2 : u2.o = true
            · have HL9 : Hid (readW zs v4 [] t4 = readW zs k' ws u2) := HL.out.trans (readW_odd HO.out EY0.out EY1.out (by rw [HWL.out]; exact HBIG.out) ho2)
              rw [ho2] at q3
              clear ho2
              go_wp2_with fail
              go_loopg [11] 1 (fun g2 i wz => wz = z2 ∧ i = .int .i64 0)
              case atStart => exact ⟨rfl, rfl⟩
              case round =>
                obtain ⟨hwz, rfl⟩ := hrel
                obtain rfl : z2 = wr := hwz.symm
                clear hwz
                go_wp2_with fail
                go_roundg k'
                case measure => omega
                case rel => exact ⟨k', u2, sw, sx, L, ws, by go_num, Nat.le_refl _, by omega, hL, HWL.out, HRDB.out, HBB.out, HL9.out, by omega⟩
            · have ho2' : u2.o = false := by simpa using ho2
              have HL9 : Hid (readW zs v4 [] t4 = readW zs k' (ws ++ List.replicate (y1 + 1) (y0 : Int)) u2) := HL.out.trans (readW_go HO.out EY0.out EY1.out (by rw [HWL.out]; exact HBIG.out) ho2')
              have HO2 := Lib.hid ho2'
              clear ho2 ho2' q3
              go_wp2_with fail
              clear g3
              go_loopg [11] (y1 + 1) (fun g2 i wz => ∃ (j : Nat) (sw2 : Option Addr) (sx2 : Nat), i = .int .i64 j ∧ j + g2 = y1 + 1 ∧ Hid (Rdr wz (w.heap.size + 2) w.heap.size (w.heap.size + 1) w3.heap.size a n c u2 ⟨v1, sa1, is.length, sc1, sb1, cs.length, sd1, sw2, L + j, sx2, 0⟩ ⟨v1, is, cs, ws ++ List.replicate j (y0 : Int), 0⟩) ∧ Hid (Below w.heap.size w wz) ∧ w4.heap.size ≤ wz.heap.size)
              case atStart => exact ⟨0, sw, sx, rfl, by omega, by simpa [Hid] using HRDB.out, HBB.out, by omega⟩
              case round =>
                clear HRDB HBB
                obtain ⟨j, sw2, sx2, rfl, hjg, HRJ, HBJ, hzj⟩ := hrel
                have q3 := HRJ.out.tk.c2
                rw [HO2.out] at q3
                by_cases hj : j < y1 + 1
                · have hj' : (j : Int) < (y1 : Int) + 1 := by omega
                  have g3 := BoxAt.cell HRJ.out.st (i := 3) rfl
                  obtain ⟨a', c', w8, hrun, hst, hrd, hbel⟩ := HRJ.out.push_way (y0 : Nat) (by have := HLY.out; rw [List.length_append, List.length_replicate, HWL.out]; omega) (by omega) (by omega) (by omega)
                  rw [List.append_assoc, ← List.replicate_succ'] at hrun hrd hbel
                  have hll : (ws ++ List.replicate (j + 1) ((y0 : Nat) : Int)).length = L + (j + 1) := by rw [List.length_append, List.length_replicate, HWL.out]
                  rw [hll] at hrun hrd hbel
                  have j3 := BoxAt.cell hst (i := 3) rfl
                  have jf := BoxAt.fz hst 3
                  have HRN := Lib.hid hrd
                  have HBN := Lib.hid (HBJ.out.trans (hbel w.heap.size (by omega) (by omega)))
                  have hzn := (hbel w.heap.size (by omega) (by omega)).size
                  clear hst hrd hbel hll HRJ HBJ
                  go_wp2_with (at_builtin; refine Lib.wpList_append_run _ rfl _ _ _ _ rfl _ _ rfl rfl _ _ hrun ?_)
                  go_roundg (gk - 1)
                  case measure => omega
                  case rel => exact ⟨j + 1, a', c', by go_num, by omega, HRN.out, HBN.out, by omega⟩
                · obtain rfl : j = y1 + 1 := by omega
                  have hnj : ¬ ((y1 : Int) + 1 < (y1 : Int) + 1) := by omega
                  go_wp2_with fail
                  go_roundg k'
                  case measure => omega
                  case rel => exact ⟨k', u2, sw2, sx2, L + (y1 + 1), ws ++ List.replicate (y1 + 1) (y0 : Int), by go_num, Nat.le_refl _, by omega, HLY.out, by (unfold Hid; rw [List.length_append, List.length_replicate, HWL.out]), HRJ.out, HBJ.out, HL9.out, hzj⟩
        · have HLF : Hid (readW zs v4 [] t4 = some (ws, t)) := by
            have h1 := HL.out
            have h2 : readW zs k ws t = some (ws, t) := by
              rcases Nat.eq_zero_or_pos k with rfl | hk
              · rfl
              · exact readW_o zs k ws (by simpa [hk] using hgo)
            rw [h2] at h1
            exact h1
          obtain rfl : L = ws.length := HWL.out.symm
          have HRF := Lib.hid HRD.out
          have HBF := Lib.hid HB.out
          have HLL := Lib.hid hL
          clear HL HRD HB
          rcases Nat.eq_zero_or_pos k with hk | hk
          · subst hk
            go_wp2_with fail
            all_goals go_meet
            all_goals exact ⟨t, sw, sx, ws, HLL.out, HRF, HBF, HLF, hzr⟩
          · have hob : t.o = true := by simpa [hk] using hgo
            rw [hob] at q2
            clear hgo hob
            go_wp2_with fail
            all_goals go_meet
            all_goals exact ⟨t, sw, sx, ws, HLL.out, HRF, HBF, HLF, hzr⟩
    case rest =>
      obtain ⟨t5, sw, sx, ws, hwl, HRD, HB, HL5w, hzc2⟩ := hcut
      have HWL := Lib.hid hwl
      clear hwl
      have ht5 := HRD.out.tk
      go_wp2_with fail
      have hck := tk_lt HZ.out t5
      obtain ⟨⟨k0, t6⟩, e6⟩ : ∃ D, tk zs t5 = D := ⟨_, rfl⟩
      have HE6 := Lib.hid e6
      rw [e6] at hck
      simp only [] at hck
      clear e6
      refine (HTM.out wc t5 HB.out ht5).mono ?_
      rw [HE6.out]
      rintro e w6 ⟨rfl, ht6, hbt6⟩
      have HRD6 := Lib.hid (HRD.out.turned ht6 hbt6 (by omega) (by omega))
      have HB6 := Lib.hid (HB.out.trans (hbt6.below (by omega) (by omega)))
      have hz6 := hbt6.size
      have c4 := BoxAt.cell HRD6.out.st (i := 4) rfl
      have cf := BoxAt.fz HRD6.out.st 4
      obtain ⟨ck, hckm⟩ : ∃ ck, k0 % 4294967296 = ck := ⟨_, rfl⟩
      have hckl : ck < 4294967296 := by rw [← hckm]; exact Nat.mod_lt _ (by omega)
      have hrm2 : ((k0 : Int) % 4294967296) = (ck : Int) := by omega
      have hrm : ((k0 : Int).tmod 4294967296) = (ck : Int) := by
        rw [Int.tmod_eq_emod_of_nonneg (by omega)]
        exact hrm2
      have HCM := Lib.hid hckm
      have hwk : IntKind.u32.wrap (ck : Int) = (ck : Int) := by simp only [IntKind.wrap_u32]; omega
      have hwk2 : IntKind.u64.wrap (ck : Int) = (ck : Int) := by simp only [IntKind.wrap_u64]; omega
      clear hckm
      clear ht6 hbt6 HRD HB ht5
      go_upto_region 25 with fail
      have HRD7 := Lib.hid (HRD6.out.setCk (ck : Nat) (by omega) (by omega))
      have hk7 : But w3.heap.size w6 (w6.setCell ⟨w3.heap.size, 4, none⟩ (.int .u32 (ck : Nat))) := (But.refl _ _).set _
      have HB7 := Lib.hid (HB6.out.trans (hk7.below (show w.heap.size ≤ w3.heap.size by omega) HB6.out.size))
      obtain ⟨w7, hw7⟩ : ∃ w7, w7 = w6.setCell ⟨w3.heap.size, 4, none⟩ (.int .u32 (ck : Nat)) := ⟨_, rfl⟩
      rw [← hw7] at HRD7 HB7 ⊢
      have hz7 : w6.heap.size ≤ w7.heap.size := by rw [hw7]; exact hk7.size
      have hRD : Hid (readRc zs = some (⟨v1, is, cs, ws, ck⟩, t6)) := by
        have h1 := readRc_of HE1.out HE2.out HL1.out HE4.out HL5w.out
        rw [HE6.out, ← HPS.out, ← HCS.out, HCM.out] at h1
        exact h1
      have HWF : Hid (WfR ⟨v1, is, cs, ws, ck⟩) := by
        refine ⟨fun p hp => ?_, ⟨by show (0 : Int) ≤ ck; omega, by show (ck : Int) < 4294967296; omega⟩⟩
        have hp' : p ∈ ps.map Prod.fst := by rw [← HPS.out]; exact hp
        obtain ⟨q, hq, rfl⟩ := List.mem_map.1 hp'
        have h1 := readPut_wf HZ.out v2 t2 q
        rw [HL1.out] at h1
        exact h1 hq
      have HLI : Hid (is.length ≤ 2001) := by
        have h1 := (readPut_len HZ.out v2 t2 hp2.out).1
        rw [HL1.out, HZN.out] at h1
        simp only [] at h1
        unfold Hid
        rw [HPS.out, List.length_map]
        omega
      have HOne : Hid (∀ x, CanR x → WfR x → x.ws.length ≤ 100000 → encR x = zs → x = ⟨v1, is, cs, ws, ck⟩ ∧ t6.o = false) := fun x hc hw hl he => by
        obtain ⟨t', e1, e2⟩ := readRc_enc hc hw (Nat.le_trans (encR_ins (N := 2000) hc (by rw [he, HZN.out]; exact hn)) (by omega)) hl
        rw [he, hRD.out] at e1
        injection e1 with e1
        obtain ⟨r1, r2⟩ := Prod.mk.inj e1
        exact ⟨r1.symm, by rw [r2]; exact e2⟩
      have HCP := Lib.hid (rcodP_any ⟨v1, sa1, is.length, sc1, sb1, cs.length, sd1, sw, ws.length, sx, ck⟩ ⟨v1, is, cs, ws, ck⟩ w7 HRD7.out.c.rhIn HWF.out ⟨by have := HLI.out; show is.length ≤ 2001; omega, HWL.out⟩)
      have d0 := BoxAt.cell HRD7.out.st (i := 0) rfl
      have d1 := BoxAt.cell HRD7.out.st (i := 1) rfl
      have d2 := BoxAt.cell HRD7.out.st (i := 2) rfl
      have d3 := BoxAt.cell HRD7.out.st (i := 3) rfl
      have d4 := BoxAt.cell HRD7.out.st (i := 4) rfl
      clear hw7 hk7 c4 cf HRD6 HB6 hrm hrm2
      go_wp2_with fail
      refine HCP.out.mono ?_
      rintro e w8 ⟨v, er, rfl, hc1, hc2, hb8⟩
      have HT8 := Lib.hid (show TkAt w8 (w.heap.size + 1) a n c t6 from BoxAt.calls HRD7.out.tk hb8)
      have HR8 := Lib.hid (BoxAt.calls HRD7.out.res hb8)
      have HS8 := Lib.hid (BoxAt.calls HRD7.out.st hb8)
      have HC8 := Lib.hid (HRD7.out.c.calls hb8)
      have HB8 := Lib.hid (HB7.out.trans (hb8.mono (by omega)))
      have k2 := HT8.out.c2
      have hz8 := hb8.size
      clear d0 d1 d2 d3 d4 HRD7 HB7 HCP hRD hb8
      by_cases ho : t6.o = true
      · have HNE : Hid (¬ ∃ x, CanR x ∧ WfR x ∧ x.ws.length ≤ 100000 ∧ encR x = zs) := by
          rintro ⟨x, h1, h2, h3, he⟩
          have := (HOne.out x h1 h2 h3 he).2
          rw [ho] at this
          cases this
        rw [ho] at k2
        clear hc1 hc2 ho
        obtain ⟨q0, q1, q2, q3, q4⟩ : w8.cell? ⟨w.heap.size, 0, none⟩ = some (.int .i64 0) ∧ w8.cell? ⟨w.heap.size, 1, none⟩ = some (.slice none 0 0) ∧ w8.cell? ⟨w.heap.size, 2, none⟩ = some (.slice none 0 0) ∧ w8.cell? ⟨w.heap.size, 3, none⟩ = some (.slice none 0 0) ∧ w8.cell? ⟨w.heap.size, 4, none⟩ = some (.int .u32 0) := ⟨BoxAt.cell HR8.out (i := 0) rfl, BoxAt.cell HR8.out (i := 1) rfl, BoxAt.cell HR8.out (i := 2) rfl, BoxAt.cell HR8.out (i := 3) rfl, BoxAt.cell HR8.out (i := 4) rfl⟩
        have f0 := BoxAt.fz HR8.out 0
        have f1 := BoxAt.fz HR8.out 1
        have f2 := BoxAt.fz HR8.out 2
        have f3 := BoxAt.fz HR8.out 3
        have f4 := BoxAt.fz HR8.out 4
        go_wp2_with fail
        refine bodyPost_ret (v := .tuple #[.agg #[.int .i64 0, .slice none 0 0, .slice none 0 0, .slice none 0 0, .int .u32 0], .int .i64 3]) (by simp [results, Tryz.results25, go_sem, q0, q1, q2, q3, q4]) rfl ⟨⟨0, none, 0, 0, none, 0, 0, none, 0, 0, 0⟩, 3, by first | rfl | trivial, .inr ⟨rfl, rfl, HNE.out⟩, ?_⟩
        exact HB8.out.trans ((((((But.refl w.heap.size _).set _).set _).set _).set _).set _ |>.below (Nat.le_refl _) HB8.out.size)
      · have ho' : t6.o = false := by simpa using ho
        rw [ho'] at k2
        by_cases hcan : CanR ⟨v1, is, cs, ws, ck⟩
        · obtain ⟨rfl, hown⟩ := hc1 hcan
          obtain ⟨va, vc, hv, hrow⟩ := hown.slice
          obtain ⟨nl, hnl⟩ : ∃ nl, (encR ⟨v1, is, cs, ws, ck⟩).length = nl := ⟨_, rfl⟩
          rw [hnl] at hv hrow
          subst hv
          have HRZ := (HR.out w8 HB8.out).mono HB8.out.size
          have HSA := Lib.hid (same_any a va n c nl vc w8.heap.size zs (encR ⟨v1, is, cs, ws, ck⟩) w8 HRZ hrow)
          have HCAN := Lib.hid hcan
          by_cases he : zs = encR ⟨v1, is, cs, ws, ck⟩
          · have hsb : sameB zs (encR ⟨v1, is, cs, ws, ck⟩) = true := by unfold sameB; exact decide_eq_true he
            have HE := Lib.hid he
            rw [hsb] at HSA
            clear hc1 hc2 ho ho' hrow HRZ hcan he hsb hown hnl
            go_wp2_with fail
            refine HSA.out.mono ?_
            rintro e V ⟨rfl, mm, hV⟩
            have hbv : Below w8.heap.size w8 V := by rw [hV]; exact below_drewN (Below.refl _ _) mm
            have HRV := Lib.hid (BoxAt.calls HR8.out hbv)
            have HSV := Lib.hid (BoxAt.calls HS8.out hbv)
            have HCV := Lib.hid (HC8.out.calls hbv)
            have HBV := Lib.hid (HB8.out.trans (hbv.mono HB8.out.size))
            clear hV hbv k2
            have d0 := BoxAt.cell HSV.out (i := 0) rfl
            have d1 := BoxAt.cell HSV.out (i := 1) rfl
            have d2 := BoxAt.cell HSV.out (i := 2) rfl
            have d3 := BoxAt.cell HSV.out (i := 3) rfl
            have d4 := BoxAt.cell HSV.out (i := 4) rfl
            have q0 := BoxAt.cell HRV.out (i := 0) rfl
            have q1 := BoxAt.cell HRV.out (i := 1) rfl
            have q2 := BoxAt.cell HRV.out (i := 2) rfl
            have q3 := BoxAt.cell HRV.out (i := 3) rfl
            have q4 := BoxAt.cell HRV.out (i := 4) rfl
            have f0 := BoxAt.fz HRV.out 0
            have f1 := BoxAt.fz HRV.out 1
            have f2 := BoxAt.fz HRV.out 2
            have f3 := BoxAt.fz HRV.out 3
            have f4 := BoxAt.fz HRV.out 4
            have hws : w.heap.size ≠ w3.heap.size := by omega
            go_wp2_with fail
            have hkq : But w.heap.size V (((((V.setCell ⟨w.heap.size, 0, none⟩ (.int .i64 (v1 : Nat))).setCell ⟨w.heap.size, 1, none⟩ (.slice sa1 is.length sc1)).setCell ⟨w.heap.size, 2, none⟩ (.slice sb1 cs.length sd1)).setCell ⟨w.heap.size, 3, none⟩ (.slice sw ws.length sx)).setCell ⟨w.heap.size, 4, none⟩ (.int .u32 (ck : Nat))) := (((((But.refl _ _).set _).set _).set _).set _).set _
            have HCQ := (HCV.out.turned HRV.out hkq (by decide) (by decide) (by decide)).mono (B' := w.heap.size) (by omega)
            have HBQ := HBV.out.trans (hkq.below (Nat.le_refl _) HBV.out.size)
            refine bodyPost_ret (v := .tuple #[rhV ⟨v1, sa1, is.length, sc1, sb1, cs.length, sd1, sw, ws.length, sx, ck⟩, .int .i64 0]) (by simp [results, Tryz.results25, go_sem, q0, q1, q2, q3, q4]) rfl ⟨⟨v1, sa1, is.length, sc1, sb1, cs.length, sd1, sw, ws.length, sx, ck⟩, 0, by first | rfl | trivial, .inl ⟨rfl, ⟨v1, is, cs, ws, ck⟩, HCAN.out, HWF.out, HWL.out, HE.out.symm, HCQ⟩, HBQ⟩
          · have HNE : Hid (¬ ∃ x, CanR x ∧ WfR x ∧ x.ws.length ≤ 100000 ∧ encR x = zs) := by
              rintro ⟨x, h1, h2, h3, h4⟩
              rw [(HOne.out x h1 h2 h3 h4).1] at h4
              exact he h4.symm
            have hsb : sameB zs (encR ⟨v1, is, cs, ws, ck⟩) = false := by unfold sameB; exact decide_eq_false he
            rw [hsb] at HSA
            clear hc1 hc2 ho ho' hrow HRZ hcan he hsb hown hnl
            go_wp2_with fail
            refine HSA.out.mono ?_
            rintro e V ⟨rfl, mm, hV⟩
            have hbv : Below w8.heap.size w8 V := by rw [hV]; exact below_drewN (Below.refl _ _) mm
            have HRV := Lib.hid (BoxAt.calls HR8.out hbv)
            have HBV := Lib.hid (HB8.out.trans (hbv.mono HB8.out.size))
            clear hV hbv k2
            obtain ⟨q0, q1, q2, q3, q4⟩ : V.cell? ⟨w.heap.size, 0, none⟩ = some (.int .i64 0) ∧ V.cell? ⟨w.heap.size, 1, none⟩ = some (.slice none 0 0) ∧ V.cell? ⟨w.heap.size, 2, none⟩ = some (.slice none 0 0) ∧ V.cell? ⟨w.heap.size, 3, none⟩ = some (.slice none 0 0) ∧ V.cell? ⟨w.heap.size, 4, none⟩ = some (.int .u32 0) := ⟨BoxAt.cell HRV.out (i := 0) rfl, BoxAt.cell HRV.out (i := 1) rfl, BoxAt.cell HRV.out (i := 2) rfl, BoxAt.cell HRV.out (i := 3) rfl, BoxAt.cell HRV.out (i := 4) rfl⟩
            have f0 := BoxAt.fz HRV.out 0
            have f1 := BoxAt.fz HRV.out 1
            have f2 := BoxAt.fz HRV.out 2
            have f3 := BoxAt.fz HRV.out 3
            have f4 := BoxAt.fz HRV.out 4
            go_wp2_with fail
            refine bodyPost_ret (v := .tuple #[.agg #[.int .i64 0, .slice none 0 0, .slice none 0 0, .slice none 0 0, .int .u32 0], .int .i64 3]) (by simp [results, Tryz.results25, go_sem, q0, q1, q2, q3, q4]) rfl ⟨⟨0, none, 0, 0, none, 0, 0, none, 0, 0, 0⟩, 3, by first | rfl | trivial, .inr ⟨rfl, rfl, HNE.out⟩, ?_⟩
            exact HBV.out.trans ((((((But.refl w.heap.size _).set _).set _).set _).set _).set _ |>.below (Nat.le_refl _) HBV.out.size)
        · obtain ⟨rfl, rfl⟩ := hc2 hcan
          have HNE : Hid (¬ ∃ x, CanR x ∧ WfR x ∧ x.ws.length ≤ 100000 ∧ encR x = zs) := by
            rintro ⟨x, h1, h2, h3, h4⟩
            rw [(HOne.out x h1 h2 h3 h4).1] at h1
            exact hcan h1
          have h1e : ((1 : Int) != 0) = true := by decide
          clear hc1 hc2 ho ho' hcan
          obtain ⟨q0, q1, q2, q3, q4⟩ : w8.cell? ⟨w.heap.size, 0, none⟩ = some (.int .i64 0) ∧ w8.cell? ⟨w.heap.size, 1, none⟩ = some (.slice none 0 0) ∧ w8.cell? ⟨w.heap.size, 2, none⟩ = some (.slice none 0 0) ∧ w8.cell? ⟨w.heap.size, 3, none⟩ = some (.slice none 0 0) ∧ w8.cell? ⟨w.heap.size, 4, none⟩ = some (.int .u32 0) := ⟨BoxAt.cell HR8.out (i := 0) rfl, BoxAt.cell HR8.out (i := 1) rfl, BoxAt.cell HR8.out (i := 2) rfl, BoxAt.cell HR8.out (i := 3) rfl, BoxAt.cell HR8.out (i := 4) rfl⟩
          have f0 := BoxAt.fz HR8.out 0
          have f1 := BoxAt.fz HR8.out 1
          have f2 := BoxAt.fz HR8.out 2
          have f3 := BoxAt.fz HR8.out 3
          have f4 := BoxAt.fz HR8.out 4
          go_wp2_with fail
          refine bodyPost_ret (v := .tuple #[.agg #[.int .i64 0, .slice none 0 0, .slice none 0 0, .slice none 0 0, .int .u32 0], .int .i64 3]) (by simp [results, Tryz.results25, go_sem, q0, q1, q2, q3, q4]) rfl ⟨⟨0, none, 0, 0, none, 0, 0, none, 0, 0, 0⟩, 3, by first | rfl | trivial, .inr ⟨rfl, rfl, HNE.out⟩, ?_⟩
          exact HB8.out.trans ((((((But.refl w.heap.size _).set _).set _).set _).set _).set _ |>.below (Nat.le_refl _) HB8.out.size)
end Go.Proofs.YtplnaaokapilpaaGreatDoor.Vm
