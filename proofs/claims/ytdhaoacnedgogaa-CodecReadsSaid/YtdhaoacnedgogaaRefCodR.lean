/- The contract of the document's ReadState. -/
import Derived.Test.YtdhaoacnedgogaaRefCodS
import Derived.Test.YtdhaoacnedgogaaOwnRs
import Derived.Test.YtdhaoacnedgogaaSames
import Derived.Test.YtdhaoacnedgogaaStCopies
import Derived.Deep.CutRange
import Derived.Deep.DeepCutAuto
import Derived.Deep.CutBlock
import Derived.Deep.RegionLaw
import Derived.BigRegion
import Derived.BigQuiet
namespace Go.Proofs.Ytdhaoacnedgogaa.Vm
open Go Go.RowKit

/-- What the document's ReadState keeps: what reads, in block bt; the state so far, in block bs, its slices in memory of the call's own; the result, in block q, not laid yet. -/
structure Rdg (wr : World) (B q bt bs : Nat) (a : Option Addr) (n c : Nat) (t : Tk) (h : Sh) (s : St) : Prop where
  tk : TkAt wr bt a n c t
  res : BoxAt wr q #[.int .i64 0, .slice none 0 0, .slice none 0 0, .slice none 0 0] 26
  st : BoxAt wr bs #[.int .i64 h.t, .slice h.a1 h.n1 h.c1, .slice h.a2 h.n2 h.c2, .slice h.a3 h.n3 h.c3] 26
  c : CopyIn wr B h s
/-- A number was read. -/
theorem Rdg.turned {w w' : World} {B q bt bs : Nat} {a : Option Addr} {n c : Nat} {t t' : Tk} {h : Sh} {s : St} (r : Rdg w B q bt bs a n c t h s) (ht : TkAt w' bt a n c t') (hb : But bt w w') (h1 : q ≠ bt) (h2 : bs ≠ bt) : Rdg w' B q bt bs a n c t' h s :=
  ⟨ht, r.res.but hb h1, r.st.but hb h2, r.c.turned r.tk hb (by decide) (by decide) (by decide)⟩


theorem Rdg.push_rob {A : World} {B q bt bs : Nat} {a a1 a2 a3 : Option Addr} {n c n1 c1 n2 c2 n3 c3 : Nat} {t : Tk} {v tick : Int} {rs ts : List Rec} {bl : List Int} (r : Rdg A B q bt bs a n c t ⟨v, a1, n1, c1, a2, n2, c2, a3, n3, c3⟩ ⟨tick, rs, ts, bl⟩) (x : Rec) (hlen : rs.length ≤ 90000) (hB : B ≤ A.heap.size) (h1 : q ≠ bs) (h2 : bt ≠ bs) :
    ∃ a' c' w', (Builtin.append_ #[22, 22] 22 #[.slice a1 n1 c1, .slice (some ⟨A.heap.size, 0, none⟩) 1 1]).run Try.prog (A.alloc (.cells #[.int .i64 x.a, .int .i64 x.b, .int .i64 x.c, .int .i64 x.d, .int .i64 x.e] 51)) = .ok (.slice a' (rs ++ [x]).length c') w' ∧
      BoxAt w' bs #[.int .i64 v, .slice a1 n1 c1, .slice a2 n2 c2, .slice a3 n3 c3] 26 ∧
      Rdg (w'.setCell ⟨bs, 1, none⟩ (.slice a' (rs ++ [x]).length c')) B q bt bs a n c t ⟨v, a', (rs ++ [x]).length, c', a2, n2, c2, a3, n3, c3⟩ ⟨tick, rs ++ [x], ts, bl⟩ ∧ ∀ B0, B0 ≤ B → B0 ≤ bs → Below B0 A (w'.setCell ⟨bs, 1, none⟩ (.slice a' (rs ++ [x]).length c')) := by
  obtain ⟨v', w', hrun, hown, hg⟩ := append_rob r.c.rs x hlen hB
  obtain ⟨a', c', rfl⟩ := hown.slice
  have ho := r.c.rs
  have ap : ∀ {b : Nat} {cs : Array Value} {ty : TypeId}, BoxAt A b cs ty → 51 ≠ ty → BoxAt w' b cs ty := fun hk hne => (hg.block _ hk.lt (fun e => own_apart ho hk hne e.symm)).trans hk
  have hst := ap r.st (by decide)
  have hk2 : But bs w' (w'.setCell ⟨bs, 1, none⟩ (.slice a' (rs ++ [x]).length c')) := (But.refl _ _).set _
  have kp : ∀ {e : TypeId} {size m : Nat} {u : Value} {xs : List Value}, w'.ownsRow B e size u m xs → e ≠ 26 → (w'.setCell ⟨bs, 1, none⟩ (.slice a' (rs ++ [x]).length c')).ownsRow B e size u m xs := fun hh hne => World.ownsRow.kept hh hk2 (.inr (own_apart hh hst hne))
  refine ⟨a', c', w', hrun, hst, ⟨(ap r.tk (by decide)).but hk2 h2, (ap r.res (by decide)).but hk2 h1, BoxAt.set hst 1 _, ⟨r.c.tick, ?_, ?_, ?_, ?_, ?_, ?_⟩⟩, fun B0 hb hb2 => ?_⟩
  · exact kp hown (by decide)
  · exact kp (World.ownsRow.kept r.c.ts hg (own_own ho r.c.ts (by decide))) (by decide)
  · exact kp (World.ownsRow.kept r.c.bl hg (own_own ho r.c.bl (by decide))) (by decide)
  · exact rfl
  · exact r.c.n2
  · exact r.c.n3
  · exact ((Below.refl B0 A).grown hg (Nat.le_trans hb hB) (fun k hk => Nat.le_trans hb (World.ownsRow.lt ho k hk).1)).setCell (show B0 ≤ bs from hb2) _

theorem Rdg.push_job {A : World} {B q bt bs : Nat} {a a1 a2 a3 : Option Addr} {n c n1 c1 n2 c2 n3 c3 : Nat} {t : Tk} {v tick : Int} {rs ts : List Rec} {bl : List Int} (r : Rdg A B q bt bs a n c t ⟨v, a1, n1, c1, a2, n2, c2, a3, n3, c3⟩ ⟨tick, rs, ts, bl⟩) (x : Rec) (hlen : ts.length ≤ 90000) (hB : B ≤ A.heap.size) (h1 : q ≠ bs) (h2 : bt ≠ bs) :
    ∃ a' c' w', (Builtin.append_ #[23, 23] 23 #[.slice a2 n2 c2, .slice (some ⟨A.heap.size, 0, none⟩) 1 1]).run Try.prog (A.alloc (.cells #[.int .i64 x.a, .int .i64 x.b, .int .i64 x.c, .int .i64 x.d, .int .i64 x.e] 53)) = .ok (.slice a' (ts ++ [x]).length c') w' ∧
      BoxAt w' bs #[.int .i64 v, .slice a1 n1 c1, .slice a2 n2 c2, .slice a3 n3 c3] 26 ∧
      Rdg (w'.setCell ⟨bs, 2, none⟩ (.slice a' (ts ++ [x]).length c')) B q bt bs a n c t ⟨v, a1, n1, c1, a', (ts ++ [x]).length, c', a3, n3, c3⟩ ⟨tick, rs, ts ++ [x], bl⟩ ∧ ∀ B0, B0 ≤ B → B0 ≤ bs → Below B0 A (w'.setCell ⟨bs, 2, none⟩ (.slice a' (ts ++ [x]).length c')) := by
  obtain ⟨v', w', hrun, hown, hg⟩ := append_job r.c.ts x hlen hB
  obtain ⟨a', c', rfl⟩ := hown.slice
  have ho := r.c.ts
  have ap : ∀ {b : Nat} {cs : Array Value} {ty : TypeId}, BoxAt A b cs ty → 53 ≠ ty → BoxAt w' b cs ty := fun hk hne => (hg.block _ hk.lt (fun e => own_apart ho hk hne e.symm)).trans hk
  have hst := ap r.st (by decide)
  have hk2 : But bs w' (w'.setCell ⟨bs, 2, none⟩ (.slice a' (ts ++ [x]).length c')) := (But.refl _ _).set _
  have kp : ∀ {e : TypeId} {size m : Nat} {u : Value} {xs : List Value}, w'.ownsRow B e size u m xs → e ≠ 26 → (w'.setCell ⟨bs, 2, none⟩ (.slice a' (ts ++ [x]).length c')).ownsRow B e size u m xs := fun hh hne => World.ownsRow.kept hh hk2 (.inr (own_apart hh hst hne))
  refine ⟨a', c', w', hrun, hst, ⟨(ap r.tk (by decide)).but hk2 h2, (ap r.res (by decide)).but hk2 h1, BoxAt.set hst 2 _, ⟨r.c.tick, ?_, ?_, ?_, ?_, ?_, ?_⟩⟩, fun B0 hb hb2 => ?_⟩
  · exact kp (World.ownsRow.kept r.c.rs hg (own_own ho r.c.rs (by decide))) (by decide)
  · exact kp hown (by decide)
  · exact kp (World.ownsRow.kept r.c.bl hg (own_own ho r.c.bl (by decide))) (by decide)
  · exact r.c.n1
  · exact rfl
  · exact r.c.n3
  · exact ((Below.refl B0 A).grown hg (Nat.le_trans hb hB) (fun k hk => Nat.le_trans hb (World.ownsRow.lt ho k hk).1)).setCell (show B0 ≤ bs from hb2) _

theorem Rdg.push_bl {A : World} {B q bt bs : Nat} {a a1 a2 a3 : Option Addr} {n c n1 c1 n2 c2 n3 c3 : Nat} {t : Tk} {v tick : Int} {rs ts : List Rec} {bl : List Int} (r : Rdg A B q bt bs a n c t ⟨v, a1, n1, c1, a2, n2, c2, a3, n3, c3⟩ ⟨tick, rs, ts, bl⟩) (x : Int) (hlen : bl.length ≤ 90000) (hB : B ≤ A.heap.size) (h1 : q ≠ bs) (h2 : bt ≠ bs) :
    ∃ a' c' w', (Builtin.append_ #[24, 24] 24 #[.slice a3 n3 c3, .slice (some ⟨A.heap.size, 0, none⟩) 1 1]).run Try.prog (A.alloc (.cells #[.int .i64 x] 3)) = .ok (.slice a' (bl ++ [x]).length c') w' ∧
      BoxAt w' bs #[.int .i64 v, .slice a1 n1 c1, .slice a2 n2 c2, .slice a3 n3 c3] 26 ∧
      Rdg (w'.setCell ⟨bs, 3, none⟩ (.slice a' (bl ++ [x]).length c')) B q bt bs a n c t ⟨v, a1, n1, c1, a2, n2, c2, a', (bl ++ [x]).length, c'⟩ ⟨tick, rs, ts, bl ++ [x]⟩ ∧ ∀ B0, B0 ≤ B → B0 ≤ bs → Below B0 A (w'.setCell ⟨bs, 3, none⟩ (.slice a' (bl ++ [x]).length c')) := by
  obtain ⟨v', w', hrun, hown, hg⟩ := append_bli r.c.bl x hlen hB
  obtain ⟨a', c', rfl⟩ := hown.slice
  have ho := r.c.bl
  have ap : ∀ {b : Nat} {cs : Array Value} {ty : TypeId}, BoxAt A b cs ty → 3 ≠ ty → BoxAt w' b cs ty := fun hk hne => (hg.block _ hk.lt (fun e => own_apart ho hk hne e.symm)).trans hk
  have hst := ap r.st (by decide)
  have hk2 : But bs w' (w'.setCell ⟨bs, 3, none⟩ (.slice a' (bl ++ [x]).length c')) := (But.refl _ _).set _
  have kp : ∀ {e : TypeId} {size m : Nat} {u : Value} {xs : List Value}, w'.ownsRow B e size u m xs → e ≠ 26 → (w'.setCell ⟨bs, 3, none⟩ (.slice a' (bl ++ [x]).length c')).ownsRow B e size u m xs := fun hh hne => World.ownsRow.kept hh hk2 (.inr (own_apart hh hst hne))
  refine ⟨a', c', w', hrun, hst, ⟨(ap r.tk (by decide)).but hk2 h2, (ap r.res (by decide)).but hk2 h1, BoxAt.set hst 3 _, ⟨r.c.tick, ?_, ?_, ?_, ?_, ?_, ?_⟩⟩, fun B0 hb hb2 => ?_⟩
  · exact kp (World.ownsRow.kept r.c.rs hg (own_own ho r.c.rs (by decide))) (by decide)
  · exact kp (World.ownsRow.kept r.c.ts hg (own_own ho r.c.ts (by decide))) (by decide)
  · exact kp hown (by decide)
  · exact r.c.n1
  · exact r.c.n2
  · rfl
  · exact ((Below.refl B0 A).grown hg (Nat.le_trans hb hB) (fun k hk => Nat.le_trans hb (World.ownsRow.lt ho k hk).1)).setCell (show B0 ≤ bs from hb2) _


set_option maxRecDepth 100000 in
set_option maxHeartbeats 8000000 in
theorem rcodR_any (a : Option Addr) (n c : Nat) (zs : List Nat) (w : World) (h : Row .u8 w w.heap.size a n c zs) (hz : ∀ x ∈ zs, x < 256) (hn : n ≤ 600) :
    Calls Try.prog 18 #[.slice a n c] w fun e w' => ∃ h' er, e = .returned (.tuple #[shV h', .int .i64 er]) ∧ ((er = 0 ∧ ∃ s, CanS s ∧ encS s = zs ∧ StIn w' w'.heap.size h' s) ∨ (er = 3 ∧ h' = ⟨0, none, 0, 0, none, 0, 0, none, 0, 0⟩ ∧ ¬ ∃ s, CanS s ∧ encS s = zs)) ∧ Below w.heap.size w w' := by
  have hb0 : Below w.heap.size w (w.alloc (shO ⟨0, none, 0, 0, none, 0, 0, none, 0, 0⟩)) := (Below.refl _ _).alloc (Nat.le_refl _) _
  have hz0 : (w.alloc (shO ⟨0, none, 0, 0, none, 0, 0, none, 0, 0⟩)).heap.size = w.heap.size + 1 := by simp
  have hT0 := boxAt_new (w.alloc (shO ⟨0, none, 0, 0, none, 0, 0, none, 0, 0⟩)) #[.slice a n c, .int .i64 0, .bool false] 69
  have hR0 := boxAt_new w #[.int .i64 0, .slice none 0 0, .slice none 0 0, .slice none 0 0] 26
  obtain ⟨w2, hw2⟩ : ∃ w2, w2 = (w.alloc (shO ⟨0, none, 0, 0, none, 0, 0, none, 0, 0⟩)).alloc (.cells #[.slice a n c, .int .i64 0, .bool false] 69) := ⟨_, rfl⟩
  have hb1 : Below (w.heap.size + 1) (w.alloc (shO ⟨0, none, 0, 0, none, 0, 0, none, 0, 0⟩)) w2 := by rw [hw2]; exact (Below.refl _ _).alloc (by omega) _
  rw [← hw2, hz0] at hT0
  have hR2 : BoxAt w2 w.heap.size #[.int .i64 0, .slice none 0 0, .slice none 0 0, .slice none 0 0] 26 := BoxAt.calls hR0 (by rw [hz0]; exact hb1)
  have HT2 : Hid (TkAt w2 (w.heap.size + 1) a n c ⟨0, false⟩) := hT0
  have HB2 : Hid (Below w.heap.size w w2) := hb0.trans (hb1.mono (by omega))
  have hz2 : w2.heap.size = w.heap.size + 2 := by rw [hw2]; simp
  have HR := Lib.hid fun (V : World) (hV : Below w.heap.size w V) => h.below hV
  have HSM := Lib.hid fun (V : World) (t : Tk) (hV : Below w.heap.size w V) (ht : TkAt V (w.heap.size + 1) a n c t) => rsm_any (w.heap.size + 1) w.heap.size a n c zs t V ht (HR.out V hV) hz hV.size
  have HW2 := Lib.hid hw2
  have HR2 := Lib.hid hR2
  have HZ := Lib.hid hz
  have HZN := Lib.hid h.1
  clear hb0 hz0 hT0 hR0 hw2 hb1 hR2 hz h
  obtain ⟨⟨v1, t1⟩, e1⟩ : ∃ D, sm zs ⟨0, false⟩ = D := ⟨_, rfl⟩
  have HE1 := Lib.hid e1
  clear e1
  go_enter Try.func18, Try.ntmps18
  go_wp2_with fail
  rw [← HW2.out]
  refine (HSM.out w2 _ HB2.out HT2.out).mono ?_
  rw [HE1.out]
  rintro e w3 ⟨rfl, ht3, hbt3⟩
  have hb3 : Below w.heap.size w w3 := HB2.out.trans (hbt3.below (by omega) (by omega))
  have hz3 := hbt3.size
  have hr3 := HR2.out.but hbt3 (by omega)
  obtain ⟨w4, hw4⟩ : ∃ w4, w4 = w3.alloc (shO ⟨v1, none, 0, 0, none, 0, 0, none, 0, 0⟩) := ⟨_, rfl⟩
  have hba : Below w3.heap.size w3 w4 := by rw [hw4]; exact (Below.refl _ _).alloc (Nat.le_refl _) _
  have hs4 : BoxAt w4 w3.heap.size #[.int .i64 v1, .slice none 0 0, .slice none 0 0, .slice none 0 0] 26 := by rw [hw4]; exact boxAt_new w3 _ _
  have HRD4 : Hid (Rdg w4 (w.heap.size + 2) w.heap.size (w.heap.size + 1) w3.heap.size a n c t1 ⟨v1, none, 0, 0, none, 0, 0, none, 0, 0⟩ ⟨v1, [], [], []⟩) := ⟨BoxAt.calls ht3 hba, BoxAt.calls hr3 hba, hs4, ⟨rfl, ownR_nil _ _ _, ownR_nil _ _ _, World.ownsRow_nil _ _ _ _, rfl, rfl, rfl⟩⟩
  have HB4 := Lib.hid (hb3.trans (hba.mono (by omega)))
  have hz4 : w4.heap.size = w3.heap.size + 1 := by rw [hw4]; simp
  have HW4 := Lib.hid hw4
  clear ht3 hbt3 hb3 hr3 hba hs4 hw4
  have ht4 := HRD4.out.tk
  go_wp2_with fail
  rw [← HW4.out]
  obtain ⟨⟨v2, t2⟩, e2⟩ : ∃ D, sm zs t1 = D := ⟨_, rfl⟩
  have HE2 := Lib.hid e2
  clear e2
  have hv2 := sm_le zs t1
  rw [HE2.out] at hv2
  simp only [] at hv2
  have hp2 : Hid (t2.p ≤ zs.length) := by
    have h1 : t1.p ≤ zs.length := by
      have h0 := (sm_o HZ.out ⟨0, false⟩).2 (Nat.zero_le _)
      rw [HE1.out] at h0
      exact h0
    have h2 := (sm_o HZ.out t1).2 h1
    rw [HE2.out] at h2
    exact h2
  refine (HSM.out w4 t1 HB4.out ht4).mono ?_
  rw [HE2.out]
  rintro e w5 ⟨rfl, ht5, hbt5⟩
  have HRD5 := Lib.hid (HRD4.out.turned ht5 hbt5 (by omega) (by omega))
  have HB5 := Lib.hid (HB4.out.trans (hbt5.below (by omega) (by omega)))
  have hz5 := hbt5.size
  have HL5 : Hid (readRob zs v2 t2 = ([] ++ (readRob zs v2 t2).1, (readRob zs v2 t2).2)) := by unfold Hid; rw [List.nil_append]
  clear ht5 hbt5 HRD4 HB4 ht4
  go_upto_block 0 with fail
  go_cut [6] from 14 (fun _ V => ∃ (t : Tk) (sa : Option Addr) (sc : Nat) (raw rs : List Rec), raw = rs ∧ Hid (Rdg V (w.heap.size + 2) w.heap.size (w.heap.size + 1) w3.heap.size a n c t ⟨v1, sa, rs.length, sc, none, 0, 0, none, 0, 0⟩ ⟨v1, rs, [], []⟩) ∧ Hid (Below w.heap.size w V) ∧ Hid (readRob zs v2 t2 = (raw, t)) ∧ w4.heap.size ≤ V.heap.size)
  case first =>
    go_wp2_with fail
    go_loopg [6] v2 (fun gg i wr => ∃ (k : Nat) (t : Tk) (sa : Option Addr) (sc : Nat) (raw rs : List Rec), i = .int .i64 k ∧ k ≤ gg ∧ k ≤ 2147483648 ∧ raw = rs ∧ Hid (Rdg wr (w.heap.size + 2) w.heap.size (w.heap.size + 1) w3.heap.size a n c t ⟨v1, sa, rs.length, sc, none, 0, 0, none, 0, 0⟩ ⟨v1, rs, [], []⟩) ∧ Hid (Below w.heap.size w wr) ∧ Hid (readRob zs v2 t2 = (raw ++ (readRob zs k t).1, (readRob zs k t).2)) ∧ w4.heap.size ≤ wr.heap.size)
    case atStart => exact ⟨v2, t2, none, 0, [], [], rfl, Nat.le_refl _, hv2, rfl, HRD5.out, HB5.out, HL5.out, by omega⟩
    case round =>
      clear HRD5 HB5 HL5
      obtain ⟨k, t, sa, sc, raw, rs, rfl, hkg, hk31, hraw, HRD, HB, HL, hzr⟩ := hrel
      have HRW := Lib.hid hraw
      clear hraw
      have hlen : Hid (rs.length ≤ 601) := by
        have h1 := (readRob_len HZ.out v2 t2 hp2.out).1
        rw [HL.out, HZN.out] at h1
        simp only [List.length_append] at h1
        unfold Hid
        have h2 : rs.length = raw.length := by rw [HRW.out]
        omega
      have q2 := HRD.out.tk.c2
      by_cases hgo : 0 < k ∧ t.o = false
      · obtain ⟨hk0, ho⟩ := hgo
        have HO := Lib.hid ho
        rw [ho] at q2
        obtain ⟨k', rfl⟩ : ∃ k', k = k' + 1 := ⟨k - 1, by omega⟩
        have hk1 : (0 : Int) < (k' : Int) + 1 := by omega
        clear ho
        go_wp2_with fail
        clear q2
        have hba : Below wr.heap.size wr (wr.alloc (.cells #[.int .i64 0, .int .i64 0, .int .i64 0, .int .i64 0, .int .i64 0] 51)) := (Below.refl _ _).alloc (Nat.le_refl _) _
        obtain ⟨A0, hA0⟩ : ∃ A0, A0 = wr.alloc (.cells #[.int .i64 0, .int .i64 0, .int .i64 0, .int .i64 0, .int .i64 0] 51) := ⟨_, rfl⟩
        have HX0 : Hid (BoxAt A0 wr.heap.size #[.int .i64 0, .int .i64 0, .int .i64 0, .int .i64 0, .int .i64 0] 51) := by rw [hA0]; exact boxAt_new wr _ _
        rw [← hA0] at hba ⊢
        have HN0 : Hid (But (w.heap.size + 1) wr A0) := (But.refl _ _).calls hba
        have HT0 : Hid (TkAt A0 (w.heap.size + 1) a n c t) := BoxAt.calls HRD.out.tk hba
        clear hA0 hba
        obtain ⟨⟨x0, u1⟩, ex0⟩ : ∃ D, sm zs t = D := ⟨_, rfl⟩
        have hxl0 := sm_le zs t
        have EX0 := Lib.hid ex0
        have hbw0 : Below w.heap.size w A0 := HB.out.trans (HN0.out.below (by omega) (by omega))
        refine (HSM.out A0 t hbw0 HT0.out).mono ?_
        rw [ex0] at hxl0 ⊢
        rintro e y0 ⟨rfl, ht, hbt⟩
        simp only [] at hxl0
        have hzy := HN0.out.size
        have HXY := Lib.hid (BoxAt.but HX0.out hbt (by omega))
        have HNY := Lib.hid (HN0.out.trans hbt)
        have HTY := Lib.hid ht
        have cx := BoxAt.cell HXY.out (i := 0) rfl
        have fx := BoxAt.fz HXY.out 0
        clear ht hbt hbw0 HX0 HN0 HT0 ex0
        go_wp2_with fail
        obtain ⟨A1, hA⟩ : ∃ A, A = y0.setCell ⟨wr.heap.size, 0, none⟩ (.int .i64 (x0 : Nat)) := ⟨_, rfl⟩
        rw [← hA]
        have HX1 : Hid (BoxAt A1 wr.heap.size #[.int .i64 (x0 : Nat), .int .i64 0, .int .i64 0, .int .i64 0, .int .i64 0] 51) := by rw [hA]; exact BoxAt.set HXY.out 0 _
        have HN1 : Hid (But (w.heap.size + 1) wr A1) := by rw [hA]; exact HNY.out.setNew (Nat.le_refl _) _
        have HT1 : Hid (TkAt A1 (w.heap.size + 1) a n c u1) := by
          rw [hA]
          exact BoxAt.but HTY.out (lb := wr.heap.size) ((But.refl _ _).set _) (by omega)
        clear hA cx fx HXY HNY HTY hzy
        obtain ⟨⟨x1, u2⟩, ex1⟩ : ∃ D, sm zs u1 = D := ⟨_, rfl⟩
        have hxl1 := sm_le zs u1
        have EX1 := Lib.hid ex1
        have hbw1 : Below w.heap.size w A1 := HB.out.trans (HN1.out.below (by omega) (by omega))
        refine (HSM.out A1 u1 hbw1 HT1.out).mono ?_
        rw [ex1] at hxl1 ⊢
        rintro e y1 ⟨rfl, ht, hbt⟩
        simp only [] at hxl1
        have hzy := HN1.out.size
        have HXY := Lib.hid (BoxAt.but HX1.out hbt (by omega))
        have HNY := Lib.hid (HN1.out.trans hbt)
        have HTY := Lib.hid ht
        have cx := BoxAt.cell HXY.out (i := 1) rfl
        have fx := BoxAt.fz HXY.out 1
        clear ht hbt hbw1 HX1 HN1 HT1 ex1
        go_wp2_with fail
        obtain ⟨A2, hA⟩ : ∃ A, A = y1.setCell ⟨wr.heap.size, 1, none⟩ (.int .i64 (x1 : Nat)) := ⟨_, rfl⟩
        rw [← hA]
        have HX2 : Hid (BoxAt A2 wr.heap.size #[.int .i64 (x0 : Nat), .int .i64 (x1 : Nat), .int .i64 0, .int .i64 0, .int .i64 0] 51) := by rw [hA]; exact BoxAt.set HXY.out 1 _
        have HN2 : Hid (But (w.heap.size + 1) wr A2) := by rw [hA]; exact HNY.out.setNew (Nat.le_refl _) _
        have HT2 : Hid (TkAt A2 (w.heap.size + 1) a n c u2) := by
          rw [hA]
          exact BoxAt.but HTY.out (lb := wr.heap.size) ((But.refl _ _).set _) (by omega)
        clear hA cx fx HXY HNY HTY hzy
        obtain ⟨⟨x2, u3⟩, ex2⟩ : ∃ D, sm zs u2 = D := ⟨_, rfl⟩
        have hxl2 := sm_le zs u2
        have EX2 := Lib.hid ex2
        have hbw2 : Below w.heap.size w A2 := HB.out.trans (HN2.out.below (by omega) (by omega))
        refine (HSM.out A2 u2 hbw2 HT2.out).mono ?_
        rw [ex2] at hxl2 ⊢
        rintro e y2 ⟨rfl, ht, hbt⟩
        simp only [] at hxl2
        have hzy := HN2.out.size
        have HXY := Lib.hid (BoxAt.but HX2.out hbt (by omega))
        have HNY := Lib.hid (HN2.out.trans hbt)
        have HTY := Lib.hid ht
        have cx := BoxAt.cell HXY.out (i := 2) rfl
        have fx := BoxAt.fz HXY.out 2
        clear ht hbt hbw2 HX2 HN2 HT2 ex2
        go_wp2_with fail
        obtain ⟨A3, hA⟩ : ∃ A, A = y2.setCell ⟨wr.heap.size, 2, none⟩ (.int .i64 (x2 : Nat)) := ⟨_, rfl⟩
        rw [← hA]
        have HX3 : Hid (BoxAt A3 wr.heap.size #[.int .i64 (x0 : Nat), .int .i64 (x1 : Nat), .int .i64 (x2 : Nat), .int .i64 0, .int .i64 0] 51) := by rw [hA]; exact BoxAt.set HXY.out 2 _
        have HN3 : Hid (But (w.heap.size + 1) wr A3) := by rw [hA]; exact HNY.out.setNew (Nat.le_refl _) _
        have HT3 : Hid (TkAt A3 (w.heap.size + 1) a n c u3) := by
          rw [hA]
          exact BoxAt.but HTY.out (lb := wr.heap.size) ((But.refl _ _).set _) (by omega)
        clear hA cx fx HXY HNY HTY hzy
        obtain ⟨⟨x3, u4⟩, ex3⟩ : ∃ D, sm zs u3 = D := ⟨_, rfl⟩
        have hxl3 := sm_le zs u3
        have EX3 := Lib.hid ex3
        have hbw3 : Below w.heap.size w A3 := HB.out.trans (HN3.out.below (by omega) (by omega))
        refine (HSM.out A3 u3 hbw3 HT3.out).mono ?_
        rw [ex3] at hxl3 ⊢
        rintro e y3 ⟨rfl, ht, hbt⟩
        simp only [] at hxl3
        have hzy := HN3.out.size
        have HXY := Lib.hid (BoxAt.but HX3.out hbt (by omega))
        have HNY := Lib.hid (HN3.out.trans hbt)
        have HTY := Lib.hid ht
        have cx := BoxAt.cell HXY.out (i := 3) rfl
        have fx := BoxAt.fz HXY.out 3
        clear ht hbt hbw3 HX3 HN3 HT3 ex3
        go_wp2_with fail
        obtain ⟨A4, hA⟩ : ∃ A, A = y3.setCell ⟨wr.heap.size, 3, none⟩ (.int .i64 (x3 : Nat)) := ⟨_, rfl⟩
        rw [← hA]
        have HX4 : Hid (BoxAt A4 wr.heap.size #[.int .i64 (x0 : Nat), .int .i64 (x1 : Nat), .int .i64 (x2 : Nat), .int .i64 (x3 : Nat), .int .i64 0] 51) := by rw [hA]; exact BoxAt.set HXY.out 3 _
        have HN4 : Hid (But (w.heap.size + 1) wr A4) := by rw [hA]; exact HNY.out.setNew (Nat.le_refl _) _
        have HT4 : Hid (TkAt A4 (w.heap.size + 1) a n c u4) := by
          rw [hA]
          exact BoxAt.but HTY.out (lb := wr.heap.size) ((But.refl _ _).set _) (by omega)
        clear hA cx fx HXY HNY HTY hzy
        obtain ⟨⟨x4, u5⟩, ex4⟩ : ∃ D, sm zs u4 = D := ⟨_, rfl⟩
        have hxl4 := sm_le zs u4
        have EX4 := Lib.hid ex4
        have hbw4 : Below w.heap.size w A4 := HB.out.trans (HN4.out.below (by omega) (by omega))
        refine (HSM.out A4 u4 hbw4 HT4.out).mono ?_
        rw [ex4] at hxl4 ⊢
        rintro e y4 ⟨rfl, ht, hbt⟩
        simp only [] at hxl4
        have hzy := HN4.out.size
        have HXY := Lib.hid (BoxAt.but HX4.out hbt (by omega))
        have HNY := Lib.hid (HN4.out.trans hbt)
        have HTY := Lib.hid ht
        have cx := BoxAt.cell HXY.out (i := 4) rfl
        have fx := BoxAt.fz HXY.out 4
        clear ht hbt hbw4 HX4 HN4 HT4 ex4
        go_upto_region 12 with fail
        obtain ⟨A5, hA⟩ : ∃ A, A = y4.setCell ⟨wr.heap.size, 4, none⟩ (.int .i64 (x4 : Nat)) := ⟨_, rfl⟩
        rw [← hA]
        have HX5 : Hid (BoxAt A5 wr.heap.size #[.int .i64 (x0 : Nat), .int .i64 (x1 : Nat), .int .i64 (x2 : Nat), .int .i64 (x3 : Nat), .int .i64 (x4 : Nat)] 51) := by rw [hA]; exact BoxAt.set HXY.out 4 _
        have HN5 : Hid (But (w.heap.size + 1) wr A5) := by rw [hA]; exact HNY.out.setNew (Nat.le_refl _) _
        have HT5 : Hid (TkAt A5 (w.heap.size + 1) a n c u5) := by
          rw [hA]
          exact BoxAt.but HTY.out (lb := wr.heap.size) ((But.refl _ _).set _) (by omega)
        clear hA cx fx HXY HNY HTY hzy
        have HRDA := Lib.hid (HRD.out.turned HT5.out HN5.out (by omega) (by omega))
        have HBA := Lib.hid (HB.out.trans (HN5.out.below (by omega) (by omega)))
        have hza := HN5.out.size
        have d0 := BoxAt.cell HX5.out (i := 0) rfl
        have d1 := BoxAt.cell HX5.out (i := 1) rfl
        have d2 := BoxAt.cell HX5.out (i := 2) rfl
        have d3 := BoxAt.cell HX5.out (i := 3) rfl
        have d4 := BoxAt.cell HX5.out (i := 4) rfl
        have g1 := BoxAt.cell HRDA.out.st (i := 1) rfl
        have hlen' := hlen.out
        obtain ⟨a', c', w', hrun, hst, hrd, hbel⟩ := HRDA.out.push_rob ⟨x0, x1, x2, x3, x4⟩ (by omega) (by omega) (by omega) (by omega)
        obtain ⟨rs', hrs'⟩ : ∃ r', rs ++ [(⟨x0, x1, x2, x3, x4⟩ : Rec)] = r' := ⟨_, rfl⟩
        rw [hrs'] at hrun hrd hbel
        have HRD6 := Lib.hid hrd
        have HB6 := Lib.hid (HBA.out.trans (hbel w.heap.size (by omega) (by omega)))
        have hz6 := (hbel w.heap.size (by omega) (by omega)).size
        have j1 := BoxAt.cell hst (i := 1) rfl
        have jf := BoxAt.fz hst 1
        obtain ⟨raw', hraw'⟩ : ∃ r', raw ++ [(⟨x0, x1, x2, x3, x4⟩ : Rec)] = r' := ⟨_, rfl⟩
        have HL6 : Hid (readRob zs v2 t2 = (raw' ++ (readRob zs k' u5).1, (readRob zs k' u5).2)) := by
          unfold Hid
          rw [← hraw', HL.out, readRob_more HO.out, five_of EX0.out EX1.out EX2.out EX3.out EX4.out, List.append_assoc]
          rfl
        have HRW6 : Hid (raw' = rs') := by
          unfold Hid
          rw [← hraw', ← hrs']
          rw [HRW.out]
        simp only [] at hrun
        clear HRD HB HL HX5 HT5 HN5 HRDA HBA hst hrd hbel hlen' hlen hrs' hraw' HRW EX0 EX1 EX2 EX3 EX4 HO
        go_wp2_with (at_builtin; refine Lib.wpList_append_run _ rfl _ _ _ _ rfl _ _ rfl rfl _ _ hrun ?_)
        go_roundg k'
        case measure => omega
        case rel => exact ⟨k', u5, a', c', raw', rs', by go_num, Nat.le_refl _, by omega, HRW6.out, HRD6.out, HB6.out, HL6.out, by omega⟩
      · have HLF : Hid (readRob zs v2 t2 = (raw, t)) := by
          have h1 := HL.out
          have h2 : readRob zs k t = ([], t) := by
            rcases Nat.eq_zero_or_pos k with rfl | hk
            · rfl
            · exact readRob_o zs k (by simpa [hk] using hgo)
          rw [h2, List.append_nil] at h1
          exact h1
        have HRF := Lib.hid HRD.out
        have HBF := Lib.hid HB.out
        clear HL HRD HB hlen
        rcases Nat.eq_zero_or_pos k with hk | hk
        · subst hk
          go_wp2_with fail
          all_goals go_meet
          all_goals exact ⟨t, sa, sc, raw, rs, HRW.out, HRF, HBF, HLF, hzr⟩
        · have hob : t.o = true := by simpa [hk] using hgo
          rw [hob] at q2
          clear hgo hob
          go_wp2_with fail
          all_goals go_meet
          all_goals exact ⟨t, sa, sc, raw, rs, HRW.out, HRF, HBF, HLF, hzr⟩
  case rest =>
  obtain ⟨t3, sa1, sc1, raw1, rs1, hraw1, HRD, HB, HL1, hzc⟩ := hcut
  obtain rfl : rs1 = raw1 := hraw1.symm
  have ht3 := HRD.out.tk
  go_wp2_with fail
  obtain ⟨⟨v4, t4⟩, e4⟩ : ∃ D, sm zs t3 = D := ⟨_, rfl⟩
  have HE4 := Lib.hid e4
  clear e4
  have hv4 := sm_le zs t3
  rw [HE4.out] at hv4
  simp only [] at hv4
  have hp4 : Hid (t4.p ≤ zs.length) := by
    have h1 : t3.p ≤ zs.length := by
      have h0 := (readRob_len HZ.out v2 t2 hp2.out).2
      rw [HL1.out] at h0
      exact h0
    have h2 := (sm_o HZ.out t3).2 h1
    rw [HE4.out] at h2
    exact h2
  refine (HSM.out wc t3 HB.out ht3).mono ?_
  rw [HE4.out]
  rintro e w5 ⟨rfl, ht5, hbt5⟩
  have HRD5 := Lib.hid (HRD.out.turned ht5 hbt5 (by omega) (by omega))
  have HB5 := Lib.hid (HB.out.trans (hbt5.below (by omega) (by omega)))
  have hz5 := hbt5.size
  have HL5 : Hid (readRob zs v4 t4 = ([] ++ (readRob zs v4 t4).1, (readRob zs v4 t4).2)) := by unfold Hid; rw [List.nil_append]
  clear ht5 hbt5 HRD HB ht3
  go_upto_block 2 with fail
  go_cut [8] from 14 (fun _ V => ∃ (t : Tk) (sa : Option Addr) (sc : Nat) (raw rs : List Rec), rs = raw.map lessE ∧ Hid (Rdg V (w.heap.size + 2) w.heap.size (w.heap.size + 1) w3.heap.size a n c t ⟨v1, sa1, rs1.length, sc1, sa, rs.length, sc, none, 0, 0⟩ ⟨v1, rs1, rs, []⟩) ∧ Hid (Below w.heap.size w V) ∧ Hid (readRob zs v4 t4 = (raw, t)) ∧ w4.heap.size ≤ V.heap.size)
  case first =>
    go_wp2_with fail
    go_loopg [8] v4 (fun gg i wr => ∃ (k : Nat) (t : Tk) (sa : Option Addr) (sc : Nat) (raw rs : List Rec), i = .int .i64 k ∧ k ≤ gg ∧ k ≤ 2147483648 ∧ rs = raw.map lessE ∧ Hid (Rdg wr (w.heap.size + 2) w.heap.size (w.heap.size + 1) w3.heap.size a n c t ⟨v1, sa1, rs1.length, sc1, sa, rs.length, sc, none, 0, 0⟩ ⟨v1, rs1, rs, []⟩) ∧ Hid (Below w.heap.size w wr) ∧ Hid (readRob zs v4 t4 = (raw ++ (readRob zs k t).1, (readRob zs k t).2)) ∧ w4.heap.size ≤ wr.heap.size)
    case atStart => exact ⟨v4, t4, none, 0, [], [], rfl, Nat.le_refl _, hv4, rfl, HRD5.out, HB5.out, HL5.out, by omega⟩
    case round =>
      clear HRD5 HB5 HL5
      obtain ⟨k, t, sa, sc, raw, rs, rfl, hkg, hk31, hraw, HRD, HB, HL, hzr⟩ := hrel
      have HRW := Lib.hid hraw
      clear hraw
      have hlen : Hid (rs.length ≤ 601) := by
        have h1 := (readRob_len HZ.out v4 t4 hp4.out).1
        rw [HL.out, HZN.out] at h1
        simp only [List.length_append] at h1
        unfold Hid
        have h2 : rs.length = raw.length := by rw [HRW.out, List.length_map]
        omega
      have q2 := HRD.out.tk.c2
      by_cases hgo : 0 < k ∧ t.o = false
      · obtain ⟨hk0, ho⟩ := hgo
        have HO := Lib.hid ho
        rw [ho] at q2
        obtain ⟨k', rfl⟩ : ∃ k', k = k' + 1 := ⟨k - 1, by omega⟩
        have hk1 : (0 : Int) < (k' : Int) + 1 := by omega
        clear ho
        go_wp2_with fail
        clear q2
        have hba : Below wr.heap.size wr (wr.alloc (.cells #[.int .i64 0, .int .i64 0, .int .i64 0, .int .i64 0, .int .i64 0] 53)) := (Below.refl _ _).alloc (Nat.le_refl _) _
        obtain ⟨A0, hA0⟩ : ∃ A0, A0 = wr.alloc (.cells #[.int .i64 0, .int .i64 0, .int .i64 0, .int .i64 0, .int .i64 0] 53) := ⟨_, rfl⟩
        have HX0 : Hid (BoxAt A0 wr.heap.size #[.int .i64 0, .int .i64 0, .int .i64 0, .int .i64 0, .int .i64 0] 53) := by rw [hA0]; exact boxAt_new wr _ _
        rw [← hA0] at hba ⊢
        have HN0 : Hid (But (w.heap.size + 1) wr A0) := (But.refl _ _).calls hba
        have HT0 : Hid (TkAt A0 (w.heap.size + 1) a n c t) := BoxAt.calls HRD.out.tk hba
        clear hA0 hba
        obtain ⟨⟨x0, u1⟩, ex0⟩ : ∃ D, sm zs t = D := ⟨_, rfl⟩
        have hxl0 := sm_le zs t
        have EX0 := Lib.hid ex0
        have hbw0 : Below w.heap.size w A0 := HB.out.trans (HN0.out.below (by omega) (by omega))
        refine (HSM.out A0 t hbw0 HT0.out).mono ?_
        rw [ex0] at hxl0 ⊢
        rintro e y0 ⟨rfl, ht, hbt⟩
        simp only [] at hxl0
        have hzy := HN0.out.size
        have HXY := Lib.hid (BoxAt.but HX0.out hbt (by omega))
        have HNY := Lib.hid (HN0.out.trans hbt)
        have HTY := Lib.hid ht
        have cx := BoxAt.cell HXY.out (i := 0) rfl
        have fx := BoxAt.fz HXY.out 0
        clear ht hbt hbw0 HX0 HN0 HT0 ex0
        go_wp2_with fail
        obtain ⟨A1, hA⟩ : ∃ A, A = y0.setCell ⟨wr.heap.size, 0, none⟩ (.int .i64 (x0 : Nat)) := ⟨_, rfl⟩
        rw [← hA]
        have HX1 : Hid (BoxAt A1 wr.heap.size #[.int .i64 (x0 : Nat), .int .i64 0, .int .i64 0, .int .i64 0, .int .i64 0] 53) := by rw [hA]; exact BoxAt.set HXY.out 0 _
        have HN1 : Hid (But (w.heap.size + 1) wr A1) := by rw [hA]; exact HNY.out.setNew (Nat.le_refl _) _
        have HT1 : Hid (TkAt A1 (w.heap.size + 1) a n c u1) := by
          rw [hA]
          exact BoxAt.but HTY.out (lb := wr.heap.size) ((But.refl _ _).set _) (by omega)
        clear hA cx fx HXY HNY HTY hzy
        obtain ⟨⟨x1, u2⟩, ex1⟩ : ∃ D, sm zs u1 = D := ⟨_, rfl⟩
        have hxl1 := sm_le zs u1
        have EX1 := Lib.hid ex1
        have hbw1 : Below w.heap.size w A1 := HB.out.trans (HN1.out.below (by omega) (by omega))
        refine (HSM.out A1 u1 hbw1 HT1.out).mono ?_
        rw [ex1] at hxl1 ⊢
        rintro e y1 ⟨rfl, ht, hbt⟩
        simp only [] at hxl1
        have hzy := HN1.out.size
        have HXY := Lib.hid (BoxAt.but HX1.out hbt (by omega))
        have HNY := Lib.hid (HN1.out.trans hbt)
        have HTY := Lib.hid ht
        have cx := BoxAt.cell HXY.out (i := 1) rfl
        have fx := BoxAt.fz HXY.out 1
        clear ht hbt hbw1 HX1 HN1 HT1 ex1
        go_wp2_with fail
        obtain ⟨A2, hA⟩ : ∃ A, A = y1.setCell ⟨wr.heap.size, 1, none⟩ (.int .i64 (x1 : Nat)) := ⟨_, rfl⟩
        rw [← hA]
        have HX2 : Hid (BoxAt A2 wr.heap.size #[.int .i64 (x0 : Nat), .int .i64 (x1 : Nat), .int .i64 0, .int .i64 0, .int .i64 0] 53) := by rw [hA]; exact BoxAt.set HXY.out 1 _
        have HN2 : Hid (But (w.heap.size + 1) wr A2) := by rw [hA]; exact HNY.out.setNew (Nat.le_refl _) _
        have HT2 : Hid (TkAt A2 (w.heap.size + 1) a n c u2) := by
          rw [hA]
          exact BoxAt.but HTY.out (lb := wr.heap.size) ((But.refl _ _).set _) (by omega)
        clear hA cx fx HXY HNY HTY hzy
        obtain ⟨⟨x2, u3⟩, ex2⟩ : ∃ D, sm zs u2 = D := ⟨_, rfl⟩
        have hxl2 := sm_le zs u2
        have EX2 := Lib.hid ex2
        have hbw2 : Below w.heap.size w A2 := HB.out.trans (HN2.out.below (by omega) (by omega))
        refine (HSM.out A2 u2 hbw2 HT2.out).mono ?_
        rw [ex2] at hxl2 ⊢
        rintro e y2 ⟨rfl, ht, hbt⟩
        simp only [] at hxl2
        have hzy := HN2.out.size
        have HXY := Lib.hid (BoxAt.but HX2.out hbt (by omega))
        have HNY := Lib.hid (HN2.out.trans hbt)
        have HTY := Lib.hid ht
        have cx := BoxAt.cell HXY.out (i := 2) rfl
        have fx := BoxAt.fz HXY.out 2
        clear ht hbt hbw2 HX2 HN2 HT2 ex2
        go_wp2_with fail
        obtain ⟨A3, hA⟩ : ∃ A, A = y2.setCell ⟨wr.heap.size, 2, none⟩ (.int .i64 (x2 : Nat)) := ⟨_, rfl⟩
        rw [← hA]
        have HX3 : Hid (BoxAt A3 wr.heap.size #[.int .i64 (x0 : Nat), .int .i64 (x1 : Nat), .int .i64 (x2 : Nat), .int .i64 0, .int .i64 0] 53) := by rw [hA]; exact BoxAt.set HXY.out 2 _
        have HN3 : Hid (But (w.heap.size + 1) wr A3) := by rw [hA]; exact HNY.out.setNew (Nat.le_refl _) _
        have HT3 : Hid (TkAt A3 (w.heap.size + 1) a n c u3) := by
          rw [hA]
          exact BoxAt.but HTY.out (lb := wr.heap.size) ((But.refl _ _).set _) (by omega)
        clear hA cx fx HXY HNY HTY hzy
        obtain ⟨⟨x3, u4⟩, ex3⟩ : ∃ D, sm zs u3 = D := ⟨_, rfl⟩
        have hxl3 := sm_le zs u3
        have EX3 := Lib.hid ex3
        have hbw3 : Below w.heap.size w A3 := HB.out.trans (HN3.out.below (by omega) (by omega))
        refine (HSM.out A3 u3 hbw3 HT3.out).mono ?_
        rw [ex3] at hxl3 ⊢
        rintro e y3 ⟨rfl, ht, hbt⟩
        simp only [] at hxl3
        have hzy := HN3.out.size
        have HXY := Lib.hid (BoxAt.but HX3.out hbt (by omega))
        have HNY := Lib.hid (HN3.out.trans hbt)
        have HTY := Lib.hid ht
        have cx := BoxAt.cell HXY.out (i := 3) rfl
        have fx := BoxAt.fz HXY.out 3
        clear ht hbt hbw3 HX3 HN3 HT3 ex3
        go_wp2_with fail
        obtain ⟨A4, hA⟩ : ∃ A, A = y3.setCell ⟨wr.heap.size, 3, none⟩ (.int .i64 (x3 : Nat)) := ⟨_, rfl⟩
        rw [← hA]
        have HX4 : Hid (BoxAt A4 wr.heap.size #[.int .i64 (x0 : Nat), .int .i64 (x1 : Nat), .int .i64 (x2 : Nat), .int .i64 (x3 : Nat), .int .i64 0] 53) := by rw [hA]; exact BoxAt.set HXY.out 3 _
        have HN4 : Hid (But (w.heap.size + 1) wr A4) := by rw [hA]; exact HNY.out.setNew (Nat.le_refl _) _
        have HT4 : Hid (TkAt A4 (w.heap.size + 1) a n c u4) := by
          rw [hA]
          exact BoxAt.but HTY.out (lb := wr.heap.size) ((But.refl _ _).set _) (by omega)
        clear hA cx fx HXY HNY HTY hzy
        obtain ⟨⟨x4, u5⟩, ex4⟩ : ∃ D, sm zs u4 = D := ⟨_, rfl⟩
        have hxl4 := sm_le zs u4
        have EX4 := Lib.hid ex4
        have hbw4 : Below w.heap.size w A4 := HB.out.trans (HN4.out.below (by omega) (by omega))
        refine (HSM.out A4 u4 hbw4 HT4.out).mono ?_
        rw [ex4] at hxl4 ⊢
        rintro e y4 ⟨rfl, ht, hbt⟩
        simp only [] at hxl4
        have hzy := HN4.out.size
        have HXY := Lib.hid (BoxAt.but HX4.out hbt (by omega))
        have HNY := Lib.hid (HN4.out.trans hbt)
        have HTY := Lib.hid ht
        have cx := BoxAt.cell HXY.out (i := 4) rfl
        have fx := BoxAt.fz HXY.out 4
        clear ht hbt hbw4 HX4 HN4 HT4 ex4
        have hwx : IntKind.i64.wrap ((x4 : Int) - 1) = (x4 : Int) - 1 := by
          simp only [IntKind.wrap_i64]
          omega
        go_upto_region 22 with fail
        obtain ⟨A5, hA⟩ : ∃ A, A = y4.setCell ⟨wr.heap.size, 4, none⟩ (.int .i64 ((x4 : Int) - 1)) := ⟨_, rfl⟩
        rw [← hA]
        have HX5 : Hid (BoxAt A5 wr.heap.size #[.int .i64 (x0 : Nat), .int .i64 (x1 : Nat), .int .i64 (x2 : Nat), .int .i64 (x3 : Nat), .int .i64 ((x4 : Int) - 1)] 53) := by rw [hA]; exact BoxAt.set HXY.out 4 _
        have HN5 : Hid (But (w.heap.size + 1) wr A5) := by rw [hA]; exact HNY.out.setNew (Nat.le_refl _) _
        have HT5 : Hid (TkAt A5 (w.heap.size + 1) a n c u5) := by
          rw [hA]
          exact BoxAt.but HTY.out (lb := wr.heap.size) ((But.refl _ _).set _) (by omega)
        clear hA cx fx HXY HNY HTY hzy
        have HRDA := Lib.hid (HRD.out.turned HT5.out HN5.out (by omega) (by omega))
        have HBA := Lib.hid (HB.out.trans (HN5.out.below (by omega) (by omega)))
        have hza := HN5.out.size
        have d0 := BoxAt.cell HX5.out (i := 0) rfl
        have d1 := BoxAt.cell HX5.out (i := 1) rfl
        have d2 := BoxAt.cell HX5.out (i := 2) rfl
        have d3 := BoxAt.cell HX5.out (i := 3) rfl
        have d4 := BoxAt.cell HX5.out (i := 4) rfl
        have g1 := BoxAt.cell HRDA.out.st (i := 2) rfl
        have hlen' := hlen.out
        obtain ⟨a', c', w', hrun, hst, hrd, hbel⟩ := HRDA.out.push_job ⟨x0, x1, x2, x3, (x4 : Int) - 1⟩ (by omega) (by omega) (by omega) (by omega)
        obtain ⟨rs', hrs'⟩ : ∃ r', rs ++ [(⟨x0, x1, x2, x3, (x4 : Int) - 1⟩ : Rec)] = r' := ⟨_, rfl⟩
        rw [hrs'] at hrun hrd hbel
        have HRD6 := Lib.hid hrd
        have HB6 := Lib.hid (HBA.out.trans (hbel w.heap.size (by omega) (by omega)))
        have hz6 := (hbel w.heap.size (by omega) (by omega)).size
        have j1 := BoxAt.cell hst (i := 2) rfl
        have jf := BoxAt.fz hst 2
        obtain ⟨raw', hraw'⟩ : ∃ r', raw ++ [(⟨x0, x1, x2, x3, x4⟩ : Rec)] = r' := ⟨_, rfl⟩
        have HL6 : Hid (readRob zs v4 t4 = (raw' ++ (readRob zs k' u5).1, (readRob zs k' u5).2)) := by
          unfold Hid
          rw [← hraw', HL.out, readRob_more HO.out, five_of EX0.out EX1.out EX2.out EX3.out EX4.out, List.append_assoc]
          rfl
        have HRW6 : Hid (rs' = raw'.map lessE) := by
          unfold Hid
          rw [← hraw', ← hrs']
          rw [HRW.out, List.map_append]; rfl
        simp only [] at hrun
        clear HRD HB HL HX5 HT5 HN5 HRDA HBA hst hrd hbel hlen' hlen hrs' hraw' HRW EX0 EX1 EX2 EX3 EX4 HO
        go_wp2_with (at_builtin; refine Lib.wpList_append_run _ rfl _ _ _ _ rfl _ _ rfl rfl _ _ hrun ?_)
        go_roundg k'
        case measure => omega
        case rel => exact ⟨k', u5, a', c', raw', rs', by go_num, Nat.le_refl _, by omega, HRW6.out, HRD6.out, HB6.out, HL6.out, by omega⟩
      · have HLF : Hid (readRob zs v4 t4 = (raw, t)) := by
          have h1 := HL.out
          have h2 : readRob zs k t = ([], t) := by
            rcases Nat.eq_zero_or_pos k with rfl | hk
            · rfl
            · exact readRob_o zs k (by simpa [hk] using hgo)
          rw [h2, List.append_nil] at h1
          exact h1
        have HRF := Lib.hid HRD.out
        have HBF := Lib.hid HB.out
        clear HL HRD HB hlen
        rcases Nat.eq_zero_or_pos k with hk | hk
        · subst hk
          go_wp2_with fail
          all_goals go_meet
          all_goals exact ⟨t, sa, sc, raw, rs, HRW.out, HRF, HBF, HLF, hzr⟩
        · have hob : t.o = true := by simpa [hk] using hgo
          rw [hob] at q2
          clear hgo hob
          go_wp2_with fail
          all_goals go_meet
          all_goals exact ⟨t, sa, sc, raw, rs, HRW.out, HRF, HBF, HLF, hzr⟩
  case rest =>
  obtain ⟨t5, sa2, sc2, raw2, rs2, hraw2, HRD, HB, HL2, hzc2⟩ := hcut
  have HRW2 := Lib.hid hraw2
  clear hraw2
  have ht5 := HRD.out.tk
  go_wp2_with fail
  obtain ⟨⟨v6, t6⟩, e6⟩ : ∃ D, sm zs t5 = D := ⟨_, rfl⟩
  have HE6 := Lib.hid e6
  clear e6
  have hv6 := sm_le zs t5
  rw [HE6.out] at hv6
  simp only [] at hv6
  have hp6 : Hid (t6.p ≤ zs.length) := by
    have h0 := (readRob_len HZ.out v4 t4 hp4.out).2
    rw [HL2.out] at h0
    have h2 := (sm_o HZ.out t5).2 h0
    rw [HE6.out] at h2
    exact h2
  refine (HSM.out wc t5 HB.out ht5).mono ?_
  rw [HE6.out]
  rintro e w5 ⟨rfl, ht6, hbt6⟩
  have HRD5 := Lib.hid (HRD.out.turned ht6 hbt6 (by omega) (by omega))
  have HB5 := Lib.hid (HB.out.trans (hbt6.below (by omega) (by omega)))
  have hz5 := hbt6.size
  have HL5 : Hid (readG zs v6 (-1) t6 = ([] ++ (readG zs v6 (-1) t6).1, (readG zs v6 (-1) t6).2)) := by unfold Hid; rw [List.nil_append]
  clear ht6 hbt6 HRD HB ht5
  go_upto_block 4 with fail
  go_cut [10, 11] from 14 (fun _ _ V => ∃ (t : Tk) (sa : Option Addr) (sc : Nat) (bl : List Int), Hid (Rdg V (w.heap.size + 2) w.heap.size (w.heap.size + 1) w3.heap.size a n c t ⟨v1, sa1, rs1.length, sc1, sa2, rs2.length, sc2, sa, bl.length, sc⟩ ⟨v1, rs1, rs2, bl⟩) ∧ Hid (Below w.heap.size w V) ∧ Hid (readG zs v6 (-1) t6 = (bl, t)) ∧ w4.heap.size ≤ V.heap.size)
  case first =>
    go_wp2_with fail
    go_loopg [10, 11] v6 (fun gg lst i wr => ∃ (k : Nat) (t : Tk) (sa : Option Addr) (sc : Nat) (bl : List Int) (p : Int), lst = .int .i64 p ∧ i = .int .i64 k ∧ k ≤ gg ∧ k ≤ 2147483648 ∧ Hid (-1 ≤ p ∧ p + 1 ≤ bl.length * 2147483649) ∧ Hid (Rdg wr (w.heap.size + 2) w.heap.size (w.heap.size + 1) w3.heap.size a n c t ⟨v1, sa1, rs1.length, sc1, sa2, rs2.length, sc2, sa, bl.length, sc⟩ ⟨v1, rs1, rs2, bl⟩) ∧ Hid (Below w.heap.size w wr) ∧ Hid (readG zs v6 (-1) t6 = (bl ++ (readG zs k p t).1, (readG zs k p t).2)) ∧ w4.heap.size ≤ wr.heap.size)
    case atStart => exact ⟨v6, t6, none, 0, [], -1, rfl, rfl, Nat.le_refl _, hv6, ⟨Int.le_refl _, by simp⟩, HRD5.out, HB5.out, HL5.out, by omega⟩
    case round =>
      clear HRD5 HB5 HL5
      obtain ⟨k, t, sa, sc, bl, p, rfl, rfl, hkg, hk31, HP, HRD, HB, HL, hzr⟩ := hrel
      have hlen : Hid (bl.length ≤ 601) := by
        have h1 := (readG_len HZ.out v6 (-1) t6 hp6.out).1
        rw [HL.out, HZN.out] at h1
        simp only [List.length_append] at h1
        unfold Hid
        omega
      have q2 := HRD.out.tk.c2
      by_cases hgo : 0 < k ∧ t.o = false
      · obtain ⟨hk0, ho⟩ := hgo
        have HO := Lib.hid ho
        rw [ho] at q2
        obtain ⟨k', rfl⟩ : ∃ k', k = k' + 1 := ⟨k - 1, by omega⟩
        have hk1 : (0 : Int) < (k' : Int) + 1 := by omega
        obtain ⟨⟨x, u1⟩, ex⟩ : ∃ D, sm zs t = D := ⟨_, rfl⟩
        have hxl := sm_le zs t
        rw [ex] at hxl
        simp only [] at hxl
        have EX := Lib.hid ex
        have htk := HRD.out.tk
        obtain ⟨hp1, hp2'⟩ := HP.out
        have hl' := hlen.out
        have hpb : p ≤ 1400000000000 := by
          have : (bl.length : Int) * 2147483649 ≤ 601 * 2147483649 := Int.mul_le_mul_of_nonneg_right (by omega) (by omega)
          omega
        have hw1 : IntKind.i64.wrap (p + 1) = p + 1 := by
          simp only [IntKind.wrap_i64]
          omega
        have hw2 : IntKind.i64.wrap (p + 1 + (x : Int)) = p + 1 + (x : Int) := by
          simp only [IntKind.wrap_i64]
          omega
        clear ho ex hl' hp2'
        go_wp2_with fail
        clear q2
        refine (HSM.out wr t HB.out htk).mono ?_
        rw [EX.out]
        rintro e y ⟨rfl, ht, hbt⟩
        have HRDA := Lib.hid (HRD.out.turned ht hbt (by omega) (by omega))
        have HBA := Lib.hid (HB.out.trans (hbt.below (by omega) (by omega)))
        have hza := hbt.size
        have g1 := BoxAt.cell HRDA.out.st (i := 3) rfl
        have hlen' := hlen.out
        obtain ⟨a', c', w', hrun, hst, hrd, hbel⟩ := HRDA.out.push_bl (p + 1 + (x : Int)) (by omega) (by omega) (by omega) (by omega)
        obtain ⟨bl', hbl'⟩ : ∃ r', bl ++ [p + 1 + (x : Int)] = r' := ⟨_, rfl⟩
        have HP6 : Hid (-1 ≤ p + 1 + (x : Int) ∧ p + 1 + (x : Int) + 1 ≤ bl'.length * 2147483649) := by
          have h1 := HP.out
          unfold Hid
          rw [← hbl', List.length_append]
          simp only [List.length_cons, List.length_nil]
          omega
        rw [hbl'] at hrun hrd hbel
        have HRD6 := Lib.hid hrd
        have HB6 := Lib.hid (HBA.out.trans (hbel w.heap.size (by omega) (by omega)))
        have hz6 := (hbel w.heap.size (by omega) (by omega)).size
        have j1 := BoxAt.cell hst (i := 3) rfl
        have jf := BoxAt.fz hst 3
        have HL6 : Hid (readG zs v6 (-1) t6 = (bl' ++ (readG zs k' (p + 1 + (x : Int)) u1).1, (readG zs k' (p + 1 + (x : Int)) u1).2)) := by
          unfold Hid
          rw [← hbl', HL.out, readG_more HO.out, EX.out, List.append_assoc]
          rfl
        clear HRD HB HL HRDA HBA hst hrd hbel hlen' hlen hbl' EX HO ht hbt htk HP
        go_wp2_with (at_builtin; refine Lib.wpList_append_run _ rfl _ _ _ _ rfl _ _ rfl rfl _ _ hrun ?_)
        go_roundg k'
        case measure => omega
        case rel => exact ⟨k', u1, a', c', bl', _, rfl, by go_num, Nat.le_refl _, by omega, HP6.out, HRD6.out, HB6.out, HL6.out, by omega⟩
      · have HLF : Hid (readG zs v6 (-1) t6 = (bl, t)) := by
          have h1 := HL.out
          have h2 : readG zs k p t = ([], t) := by
            rcases Nat.eq_zero_or_pos k with rfl | hk
            · rfl
            · exact readG_o zs k p (by simpa [hk] using hgo)
          rw [h2, List.append_nil] at h1
          exact h1
        have HRF := Lib.hid HRD.out
        have HBF := Lib.hid HB.out
        clear HL HRD HB hlen HP
        rcases Nat.eq_zero_or_pos k with hk | hk
        · subst hk
          go_wp2_with fail
          all_goals go_meet
          all_goals exact ⟨t, sa, sc, bl, HRF, HBF, HLF, hzr⟩
        · have hob : t.o = true := by simpa [hk] using hgo
          rw [hob] at q2
          clear hgo hob
          go_wp2_with fail
          all_goals go_meet
          all_goals exact ⟨t, sa, sc, bl, HRF, HBF, HLF, hzr⟩
  case rest =>
  obtain ⟨t7, sa3, sc3, bl3, HRD, HB, HL3, hzc3⟩ := hcut
  have hRD : Hid (readSt zs = (⟨v1, rs1, rs2, bl3⟩, t7)) := by
    unfold Hid
    refine readSt_of HE1.out HE2.out HL1.out HE4.out ?_ HE6.out HL3.out
    unfold readJob
    rw [HL2.out, HRW2.out]
  have l1 : Hid (rs1.length ≤ 601) := by
    have h1 := (readRob_len HZ.out v2 t2 hp2.out).1
    rw [HL1.out, HZN.out] at h1
    simp only [] at h1
    unfold Hid
    omega
  have l2 : Hid (rs2.length ≤ 601) := by
    have h1 := (readRob_len HZ.out v4 t4 hp4.out).1
    rw [HL2.out, HZN.out] at h1
    simp only [] at h1
    unfold Hid
    rw [HRW2.out, List.length_map]
    omega
  have l3 : Hid (bl3.length ≤ 601) := by
    have h1 := (readG_len HZ.out v6 (-1) t6 hp6.out).1
    rw [HL3.out, HZN.out] at h1
    simp only [] at h1
    unfold Hid
    omega
  obtain ⟨sp, hsp⟩ : ∃ sp, (⟨v1, rs1, rs2, bl3⟩ : St) = sp := ⟨_, rfl⟩
  have HCS := Lib.hid (rcodS_any ⟨v1, sa1, rs1.length, sc1, sa2, rs2.length, sc2, sa3, bl3.length, sc3⟩ sp wc (hsp ▸ HRD.out.c.stIn) (by have := l1.out; have := l2.out; have := l3.out; rw [← hsp]; exact ⟨by show rs1.length ≤ 1000; omega, by show rs2.length ≤ 1000; omega, by show bl3.length ≤ 1000; omega⟩))
  rw [hsp] at HRD hRD
  have g0 := BoxAt.cell HRD.out.st (i := 0) rfl
  have g1 := BoxAt.cell HRD.out.st (i := 1) rfl
  have g2 := BoxAt.cell HRD.out.st (i := 2) rfl
  have g3 := BoxAt.cell HRD.out.st (i := 3) rfl
  clear HL1 HL2 HL3 HRW2 l1 l2 l3 HE1 HE2 HE4 HE6 HSM
  go_wp2_with fail
  refine HCS.out.mono ?_
  rintro e w8 ⟨v, er, rfl, hc1, hc2, hb8⟩
  have HT8 := Lib.hid (show TkAt w8 (w.heap.size + 1) a n c t7 from BoxAt.calls HRD.out.tk hb8)
  have HR8 := Lib.hid (BoxAt.calls HRD.out.res hb8)
  have HS8 := Lib.hid (BoxAt.calls HRD.out.st hb8)
  have HC8 := Lib.hid (HRD.out.c.calls hb8)
  have HB8 := Lib.hid (HB.out.trans (hb8.mono (by omega)))
  have HOne : Hid (∀ s, CanS s → encS s = zs → s = sp ∧ t7.o = false) := fun s hs he => by
    obtain ⟨t', e1, e2⟩ := readSt_enc hs
    rw [he, hRD.out] at e1
    obtain ⟨r1, r2⟩ := Prod.mk.inj e1
    exact ⟨r1.symm, by rw [r2]; exact e2⟩
  have k2 := HT8.out.c2
  clear g0 g1 g2 g3 HRD HB hRD hsp
  by_cases ho : t7.o = true
  · have HNE : Hid (¬ ∃ s, CanS s ∧ encS s = zs) := by
      rintro ⟨s, hs, he⟩
      have := (HOne.out s hs he).2
      rw [ho] at this
      cases this
    rw [ho] at k2
    clear hc1 hc2 ho hb8
    go_upto_region 31 with fail
    obtain ⟨q0, q1, q2, q3⟩ : w8.cell? ⟨w.heap.size, 0, none⟩ = some (.int .i64 0) ∧ w8.cell? ⟨w.heap.size, 1, none⟩ = some (.slice none 0 0) ∧ w8.cell? ⟨w.heap.size, 2, none⟩ = some (.slice none 0 0) ∧ w8.cell? ⟨w.heap.size, 3, none⟩ = some (.slice none 0 0) := ⟨BoxAt.cell HR8.out (i := 0) rfl, BoxAt.cell HR8.out (i := 1) rfl, BoxAt.cell HR8.out (i := 2) rfl, BoxAt.cell HR8.out (i := 3) rfl⟩
    have f0 := BoxAt.fz HR8.out 0
    have f1 := BoxAt.fz HR8.out 1
    have f2 := BoxAt.fz HR8.out 2
    have f3 := BoxAt.fz HR8.out 3
    go_wp2_with fail
    refine bodyPost_ret (v := .tuple #[.agg #[.int .i64 0, .slice none 0 0, .slice none 0 0, .slice none 0 0], .int .i64 3]) (by simp [results, Try.results18, go_sem, q0, q1, q2, q3]) rfl ⟨⟨0, none, 0, 0, none, 0, 0, none, 0, 0⟩, 3, by first | rfl | trivial, .inr ⟨rfl, rfl, HNE.out⟩, ?_⟩
    exact below_set4 HB8.out (Nat.le_refl _) _ _ _ _
  · have ho' : t7.o = false := by simpa using ho
    rw [ho'] at k2
    by_cases hcan : CanS sp
    · obtain ⟨rfl, hown⟩ := hc1 hcan
      obtain ⟨va, vc, hv, hrow⟩ := hown.slice
      generalize (encS sp).length = nl at hv hrow
      subst hv
      have HRZ := (HR.out w8 HB8.out).mono HB8.out.size
      have HSA := Lib.hid (same_any a va n c nl vc w8.heap.size zs (encS sp) w8 HRZ hrow)
      have HCAN := Lib.hid hcan
      by_cases he : zs = encS sp
      · have hsb : sameB zs (encS sp) = true := by unfold sameB; exact decide_eq_true he
        have HE := Lib.hid he
        rw [hsb] at HSA
        clear hc1 hc2 ho ho' hb8 hrow HRZ hcan he hsb
        go_wp2_with fail
        refine HSA.out.mono ?_
        rintro e V ⟨rfl, mm, hV⟩
        have hbv : Below w8.heap.size w8 V := by rw [hV]; exact below_drewN (Below.refl _ _) mm
        have HRV := Lib.hid (BoxAt.calls HR8.out hbv)
        have HSV := Lib.hid (BoxAt.calls HS8.out hbv)
        have HCV := Lib.hid (HC8.out.calls hbv)
        have HBV := Lib.hid (HB8.out.trans (hbv.mono HB8.out.size))
        clear hV hbv k2
        have d0 := BoxAt.cell HSV.out (i := 0) rfl
        have d1 := BoxAt.cell HSV.out (i := 1) rfl
        have d2 := BoxAt.cell HSV.out (i := 2) rfl
        have d3 := BoxAt.cell HSV.out (i := 3) rfl
        have q0 := BoxAt.cell HRV.out (i := 0) rfl
        have q1 := BoxAt.cell HRV.out (i := 1) rfl
        have q2 := BoxAt.cell HRV.out (i := 2) rfl
        have q3 := BoxAt.cell HRV.out (i := 3) rfl
        have f0 := BoxAt.fz HRV.out 0
        have f1 := BoxAt.fz HRV.out 1
        have f2 := BoxAt.fz HRV.out 2
        have f3 := BoxAt.fz HRV.out 3
        have hws : w.heap.size ≠ w3.heap.size := by omega
        go_wp2_with fail
        refine bodyPost_ret (v := .tuple #[shV ⟨v1, sa1, rs1.length, sc1, sa2, rs2.length, sc2, sa3, bl3.length, sc3⟩, .int .i64 0]) (by simp [results, Try.results18, go_sem, q0, q1, q2, q3]) rfl ⟨⟨v1, sa1, rs1.length, sc1, sa2, rs2.length, sc2, sa3, bl3.length, sc3⟩, 0, by first | rfl | trivial, .inl ⟨rfl, sp, HCAN.out, ?_, ?_⟩, ?_⟩
        · exact HE.out.symm
        · exact (copy_set4 HCV.out (by omega) _ _ _ _).stIn
        · exact below_set4 HBV.out (Nat.le_refl _) _ _ _ _
      · have HNE : Hid (¬ ∃ s, CanS s ∧ encS s = zs) := by
          rintro ⟨s, hs, h1⟩
          rw [(HOne.out s hs h1).1] at h1
          exact he h1.symm
        have hsb : sameB zs (encS sp) = false := by unfold sameB; exact decide_eq_false he
        rw [hsb] at HSA
        clear hc1 hc2 ho ho' hb8 hrow HRZ hcan he hsb
        go_wp2_with fail
        refine HSA.out.mono ?_
        rintro e V ⟨rfl, mm, hV⟩
        have hbv : Below w8.heap.size w8 V := by rw [hV]; exact below_drewN (Below.refl _ _) mm
        have HRV := Lib.hid (BoxAt.calls HR8.out hbv)
        have HBV := Lib.hid (HB8.out.trans (hbv.mono HB8.out.size))
        clear hV hbv k2
        obtain ⟨q0, q1, q2, q3⟩ : V.cell? ⟨w.heap.size, 0, none⟩ = some (.int .i64 0) ∧ V.cell? ⟨w.heap.size, 1, none⟩ = some (.slice none 0 0) ∧ V.cell? ⟨w.heap.size, 2, none⟩ = some (.slice none 0 0) ∧ V.cell? ⟨w.heap.size, 3, none⟩ = some (.slice none 0 0) := ⟨BoxAt.cell HRV.out (i := 0) rfl, BoxAt.cell HRV.out (i := 1) rfl, BoxAt.cell HRV.out (i := 2) rfl, BoxAt.cell HRV.out (i := 3) rfl⟩
        have f0 := BoxAt.fz HRV.out 0
        have f1 := BoxAt.fz HRV.out 1
        have f2 := BoxAt.fz HRV.out 2
        have f3 := BoxAt.fz HRV.out 3
        go_wp2_with fail
        refine bodyPost_ret (v := .tuple #[.agg #[.int .i64 0, .slice none 0 0, .slice none 0 0, .slice none 0 0], .int .i64 3]) (by simp [results, Try.results18, go_sem, q0, q1, q2, q3]) rfl ⟨⟨0, none, 0, 0, none, 0, 0, none, 0, 0⟩, 3, by first | rfl | trivial, .inr ⟨rfl, rfl, HNE.out⟩, ?_⟩
        exact below_set4 HBV.out (Nat.le_refl _) _ _ _ _
    · obtain ⟨rfl, rfl⟩ := hc2 hcan
      have HNE : Hid (¬ ∃ s, CanS s ∧ encS s = zs) := by
        rintro ⟨s, hs, h1⟩
        rw [(HOne.out s hs h1).1] at hs
        exact hcan hs
      clear hc1 hc2 ho ho' hb8 hcan
      go_upto_region 31 with fail
      obtain ⟨q0, q1, q2, q3⟩ : w8.cell? ⟨w.heap.size, 0, none⟩ = some (.int .i64 0) ∧ w8.cell? ⟨w.heap.size, 1, none⟩ = some (.slice none 0 0) ∧ w8.cell? ⟨w.heap.size, 2, none⟩ = some (.slice none 0 0) ∧ w8.cell? ⟨w.heap.size, 3, none⟩ = some (.slice none 0 0) := ⟨BoxAt.cell HR8.out (i := 0) rfl, BoxAt.cell HR8.out (i := 1) rfl, BoxAt.cell HR8.out (i := 2) rfl, BoxAt.cell HR8.out (i := 3) rfl⟩
      have f0 := BoxAt.fz HR8.out 0
      have f1 := BoxAt.fz HR8.out 1
      have f2 := BoxAt.fz HR8.out 2
      have f3 := BoxAt.fz HR8.out 3
      go_wp2_with fail
      refine bodyPost_ret (v := .tuple #[.agg #[.int .i64 0, .slice none 0 0, .slice none 0 0, .slice none 0 0], .int .i64 3]) (by simp [results, Try.results18, go_sem, q0, q1, q2, q3]) rfl ⟨⟨0, none, 0, 0, none, 0, 0, none, 0, 0⟩, 3, by first | rfl | trivial, .inr ⟨rfl, rfl, HNE.out⟩, ?_⟩
      exact below_set4 HB8.out (Nat.le_refl _) _ _ _ _
end Go.Proofs.Ytdhaoacnedgogaa.Vm
