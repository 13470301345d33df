/- Words for the document's ReadRecord: what it keeps. -/
import Derived.Test.YtdhaoacnedgogaaPushes
import Derived.Test.YtdhaoacnedgogaaRefCodP
import Derived.Test.YtdhaoacnedgogaaRefCodR
namespace Go.Proofs.Ytdhaoacnedgogaa.Vm
open Go Go.RowKit

/-- What the document's ReadRecord keeps: what reads, in block bt; the record so far, in block bs; the result, in block q, not laid yet. -/
structure Rdr (wr : World) (B q bt bs : Nat) (a : Option Addr) (n c : Nat) (t : Tk) (h : Rh) (x : Rcd) : Prop where
  tk : TkAt wr bt a n c t
  res : BoxAt wr q #[.int .i64 0, .slice none 0 0, .slice none 0 0, .slice none 0 0, .int .u32 0] 31
  st : BoxAt wr bs #[.int .i64 h.t, .slice h.a1 h.n1 h.c1, .slice h.a2 h.n2 h.c2, .slice h.a3 h.n3 h.c3, .int .u32 h.k] 31
  c : RCopy wr B h x
theorem Rdr.turned {w w' : World} {B q bt bs : Nat} {a : Option Addr} {n c : Nat} {t t' : Tk} {h : Rh} {x : Rcd} (r : Rdr w B q bt bs a n c t h x) (ht : TkAt w' bt a n c t') (hb : But bt w w') (h1 : q ≠ bt) (h2 : bs ≠ bt) : Rdr w' B q bt bs a n c t' h x :=
  ⟨ht, r.res.but hb h1, r.st.but hb h2, r.c.turned r.tk hb (by decide) (by decide) (by decide)⟩
theorem Rdr.push_inp {A : World} {B q bt bs : Nat} {a a1 a2 a3 : Option Addr} {n c n1 c1 n2 c2 n3 c3 : Nat} {t : Tk} {v tick k kk : Int} {ins : List Inp} {cs ws : List Int} (r : Rdr A B q bt bs a n c t ⟨v, a1, n1, c1, a2, n2, c2, a3, n3, c3, k⟩ ⟨tick, ins, cs, ws, kk⟩) (x : Inp) (hlen : ins.length ≤ 200000) (hB : B ≤ A.heap.size) (h1 : q ≠ bs) (h2 : bt ≠ bs) :
    ∃ a' c' w', (Builtin.append_ #[27, 27] 27 #[.slice a1 n1 c1, .slice (some ⟨A.heap.size, 0, none⟩) 1 1]).run Try.prog (A.alloc (.cells #[.int .i64 x.k, .int .i64 x.a, .int .i64 x.b, .int .i64 x.c] 55)) = .ok (.slice a' (ins ++ [x]).length c') w' ∧
      BoxAt w' bs #[.int .i64 v, .slice a1 n1 c1, .slice a2 n2 c2, .slice a3 n3 c3, .int .u32 k] 31 ∧
      Rdr (w'.setCell ⟨bs, 1, none⟩ (.slice a' (ins ++ [x]).length c')) B q bt bs a n c t ⟨v, a', (ins ++ [x]).length, c', a2, n2, c2, a3, n3, c3, k⟩ ⟨tick, ins ++ [x], cs, ws, kk⟩ ∧ ∀ B0, B0 ≤ B → B0 ≤ bs → Below B0 A (w'.setCell ⟨bs, 1, none⟩ (.slice a' (ins ++ [x]).length c')) := by
  have ho := r.c.ins
  obtain ⟨v', w', hrun, hown, hg⟩ := append_inp ho x hlen hB
  obtain ⟨a', c', rfl⟩ := own_is_slice hown
  have ap : ∀ {b : Nat} {cs : Array Value} {ty : TypeId}, BoxAt A b cs ty → 55 ≠ ty → BoxAt w' b cs ty := fun hk hne => (hg.block _ hk.lt (fun e => own_apart ho hk hne e.symm)).trans hk
  have hst := ap r.st (by decide)
  have hk2 : But bs w' (w'.setCell ⟨bs, 1, none⟩ (.slice a' (ins ++ [x]).length c')) := (But.refl _ _).set _
  have kp : ∀ {e : TypeId} {size m : Nat} {u : Value} {xs : List Value}, w'.ownsRow B e size u m xs → e ≠ 31 → (w'.setCell ⟨bs, 1, none⟩ (.slice a' (ins ++ [x]).length c')).ownsRow B e size u m xs := fun hh hne => World.ownsRow.kept hh hk2 (.inr (own_apart hh hst hne))
  refine ⟨a', c', w', hrun, hst, ⟨(ap r.tk (by decide)).but hk2 h2, (ap r.res (by decide)).but hk2 h1, BoxAt.set hst 1 _, ⟨r.c.tick, ?_, ?_, ?_, r.c.ck⟩⟩, fun B0 hb hb2 => ?_⟩
  · exact kp hown (by decide)
  · exact kp (World.ownsRow.kept r.c.cs hg (own_own ho r.c.cs (by decide))) (by decide)
  · exact kp (World.ownsRow.kept r.c.ws hg (own_own ho r.c.ws (by decide))) (by decide)
  · exact ((Below.refl B0 A).grown hg (Nat.le_trans hb hB) (fun k hk => Nat.le_trans hb (World.ownsRow.lt ho k hk).1)).setCell (show B0 ≤ bs from hb2) _
theorem Rdr.push_err {A : World} {B q bt bs : Nat} {a a1 a2 a3 : Option Addr} {n c n1 c1 n2 c2 n3 c3 : Nat} {t : Tk} {v tick k kk : Int} {ins : List Inp} {cs ws : List Int} (r : Rdr A B q bt bs a n c t ⟨v, a1, n1, c1, a2, n2, c2, a3, n3, c3, k⟩ ⟨tick, ins, cs, ws, kk⟩) (x : Int) (hlen : cs.length ≤ 200000) (hB : B ≤ A.heap.size) (h1 : q ≠ bs) (h2 : bt ≠ bs) :
    ∃ a' c' w', (Builtin.append_ #[28, 28] 28 #[.slice a2 n2 c2, .slice (some ⟨A.heap.size, 0, none⟩) 1 1]).run Try.prog (A.alloc (.cells #[.int .i64 x] 36)) = .ok (.slice a' (cs ++ [x]).length c') w' ∧
      BoxAt w' bs #[.int .i64 v, .slice a1 n1 c1, .slice a2 n2 c2, .slice a3 n3 c3, .int .u32 k] 31 ∧
      Rdr (w'.setCell ⟨bs, 2, none⟩ (.slice a' (cs ++ [x]).length c')) B q bt bs a n c t ⟨v, a1, n1, c1, a', (cs ++ [x]).length, c', a3, n3, c3, k⟩ ⟨tick, ins, cs ++ [x], ws, kk⟩ ∧ ∀ B0, B0 ≤ B → B0 ≤ bs → Below B0 A (w'.setCell ⟨bs, 2, none⟩ (.slice a' (cs ++ [x]).length c')) := by
  have ho := r.c.cs
  obtain ⟨v', w', hrun, hown, hg⟩ := append_err ho x hlen hB
  obtain ⟨a', c', rfl⟩ := own_is_slice hown
  have ap : ∀ {b : Nat} {cs : Array Value} {ty : TypeId}, BoxAt A b cs ty → 36 ≠ ty → BoxAt w' b cs ty := fun hk hne => (hg.block _ hk.lt (fun e => own_apart ho hk hne e.symm)).trans hk
  have hst := ap r.st (by decide)
  have hk2 : But bs w' (w'.setCell ⟨bs, 2, none⟩ (.slice a' (cs ++ [x]).length c')) := (But.refl _ _).set _
  have kp : ∀ {e : TypeId} {size m : Nat} {u : Value} {xs : List Value}, w'.ownsRow B e size u m xs → e ≠ 31 → (w'.setCell ⟨bs, 2, none⟩ (.slice a' (cs ++ [x]).length c')).ownsRow B e size u m xs := fun hh hne => World.ownsRow.kept hh hk2 (.inr (own_apart hh hst hne))
  refine ⟨a', c', w', hrun, hst, ⟨(ap r.tk (by decide)).but hk2 h2, (ap r.res (by decide)).but hk2 h1, BoxAt.set hst 2 _, ⟨r.c.tick, ?_, ?_, ?_, r.c.ck⟩⟩, fun B0 hb hb2 => ?_⟩
  · exact kp (World.ownsRow.kept r.c.ins hg (own_own ho r.c.ins (by decide))) (by decide)
  · exact kp hown (by decide)
  · exact kp (World.ownsRow.kept r.c.ws hg (own_own ho r.c.ws (by decide))) (by decide)
  · exact ((Below.refl B0 A).grown hg (Nat.le_trans hb hB) (fun k hk => Nat.le_trans hb (World.ownsRow.lt ho k hk).1)).setCell (show B0 ≤ bs from hb2) _
theorem Rdr.push_way {A : World} {B q bt bs : Nat} {a a1 a2 a3 : Option Addr} {n c n1 c1 n2 c2 n3 c3 : Nat} {t : Tk} {v tick k kk : Int} {ins : List Inp} {cs ws : List Int} (r : Rdr A B q bt bs a n c t ⟨v, a1, n1, c1, a2, n2, c2, a3, n3, c3, k⟩ ⟨tick, ins, cs, ws, kk⟩) (x : Int) (hlen : ws.length ≤ 200000) (hB : B ≤ A.heap.size) (h1 : q ≠ bs) (h2 : bt ≠ bs) :
    ∃ a' c' w', (Builtin.append_ #[24, 24] 24 #[.slice a3 n3 c3, .slice (some ⟨A.heap.size, 0, none⟩) 1 1]).run Try.prog (A.alloc (.cells #[.int .i64 x] 3)) = .ok (.slice a' (ws ++ [x]).length c') w' ∧
      BoxAt w' bs #[.int .i64 v, .slice a1 n1 c1, .slice a2 n2 c2, .slice a3 n3 c3, .int .u32 k] 31 ∧
      Rdr (w'.setCell ⟨bs, 3, none⟩ (.slice a' (ws ++ [x]).length c')) B q bt bs a n c t ⟨v, a1, n1, c1, a2, n2, c2, a', (ws ++ [x]).length, c', k⟩ ⟨tick, ins, cs, ws ++ [x], kk⟩ ∧ ∀ B0, B0 ≤ B → B0 ≤ bs → Below B0 A (w'.setCell ⟨bs, 3, none⟩ (.slice a' (ws ++ [x]).length c')) := by
  have ho := r.c.ws
  obtain ⟨v', w', hrun, hown, hg⟩ := append_way ho x hlen hB
  obtain ⟨a', c', rfl⟩ := own_is_slice hown
  have ap : ∀ {b : Nat} {cs : Array Value} {ty : TypeId}, BoxAt A b cs ty → 3 ≠ ty → BoxAt w' b cs ty := fun hk hne => (hg.block _ hk.lt (fun e => own_apart ho hk hne e.symm)).trans hk
  have hst := ap r.st (by decide)
  have hk2 : But bs w' (w'.setCell ⟨bs, 3, none⟩ (.slice a' (ws ++ [x]).length c')) := (But.refl _ _).set _
  have kp : ∀ {e : TypeId} {size m : Nat} {u : Value} {xs : List Value}, w'.ownsRow B e size u m xs → e ≠ 31 → (w'.setCell ⟨bs, 3, none⟩ (.slice a' (ws ++ [x]).length c')).ownsRow B e size u m xs := fun hh hne => World.ownsRow.kept hh hk2 (.inr (own_apart hh hst hne))
  refine ⟨a', c', w', hrun, hst, ⟨(ap r.tk (by decide)).but hk2 h2, (ap r.res (by decide)).but hk2 h1, BoxAt.set hst 3 _, ⟨r.c.tick, ?_, ?_, ?_, r.c.ck⟩⟩, fun B0 hb hb2 => ?_⟩
  · exact kp (World.ownsRow.kept r.c.ins hg (own_own ho r.c.ins (by decide))) (by decide)
  · exact kp (World.ownsRow.kept r.c.cs hg (own_own ho r.c.cs (by decide))) (by decide)
  · exact kp hown (by decide)
  · exact ((Below.refl B0 A).grown hg (Nat.le_trans hb hB) (fun k hk => Nat.le_trans hb (World.ownsRow.lt ho k hk).1)).setCell (show B0 ≤ bs from hb2) _
end Go.Proofs.Ytdhaoacnedgogaa.Vm
