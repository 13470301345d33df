/- The map of a disk's files: by name, each with the slice of its bytes, and how many are durable. -/
import Derived.Test.YtkfjbpcngmipnaaDkMath
import Derived.Test.YtkfjbpcngmipnaaKinds
import Derived.Test.YtkfjbpcngmipnaaAlts
import Derived.StringKeys
namespace Go.Proofs.Ytkfjbpcngmipnaa.Vm
open Go Go.RowKit Go.Maps
set_option maxRecDepth 100000

/-- A slice at the head of a block, or nil. -/
abbrev SV := Option (Nat × Nat × Nat)
def slV : SV → Value
  | none => .slice none 0 0
  | some r => .slice (some ⟨r.1, 0, none⟩) r.2.1 r.2.2
/-- A file as it stands in the map. -/
structure PF where
  v : SV
  s : Int
def pfV (p : PF) : Value := .agg #[slV p.v, .int .i64 p.s]
def zpf : PF := ⟨none, 0⟩
def pfR : Value → Option (DataW Unit × List MemPlace)
  | .agg cs => match cs.toList with
    | [.slice none 0 0, .int .i64 s] => some (.agg [.lit (.int .i64 s)], [])
    | [.slice (some ⟨b, 0, none⟩) n c, .int .i64 s] => some (.agg [.lit (.int .i64 b), .lit (.int .i64 n), .lit (.int .i64 c), .lit (.int .i64 s)], [])
    | _ => none
  | _ => none
def pfD (p : PF) : DataW Unit := match p.v with
  | none => .agg [.lit (.int .i64 p.s)]
  | some r => .agg [.lit (.int .i64 r.1), .lit (.int .i64 r.2.1), .lit (.int .i64 r.2.2), .lit (.int .i64 p.s)]
theorem pfR_of (p : PF) : pfR (pfV p) = some (pfD p, []) := by
  rcases p with ⟨_ | ⟨b, n, c⟩, s⟩ <;> rfl
theorem pfR_inv {v : Value} {p : PF} {ps : List MemPlace} (h : pfR v = some (pfD p, ps)) : v = pfV p := by
  rcases p with ⟨_ | ⟨b, n, c⟩, s⟩
  all_goals
    unfold pfR pfD at h
    split at h
    · rename_i cs
      obtain ⟨l⟩ := cs
      split at h
      · rename_i s' e
        simp at h
        try
          obtain ⟨h1, _⟩ := h
          subst h1
          simp only at e
          rw [e]
          rfl
      · rename_i b' n' c' s' e
        simp at h
        try
          obtain ⟨⟨h1, h2, h3, h4⟩, _⟩ := h
          obtain rfl : b' = b := by omega
          obtain rfl : n' = n := by omega
          obtain rfl : c' = c := by omega
          subst h4
          simp only at e
          rw [e]
          rfl
      · cases h
    · cases h
def dkM : MapKind ByteArray PF where
  t := 61
  k := 9
  e := 66
  kv a := .string a
  kl a := .string a.data.toList
  okK a := a.size ≤ maxLen
  ev := pfV
  okE _ := True
  z := pfV zpf
  R := pfR
  d := pfD
  dz := pfD zpf
theorem dkL : MapLaw dkM where
  keyed := string_keyed Try.underlying9
  ht := Try.underlying61
  hz w := by kernel_rfl
  key a h := WideMaps.keyOf_string_mk Try.underlying9 h
  inj a b _ _ h := by
    injection h with h
    cases a; cases b
    congr 1
    exact Array.toList_inj.1 h
  isKey _ := trivial
  reads b _ := pfR_of b
  inv v b ps h := pfR_inv h
  readsz := pfR_of zpf
  invz v ps h := pfR_inv h

/-- The map's keys are the names of files. -/
theorem KIn.keys {w : World} {mb nn : Nat} {g : ByteArray → Option PF} (h : KIn dkM w mb nn g) {F : List FileS} (hA : Asc F) (hg : ∀ y, (g y).isSome = (lookF F y).isSome) (hk : ∀ f ∈ F, f.name.size ≤ maxLen) :
    ∃ D : DataW Unit, w.ownsMap Try.prog 9 pfR mb F.length D ∧ Maps.size D = F.length ∧ (F.map fun f => f.name.data.toList).Perm (strKeys D) := by
  obtain ⟨D, hown, hm, h0, h1⟩ := h
  have hstr : Try.prog.underlying 9 = some .string := Try.underlying9
  have hhas : ∀ x : List UInt8, x ∈ (F.map fun f => f.name.data.toList) ↔ (Maps.has D (.string x) = true ∧ (fun _ : Lit => false) (.string x) = false) := fun x => by
    rw [List.mem_map]
    constructor
    · rintro ⟨f, hf, rfl⟩
      refine ⟨?_, rfl⟩
      have hs : (g f.name).isSome = true := by rw [hg]; exact lookF_names ⟨f, hf, rfl⟩
      cases e : g f.name with
      | none => rw [e] at hs; cases hs
      | some p => exact (h1 f.name p (hk f hf) e).1
    · rintro ⟨hx, _⟩
      have hlen : x.length ≤ maxLen := by
        obtain ⟨es, rfl⟩ := hm
        refine strKeys_le hown hstr x ?_
        rw [has_eq, List.any_eq_true] at hx
        obtain ⟨p, hp, hs⟩ := hx
        exact List.mem_map.2 ⟨p, hp, by rw [WideAt.sameKey_eq hs]; rfl⟩
      cases e : g ⟨x.toArray⟩ with
      | none =>
        have := h0 ⟨x.toArray⟩ (by show x.toArray.size ≤ maxLen; simpa using hlen) e
        simp only [dkM] at this
        rw [this] at hx
        cases hx
      | some p =>
        have hs : (lookF F ⟨x.toArray⟩).isSome = true := by rw [← hg, e]; rfl
        cases e2 : lookF F ⟨x.toArray⟩ with
        | none => rw [e2] at hs; cases hs
        | some f => exact ⟨f, (lookF_mem e2).1, by rw [(lookF_mem e2).2]⟩
  have hC : Collected D (fun _ => false) (F.map fun f => f.name.data.toList) := ⟨hA.nodup, hhas⟩
  have hp := hC.perm hown (string_keyed hstr) hstr (fun _ => rfl)
  have hsz : Maps.size D = F.length := by
    have h2 := hp.length_eq
    obtain ⟨es, rfl⟩ := hm
    simp only [strKeys, List.length_map] at h2
    exact h2.symm
  refine ⟨D, ?_, hsz, hp⟩
  obtain ⟨es, clock, hb, hf, _, rfl⟩ := hown
  refine ⟨es, clock, hb, hf, ?_, rfl⟩
  rw [← hsz, size_eq, length_sorted]
  simp
/-- As many entries as files. -/
theorem KIn.tight {w : World} {mb nn : Nat} {g : ByteArray → Option PF} (h : KIn dkM w mb nn g) {F : List FileS} (hA : Asc F) (hg : ∀ y, (g y).isSome = (lookF F y).isSome) (hk : ∀ f ∈ F, f.name.size ≤ maxLen) : KIn dkM w mb F.length g := by
  have hk2 := h.keys hA hg hk
  obtain ⟨D, ⟨es, clock, hb, hf, hs, rfl⟩, hm, h0, h1⟩ := h
  obtain ⟨D', ⟨es', clock', hb', hf', hs', rfl⟩, _, _⟩ := hk2
  rw [hb] at hb'
  injection hb' with hb'
  injection hb' with e1 e2
  subst e1
  exact ⟨_, ⟨es, clock, hb, hf, hs', rfl⟩, hm, h0, h1⟩
end Go.Proofs.Ytkfjbpcngmipnaa.Vm
