/- maps' maps: keys of type api.Id, each told as sixteen bytes; a map's datum, whose elements are told as themselves; lookups and updates. -/
import Derived.Test.YtodpdcflbnomgaaGreatPart1
import Derived.Test.YtodpdcflbnomgaaGreatPart2
import Derived.Maps.OwnSet
import Derived.DeepKeys4
namespace Go.Proofs.YtodpdcflbnomgaaGreat
open Go.RowKit Go.Maps
set_option linter.unusedVariables false
set_option linter.unusedSimpArgs false
set_option maxRecDepth 100000

theorem laidOutT : laidOutB Tryz.prog = true := by kernel_rfl
theorem rowIdT : (34 : TypeId) < Tryz.prog.types.size := of_decide_eq_true (by kernel_rfl)
theorem wideIdT : (match Tryz.prog.underlying 34 with | some (.array _ _) | some (.struct _) => true | _ => false) = true := by kernel_rfl
theorem keyLawI : WideMaps.KeyLaw Tryz.prog 34 := deep_law_laid laidOutT (m := 2) (by omega) rowIdT (by kernel_rfl) wideIdT
theorem lawI : Keyed Tryz.prog 34 := Keyed.of_law keyLawI
theorem lawS : Keyed Tryz.prog 9 := string_keyed Tryz.underlying9
/-- An id as a map's key. -/
def kI (c k : Int) : Key := keyBytes [.int .u64 c, .int .u64 k]
/-- It is a number of 64 bits. -/
def U64 (x : Int) : Prop := 0 ≤ x ∧ x ≤ 18446744073709551615
theorem wf_u64 {x : Int} (h : U64 x) : (Lit.int .u64 x).wf = true := by
  obtain ⟨h1, h2⟩ := h
  have e1 : IntKind.u64.min = 0 := by decide
  have e2 : IntKind.u64.max = 18446744073709551615 := by decide
  simp [Lit.wf, e1, e2]
  omega
theorem keyLits_u64 {P : Program} {t : TypeId} (hu : P.underlying t = some (.int .u64)) (d : Nat) {a : Int} (hw : (Lit.int .u64 a).wf = true) : P.keyLits (d + 1) t [.int .u64 a] = some [.int .u64 a] := by
  unfold Program.keyLits
  rw [hu]
  simp only [hw, and_self, if_true]
theorem keyI {c k : Int} (hc : U64 c) (hk : U64 k) : keyOf Tryz.prog 34 (idV c k) = some (.string (kI c k)) := by
  have e1 := wf_u64 hc
  have e2 := wf_u64 hk
  have hq : Tryz.prog.keyType 34 = true := by kernel_rfl
  have hf : ∀ a b, (Value.agg #[.int .u64 a, .int .u64 b]).formed Tryz.prog 34 = true := fun a b => by kernel_rfl
  have hu := Tryz.underlying34
  have hc2 : Tryz.prog.cellsOf 34 = 2 := by kernel_rfl
  have hc1 : Tryz.prog.cellsOf 32 = 1 := by kernel_rfl
  have hp : 1 < Tryz.prog.types.size := of_decide_eq_true (by kernel_rfl)
  have hs : ∃ n, Tryz.prog.types.size = (n + 1) + 1 := ⟨Tryz.prog.types.size - 2, by omega⟩
  clear hp
  obtain ⟨n, hs⟩ := hs
  have h1 := keyLits_u64 Tryz.underlying32 (n + 1) e1
  have h2 := keyLits_u64 Tryz.underlying32 (n + 1) e2
  have hv : (Value.agg #[.int .u64 c, .int .u64 k]).cells.toList = [.int .u64 c, .int .u64 k] := rfl
  have hm : Tryz.prog.keyLits (n + 1 + 1 + 1) 34 [.int .u64 c, .int .u64 k] = some [.int .u64 c, .int .u64 k] := by
    unfold Program.keyLits
    rw [hu]
    simp only [hc2, List.length_cons, List.length_nil]
    rw [if_pos ⟨trivial, by kernel_rfl⟩]
    simp only [List.mapM_cons, List.mapM_nil, hc1, List.drop_zero, List.drop_succ_cons, List.take_succ_cons, List.take_zero, h1, h2]
    rfl
  unfold keyOf idV
  rw [hu]
  simp only [hq, hf, hs, hv, hm, Bool.and_self, if_true, Option.map_some, kI]
theorem kI_inj {c k c' k' : Int} (hc : U64 c) (hk : U64 k) (hc' : U64 c') (hk' : U64 k') (h : kI c k = kI c' k') : c = c' ∧ k = k' := by
  have h1 := keyI hc hk
  have h2 := keyI hc' hk'
  rw [← h] at h2
  have := keyLawI.inj h1 h2
  simp only [idV, Value.agg.injEq, Array.mk.injEq, List.cons.injEq, Value.int.injEq, true_and, and_true] at this
  exact this

/-- How an element reads: as itself. -/
def heldO (v : Value) : Option (DataW Value × List MemPlace) := some (.held v, [])
def toV (es : List (Key × Value)) : DataW Value := .map (es.map fun p => (.string p.1, .held p.2))
theorem toV_ins (k : Key) (f : Value) : ∀ es : List (Key × Value), DataW.insert (Lit.string k, DataW.held f) (es.map fun p => (Lit.string p.1, DataW.held p.2)) = (ains k f es).map fun p => (Lit.string p.1, DataW.held p.2)
  | [] => rfl
  | y :: r => by
    have ih := toV_ins k f r
    by_cases e : bytesBefore k y.1 = true
    · have e2 : (Lit.string k).before (Lit.string y.1) = true := e
      simp [ains, DataW.insert, e, e2]
    · have e2 : ¬ (Lit.string k).before (Lit.string y.1) = true := e
      simp [ains, DataW.insert, e, e2, ih]
theorem toV_fil (k : Key) (es : List (Key × Value)) : (es.map fun p => (Lit.string p.1, DataW.held (H := Value) p.2)).filter (fun p => !p.1.sameKey (.string k)) = (adel k es).map fun p => (Lit.string p.1, DataW.held p.2) := by
  simp only [adel, List.filter_map, Function.comp_def, Lit.sameKey]
theorem toV_put (k : Key) (f : Value) (es : List (Key × Value)) : (toV es).put (.string k) (.held f) = toV (aput k f es) := by
  simp only [toV, DataW.put, toV_fil, toV_ins, aput]
theorem toV_has (k : Key) : ∀ es : List (Key × Value), Maps.has (toV es) (.string k) = (aget k es).isSome
  | [] => rfl
  | y :: r => by
    have := toV_has k r
    simp only [toV, Maps.has, List.map_cons, List.any_cons, Lit.sameKey, aget] at this ⊢
    by_cases e : y.1 = k
    · simp [e]
    · have e2 : (y.1 == k) = false := by simpa using e
      rw [e2, this]; simp
theorem toV_at (z : Value) (k : Key) : ∀ es : List (Key × Value), (toV es).atKey (.string k) (.held z) = .held ((aget k es).getD z)
  | [] => rfl
  | y :: r => by
    have := toV_at z k r
    simp only [toV, DataW.atKey, List.map_cons, List.find?_cons, Lit.sameKey, aget] at this ⊢
    by_cases e : y.1 = k
    · simp [e]
    · simp only [beq_iff_eq, e, if_false]
      have e2 : (y.1 == k) = false := by simpa using e
      rw [e2]; exact this
theorem toV_size (es : List (Key × Value)) : Maps.size (toV es) = es.length := by simp [toV, Maps.size]
theorem toV_keys (es : List (Key × Value)) : strKeys (toV es) = es.map (·.1) := by simp [toV, strKeys, strOf, Function.comp_def]
theorem keyStrO (s : ByteArray) (hs : s.size ≤ maxLen) : keyOf Tryz.prog 9 (.string s) = some (.string s.data.toList) := WideMaps.keyOf_string_mk Tryz.underlying9 hs
theorem zeroTold (w : World) : (zeroValue 74).run Tryz.prog w = .ok (.agg #[]) w := by kernel_rfl
theorem zeroInner (w : World) : (zeroValue 63).run Tryz.prog w = .ok (.map none) w := by kernel_rfl
theorem zeroRank (w : World) : (zeroValue 68).run Tryz.prog w = .ok (.slice none 0 0) w := by kernel_rfl

/-- The ids that were told: block b. -/
abbrev ToldAt (w : World) (b n : Nat) (es : List (Key × Value)) : Prop := w.ownsMap Tryz.prog 34 heldO b n (toV es)
/-- The ranks of a map's keys: block b. -/
abbrev RanksAt (w : World) (b n : Nat) (es : List (Key × Value)) : Prop := w.ownsMap Tryz.prog 9 heldO b n (toV es)
theorem owns_touchM {S : Nat → Prop} {w w' : World} {ty : TypeId} {m n : Nat} {D : DataW Value} (h : w.ownsMap Tryz.prog ty heldO m n D) (t : Touch S w w') (hm : ¬ S m) : w'.ownsMap Tryz.prog ty heldO m n D := by
  have hl := h.lt
  obtain ⟨es, c, hb, r⟩ := h
  exact ⟨es, c, (t.block m hl hm).trans hb, r⟩
theorem told_look {w : World} {b n : Nat} {es : List (Key × Value)} (h : ToldAt w b n es) {c k : Int} (hc : U64 c) (hk : U64 k) :
    (Instr.lookup 62 (.map (some b)) (idV c k) true).run Tryz.prog w = .ok (.tuple #[(aget (kI c k) es).getD (.agg #[]), .bool (aget (kI c k) es).isSome]) w := by
  obtain ⟨v, ps, hrun, hv⟩ := h.look_ok lawI Tryz.underlying62 (zeroTold w) (R := heldO) rfl (keyI hc hk)
  rw [toV_at] at hv
  rw [toV_has] at hrun
  simp only [heldO, Option.some.injEq, Prod.mk.injEq, DataW.held.injEq] at hv
  rw [hrun, hv.1]
theorem keys_look {w : World} {b n : Nat} {es : List (Key × Value)} (h : ToldAt w b n es) {c k : Int} (hc : U64 c) (hk : U64 k) :
    (Instr.lookup 64 (.map (some b)) (idV c k) false).run Tryz.prog w = .ok ((aget (kI c k) es).getD (.map none)) w := by
  obtain ⟨v, ps, hrun, hv⟩ := h.lookup lawI Tryz.underlying64 (zeroInner w) (R := heldO) rfl (keyI hc hk)
  rw [toV_at] at hv
  simp only [heldO, Option.some.injEq, Prod.mk.injEq, DataW.held.injEq] at hv
  rw [hrun, hv.1]
theorem keys_look2 {w : World} {b n : Nat} {es : List (Key × Value)} (h : ToldAt w b n es) {c k : Int} (hc : U64 c) (hk : U64 k) :
    (Instr.lookup 64 (.map (some b)) (idV c k) true).run Tryz.prog w = .ok (.tuple #[(aget (kI c k) es).getD (.map none), .bool (aget (kI c k) es).isSome]) w := by
  obtain ⟨v, ps, hrun, hv⟩ := h.look_ok lawI Tryz.underlying64 (zeroInner w) (R := heldO) rfl (keyI hc hk)
  rw [toV_at] at hv
  rw [toV_has] at hrun
  simp only [heldO, Option.some.injEq, Prod.mk.injEq, DataW.held.injEq] at hv
  rw [hrun, hv.1]
theorem ranks_look {w : World} {b n : Nat} {es : List (Key × Value)} (h : RanksAt w b n es) (s : ByteArray) (hs : s.size ≤ maxLen) :
    (Instr.lookup 63 (.map (some b)) (.string s) false).run Tryz.prog w = .ok ((aget s.data.toList es).getD (.slice none 0 0)) w := by
  obtain ⟨v, ps, hrun, hv⟩ := h.lookup lawS Tryz.underlying63 (zeroRank w) (R := heldO) rfl (keyStrO s hs)
  rw [toV_at] at hv
  simp only [heldO, Option.some.injEq, Prod.mk.injEq, DataW.held.injEq] at hv
  rw [hrun, hv.1]
theorem ranks_look_nil (w : World) (s : ByteArray) (hs : s.size ≤ maxLen) :
    (Instr.lookup 63 (.map none) (.string s) false).run Tryz.prog w = .ok (.slice none 0 0) w := by
  have := Maps.look_nil (w := w) false lawS Tryz.underlying63 (zeroRank w) (keyStrO s hs)
  simpa using this
theorem told_put {w : World} {b n : Nat} {es : List (Key × Value)} (h : ToldAt w b n es) (hn : n < maxLen) {c k : Int} (hc : U64 c) (hk : U64 k) (v : Value) :
    ∃ w', (Instr.mapUpdate 62 (.map (some b)) (idV c k) v).run Tryz.prog w = .ok () w' ∧ ToldAt w' b (n + 1) (aput (kI c k) v es) ∧ w.mapTurned w' b := by
  obtain ⟨w', h1, h2, h3⟩ := h.store lawI Tryz.underlying62 hn (keyI hc hk) (d := .held v) (ps := []) rfl
  exact ⟨w', h1, by rw [ToldAt, ← toV_put]; exact h2, h3⟩
theorem keys_put {w : World} {b n : Nat} {es : List (Key × Value)} (h : ToldAt w b n es) (hn : n < maxLen) {c k : Int} (hc : U64 c) (hk : U64 k) (v : Value) :
    ∃ w', (Instr.mapUpdate 64 (.map (some b)) (idV c k) v).run Tryz.prog w = .ok () w' ∧ ToldAt w' b (n + 1) (aput (kI c k) v es) ∧ w.mapTurned w' b := by
  obtain ⟨w', h1, h2, h3⟩ := h.store lawI Tryz.underlying64 hn (keyI hc hk) (d := .held v) (ps := []) rfl
  exact ⟨w', h1, by rw [ToldAt, ← toV_put]; exact h2, h3⟩
theorem ranks_put {w : World} {b n : Nat} {es : List (Key × Value)} (h : RanksAt w b n es) (hn : n < maxLen) (s : ByteArray) (hs : s.size ≤ maxLen) (v : Value) :
    ∃ w', (Instr.mapUpdate 63 (.map (some b)) (.string s) v).run Tryz.prog w = .ok () w' ∧ RanksAt w' b (n + 1) (aput s.data.toList v es) ∧ w.mapTurned w' b := by
  obtain ⟨w', h1, h2, h3⟩ := h.store lawS Tryz.underlying63 hn (keyStrO s hs) (d := .held v) (ps := []) rfl
  exact ⟨w', h1, by rw [RanksAt, ← toV_put]; exact h2, h3⟩
/-- A map's update touches its block alone. -/
theorem turned_touch {w w' : World} {b : Nat} (h : w.mapTurned w' b) : Touch (fun k => k = b) w w' := by
  exact (Touch.refl (fun k => k = b) w).grown h.grown fun i e _ => by simpa using e.symm
end Go.Proofs.YtodpdcflbnomgaaGreat
