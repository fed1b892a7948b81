/- Package marks: spans; greatestFirst. -/
import Derived.Test.YtnilikomoapcaaaGreatPart22
import Derived.Deep.MidRow
import Derived.Test.YtnilikomoapcaaaGreatPart20
import Derived.Maps.OwnSet
import Derived.Maps.OwnIn
namespace Go.Proofs.YtnilikomoapcaaaGreat
open Go.RowKit Go.Shelf
set_option linter.unusedVariables false
set_option linter.unusedSimpArgs false
set_option maxRecDepth 100000

theorem spans_any (s v : Value) (w : World) (hs : ∃ p, s = .pointer (some ⟨p, 0, none⟩)) (hv : ∃ ao n cap, v = .slice ao n cap) : Calls Tryz.prog 29 #[s, v] w fun e w' => e = .returned (.func (.func 59) #[] #[.pointer (some ⟨w.heap.size + 1, 0, none⟩), .pointer (some ⟨w.heap.size, 0, none⟩)]) ∧ w' = (w.alloc (.cells #[s] 24)).alloc (.cells #[v] 41) := by
  obtain ⟨p, rfl⟩ := hs
  obtain ⟨ao, n, cap, rfl⟩ := hv
  go_enter Tryz.func29, Tryz.ntmps29
  go_wp2_with fail
  go_ret
  exact ⟨rfl, rfl⟩
abbrev spnO (x : Spn) : Obj := .cells (#[.int .i64 x.f, .int .i64 x.t, .int .u64 x.o.c, .int .u64 x.o.k, .int .i64 x.o.kind, .int .u64 x.o.st, .int .u64 x.o.lc, .int .u64 x.o.lk, .int .u64 x.o.rc, .int .u64 x.o.rk, .string x.o.tx, .int .i64 x.o.vk, .int .i64 x.o.vn, .float .f64 x.o.vf, .string x.o.vs, .string x.o.ky, .int .u64 x.o.pc, .int .u64 x.o.pk, .int .u64 x.o.fc, .int .u64 x.o.fk, .bool x.o.fa, .int .u64 x.o.tc, .int .u64 x.o.tk, .bool x.o.ta]) 88
theorem rangeAt_spn {W : World} {m : Nat} {x : Spn} (h : W.heap[m]? = some (spnO x)) : W.rangeAt m 2 x.o.vals.toList := by
  intro j v hv
  rw [cell_of_block h, show 2 + j = j + 1 + 1 by omega]
  simpa using hv
/-- Which of two spans comes first: the greater mark. -/
def greatM (a b : O) : Int := if lessM b a then -1 else if lessM a b then 1 else 0
set_option maxHeartbeats 4000000 in
theorem greatest_any (a b : Spn) (w : World) : Calls Tryz.prog 64 #[spnV a.f a.t a.o, spnV b.f b.t b.o] w fun e w' => e = .returned (.int .i64 (greatM a.o b.o)) ∧ Touch (fun _ => False) w w' := by
  obtain ⟨E, hE⟩ : ∃ E, Hid (E = (w.alloc (spnO a)).alloc (spnO b)) := ⟨_, Eq.refl _⟩
  have HTE : Hid (Touch (fun _ => False) w E) := by rw [hE.out]; exact ((Touch.refl _ _).alloc _).alloc _
  have HB : Hid (∀ W, Touch (fun _ => False) E W → W.heap[w.heap.size]? = some (spnO a) ∧ W.heap[w.heap.size + 1]? = some (spnO b)) := by
    have h1 : E.heap[w.heap.size]? = some (spnO a) := by rw [hE.out]; exact (Below.heap_alloc _ _ _ (by simp)).trans (heap_alloc_new _ _)
    have h2 : E.heap[w.heap.size + 1]? = some (spnO b) := by
      have := heap_alloc_new (w.alloc (spnO a)) (spnO b)
      rw [World.size_alloc] at this
      rw [hE.out]; exact this
    exact fun W t => ⟨heap_keep t h1, heap_keep t h2⟩
  have HL1 : Hid (∀ W, Calls Tryz.prog 20 #[b.o.val, a.o.val] W fun e w' => e = .returned (.bool (lessM b.o a.o)) ∧ Touch (fun _ => False) W w') := mless_any b.o a.o
  have HL2 : Hid (∀ W, Calls Tryz.prog 20 #[a.o.val, b.o.val] W fun e w' => e = .returned (.bool (lessM a.o b.o)) ∧ Touch (fun _ => False) W w') := mless_any a.o b.o
  have HG : Hid (greatM a.o b.o = if lessM b.o a.o then -1 else if lessM a.o b.o then 1 else 0) := rfl
  generalize greatM a.o b.o = gr at *
  generalize lessM b.o a.o = c1 at *
  generalize lessM a.o b.o = c2 at *
  obtain ⟨af, at_, x⟩ := a
  obtain ⟨bf, bt, y⟩ := b
  simp only at HL1 HL2 HB hE ⊢
  go_enter Tryz.func64, Tryz.ntmps64
  go_upto_region 1 with fail
  rw [← hE.out]
  clear hE
  refine wp_region_lit ?_
  refine wpList_plain rfl fun K hK => ?_
  go_simp
  refine hK _ _ ?_
  clear hK K
  refine wpList_load_mid rfl 39 (.tmp 6) rfl (w.heap.size + 1) 2 rfl y.vals.toList _ (rangeAt_spn (HB.out E (Touch.refl _ _)).2) Tryz.underlying39 rfl (by kernel_rfl) ?_
  simp only [Act.put, List.setIfInBounds_toArray, List.set_cons_succ, List.set_cons_zero]
  refine wpList_plain rfl fun K hK => ?_
  go_simp
  refine hK _ _ ?_
  clear hK K
  refine wpList_load_mid rfl 39 (.tmp 8) rfl w.heap.size 2 rfl x.vals.toList _ (rangeAt_spn (HB.out E (Touch.refl _ _)).1) Tryz.underlying39 rfl (by kernel_rfl) ?_
  simp only [Act.put, List.setIfInBounds_toArray, List.set_cons_succ, List.set_cons_zero]
  refine wpList_plain rfl fun K hK => ?_
  go_simp
  refine (HL1.out _).mono ?_
  rintro e W1 ⟨rfl, t1⟩
  refine hK _ _ ?_
  clear hK K
  have HT1 : Hid (Touch (fun _ => False) E W1) := t1
  clear t1 HL1
  generalize Value.agg #[.int .u64 x.c, .int .u64 x.k, .int .i64 x.kind, .int .u64 x.st, .int .u64 x.lc, .int .u64 x.lk, .int .u64 x.rc, .int .u64 x.rk, .string x.tx, .int .i64 x.vk, .int .i64 x.vn, .float .f64 x.vf, .string x.vs, .string x.ky, .int .u64 x.pc, .int .u64 x.pk, .int .u64 x.fc, .int .u64 x.fk, .bool x.fa, .int .u64 x.tc, .int .u64 x.tk, .bool x.ta] = v9
  generalize Value.agg #[.int .u64 y.c, .int .u64 y.k, .int .i64 y.kind, .int .u64 y.st, .int .u64 y.lc, .int .u64 y.lk, .int .u64 y.rc, .int .u64 y.rk, .string y.tx, .int .i64 y.vk, .int .i64 y.vn, .float .f64 y.vf, .string y.vs, .string y.ky, .int .u64 y.pc, .int .u64 y.pk, .int .u64 y.fc, .int .u64 y.fk, .bool y.fa, .int .u64 y.tc, .int .u64 y.tk, .bool y.ta] = v7
  cases c1 with
  | true =>
    go_wp2_with fail
    go_ret
    exact ⟨by rw [HG.out]; rfl, HTE.out.trans HT1.out⟩
  | false =>
    go_upto_region 3 with fail
    refine wp_region_lit ?_
    refine wpList_plain rfl fun K hK => ?_
    go_simp
    refine hK _ _ ?_
    clear hK K
    refine wpList_load_mid rfl 39 (.tmp 12) rfl w.heap.size 2 rfl x.vals.toList _ (rangeAt_spn (HB.out W1 HT1.out).1) Tryz.underlying39 rfl (by kernel_rfl) ?_
    simp only [Act.put, List.setIfInBounds_toArray, List.set_cons_succ, List.set_cons_zero]
    refine wpList_plain rfl fun K hK => ?_
    go_simp
    refine hK _ _ ?_
    clear hK K
    refine wpList_load_mid rfl 39 (.tmp 14) rfl (w.heap.size + 1) 2 rfl y.vals.toList _ (rangeAt_spn (HB.out W1 HT1.out).2) Tryz.underlying39 rfl (by kernel_rfl) ?_
    simp only [Act.put, List.setIfInBounds_toArray, List.set_cons_succ, List.set_cons_zero]
    refine wpList_plain rfl fun K hK => ?_
    go_simp
    refine (HL2.out _).mono ?_
    rintro e W2 ⟨rfl, t2⟩
    refine hK _ _ ?_
    clear hK K
    have HT2 : Hid (Touch (fun _ => False) w W2) := (HTE.out.trans HT1.out).trans t2
    clear t2 HL2 HT1 HB
    generalize Value.agg #[.int .u64 x.c, .int .u64 x.k, .int .i64 x.kind, .int .u64 x.st, .int .u64 x.lc, .int .u64 x.lk, .int .u64 x.rc, .int .u64 x.rk, .string x.tx, .int .i64 x.vk, .int .i64 x.vn, .float .f64 x.vf, .string x.vs, .string x.ky, .int .u64 x.pc, .int .u64 x.pk, .int .u64 x.fc, .int .u64 x.fk, .bool x.fa, .int .u64 x.tc, .int .u64 x.tk, .bool x.ta] = v13
    generalize Value.agg #[.int .u64 y.c, .int .u64 y.k, .int .i64 y.kind, .int .u64 y.st, .int .u64 y.lc, .int .u64 y.lk, .int .u64 y.rc, .int .u64 y.rk, .string y.tx, .int .i64 y.vk, .int .i64 y.vn, .float .f64 y.vf, .string y.vs, .string y.ky, .int .u64 y.pc, .int .u64 y.pk, .int .u64 y.fc, .int .u64 y.fk, .bool y.fa, .int .u64 y.tc, .int .u64 y.tk, .bool y.ta] = v15
    cases c2 with
    | true =>
      go_wp2_with fail
      go_ret
      exact ⟨by rw [HG.out]; rfl, HT2.out⟩
    | false =>
      go_wp2_with fail
      go_ret
      exact ⟨by rw [HG.out]; rfl, HT2.out⟩
end Go.Proofs.YtnilikomoapcaaaGreat

/- A map of strings to operations: its datum, lookups and updates within a round. -/
namespace Go.Proofs.YtnilikomoapcaaaGreat
open Go.RowKit Go.Maps
set_option linter.unusedVariables false
set_option linter.unusedSimpArgs false
set_option maxRecDepth 100000

abbrev zeroOO : O := ⟨0, 0, 0, 0, 0, 0, 0, 0, ⟨#[]⟩, 0, 0, 0, ⟨#[]⟩, ⟨#[]⟩, 0, 0, 0, 0, false, 0, 0, false⟩
def getO (k : Key) (es : List (Key × O)) : O := (aget k es).getD zeroOO
/-- How an element reads: as itself. -/
def heldO (v : Value) : Option (DataW Value × List MemPlace) := some (.held v, [])
def toO (es : List (Key × O)) : DataW Value := .map (es.map fun p => (.string p.1, .held p.2.val))

theorem toO_ins (k : Key) (f : O) : ∀ es : List (Key × O), DataW.insert (Lit.string k, DataW.held f.val) (es.map fun p => (Lit.string p.1, DataW.held p.2.val)) = (ains k f es).map fun p => (Lit.string p.1, DataW.held p.2.val)
  | [] => rfl
  | y :: r => by
    have ih := toO_ins k f r
    by_cases e : bytesBefore k y.1 = true
    · have e2 : (Lit.string k).before (Lit.string y.1) = true := e
      simp [ains, DataW.insert, e, e2]
    · have e2 : ¬ (Lit.string k).before (Lit.string y.1) = true := e
      simp [ains, DataW.insert, e, e2, ih]
theorem toO_fil (k : Key) (es : List (Key × O)) : (es.map fun p => (Lit.string p.1, DataW.held (H := Value) p.2.val)).filter (fun p => !p.1.sameKey (.string k)) = (adel k es).map fun p => (Lit.string p.1, DataW.held p.2.val) := by
  simp only [adel, List.filter_map, Function.comp_def, Lit.sameKey]
theorem toO_put (k : Key) (f : O) (es : List (Key × O)) : (toO es).put (.string k) (.held f.val) = toO (aput k f es) := by
  simp only [toO, DataW.put, toO_fil, toO_ins, aput]
theorem toO_del (k : Key) (es : List (Key × O)) : (toO es).del (.string k) = toO (adel k es) := by
  simp only [toO, DataW.del, toO_fil]
theorem toO_has (k : Key) : ∀ es : List (Key × O), Maps.has (toO es) (.string k) = (aget k es).isSome
  | [] => rfl
  | y :: r => by
    have := toO_has k r
    simp only [toO, Maps.has, List.map_cons, List.any_cons, Lit.sameKey, aget] at this ⊢
    by_cases e : y.1 = k
    · simp [e]
    · have e2 : (y.1 == k) = false := by simpa using e
      rw [e2, this]; simp
theorem toO_at (k : Key) : ∀ es : List (Key × O), (toO es).atKey (.string k) (.held zeroOO.val) = .held (getO k es).val
  | [] => rfl
  | y :: r => by
    have := toO_at k r
    simp only [toO, DataW.atKey, List.map_cons, List.find?_cons, Lit.sameKey, getO, aget] at this ⊢
    by_cases e : y.1 = k
    · simp [e]
    · simp only [beq_iff_eq, e, if_false]
      have e2 : (y.1 == k) = false := by simpa using e
      rw [e2]; exact this
theorem toO_size (es : List (Key × O)) : Maps.size (toO es) = es.length := by simp [toO, Maps.size]
theorem toO_keys (es : List (Key × O)) : strKeys (toO es) = es.map (·.1) := by simp [toO, strKeys, strOf, Function.comp_def]
theorem lawS : Keyed Tryz.prog 9 := string_keyed Tryz.underlying9
theorem keyStrO (s : ByteArray) (hs : s.size ≤ maxLen) : keyOf Tryz.prog 9 (.string s) = some (.string s.data.toList) := WideMaps.keyOf_string_mk Tryz.underlying9 hs
theorem zeroOpRun (w : World) : (zeroValue 39).run Tryz.prog w = .ok zeroOO.val w := by kernel_rfl
theorem ownsO_touch {S : Nat → Prop} {w w' : World} {m n : Nat} {D : DataW Value} (h : w.ownsMap Tryz.prog 9 heldO m n D) (t : Touch S w w') (hm : ¬ S m) : w'.ownsMap Tryz.prog 9 heldO m n D := by
  have hl := h.lt
  obtain ⟨es, c, hb, r⟩ := h
  exact ⟨es, c, (t.block m hl hm).trans hb, r⟩
section
variable {F : Fence} {nF : Nat}
theorem wpListIn_lookO (w : World) {ops : Array Oper} {rest : List Oper} {o : Oper} {a : Act} {Q : Exit → Act → World → Prop}
    (hg : o.guard = none) (m x : Operand) (hop : o.op = Op.lookup 102 m x true) (b n : Nat) (es : List (Key × O))
    (hm : a.eval m = .map (some b)) (hown : w.ownsMap Tryz.prog 9 heldO b n (toO es)) (s : ByteArray) (hs : s.size ≤ maxLen) (hx : a.eval x = .string s)
    (hK : wpListIn F nF Tryz.prog ops Q rest (a.put o.dst (.tuple #[(getO s.data.toList es).val, .bool (aget s.data.toList es).isSome])) w) :
    wpListIn F nF Tryz.prog ops Q (o :: rest) a w :=
  wpListIn_lookup_own_ok w hg m x _ hop 9 39 lawS Tryz.underlying102 heldO (zeroOpRun w) (.held zeroOO.val) [] rfl b n (toO es) hm hown _ _ hx (keyStrO s hs) fun v ps hv => by
    rw [toO_at] at hv
    rw [toO_has]
    simp only [heldO, Option.some.injEq, Prod.mk.injEq, DataW.held.injEq] at hv
    rw [hv.1]; exact hK
theorem wpListIn_putO (w : World) {ops : Array Oper} {rest : List Oper} {o : Oper} {a : Act} {Q : Exit → Act → World → Prop}
    (hg : o.guard = none) (m x v : Operand) (hop : o.op = Op.mapUpdate 102 m x v) (b n : Nat) (es : List (Key × O))
    (hm : a.eval m = .map (some b)) (hown : w.ownsMap Tryz.prog 9 heldO b n (toO es)) (hn : n < maxLen) (s : ByteArray) (hs : s.size ≤ maxLen) (hx : a.eval x = .string s) (y : O) (hv : a.eval v = y.val)
    (hK : ∀ w', w'.ownsMap Tryz.prog 9 heldO b (n + 1) (toO (aput s.data.toList y es)) → w.mapTurned w' b → wpListIn F nF Tryz.prog ops Q rest (a.put o.dst undef) w') :
    wpListIn F nF Tryz.prog ops Q (o :: rest) a w :=
  wpListIn_mapUpdate_in w hg m x v _ hop 9 39 lawS Tryz.underlying102 heldO b n (toO es) hm hown hn _ _ _ hx hv (keyStrO s hs) (.held y.val) [] rfl fun w' h1 h2 => hK w' (by rw [← toO_put]; exact h1) h2
end
end Go.Proofs.YtnilikomoapcaaaGreat

/- A map of strings to slices of spans: its datum, lookups and updates within a round. -/
namespace Go.Proofs.YtnilikomoapcaaaGreat
open Go.RowKit Go.Maps
set_option linter.unusedVariables false
set_option linter.unusedSimpArgs false
set_option maxRecDepth 100000

abbrev zeroVV : Value := .slice none 0 0
def getV (k : Key) (es : List (Key × Value)) : Value := (aget k es).getD zeroVV
def toV (es : List (Key × Value)) : DataW Value := .map (es.map fun p => (.string p.1, .held p.2))

theorem toV_ins (k : Key) (f : Value) : ∀ es : List (Key × Value), DataW.insert (Lit.string k, DataW.held f) (es.map fun p => (Lit.string p.1, DataW.held p.2)) = (ains k f es).map fun p => (Lit.string p.1, DataW.held p.2)
  | [] => rfl
  | y :: r => by
    have ih := toV_ins k f r
    by_cases e : bytesBefore k y.1 = true
    · have e2 : (Lit.string k).before (Lit.string y.1) = true := e
      simp [ains, DataW.insert, e, e2]
    · have e2 : ¬ (Lit.string k).before (Lit.string y.1) = true := e
      simp [ains, DataW.insert, e, e2, ih]
theorem toV_fil (k : Key) (es : List (Key × Value)) : (es.map fun p => (Lit.string p.1, DataW.held (H := Value) p.2)).filter (fun p => !p.1.sameKey (.string k)) = (adel k es).map fun p => (Lit.string p.1, DataW.held p.2) := by
  simp only [adel, List.filter_map, Function.comp_def, Lit.sameKey]
theorem toV_put (k : Key) (f : Value) (es : List (Key × Value)) : (toV es).put (.string k) (.held f) = toV (aput k f es) := by
  simp only [toV, DataW.put, toV_fil, toV_ins, aput]
theorem toV_del (k : Key) (es : List (Key × Value)) : (toV es).del (.string k) = toV (adel k es) := by
  simp only [toV, DataW.del, toV_fil]
theorem toV_has (k : Key) : ∀ es : List (Key × Value), Maps.has (toV es) (.string k) = (aget k es).isSome
  | [] => rfl
  | y :: r => by
    have := toV_has k r
    simp only [toV, Maps.has, List.map_cons, List.any_cons, Lit.sameKey, aget] at this ⊢
    by_cases e : y.1 = k
    · simp [e]
    · have e2 : (y.1 == k) = false := by simpa using e
      rw [e2, this]; simp
theorem toV_at (k : Key) : ∀ es : List (Key × Value), (toV es).atKey (.string k) (.held zeroVV) = .held (getV k es)
  | [] => rfl
  | y :: r => by
    have := toV_at k r
    simp only [toV, DataW.atKey, List.map_cons, List.find?_cons, Lit.sameKey, getV, aget] at this ⊢
    by_cases e : y.1 = k
    · simp [e]
    · simp only [beq_iff_eq, e, if_false]
      have e2 : (y.1 == k) = false := by simpa using e
      rw [e2]; exact this
theorem toV_size (es : List (Key × Value)) : Maps.size (toV es) = es.length := by simp [toV, Maps.size]
theorem toV_keys (es : List (Key × Value)) : strKeys (toV es) = es.map (·.1) := by simp [toV, strKeys, strOf, Function.comp_def]
theorem zeroVRun (w : World) : (zeroValue 89).run Tryz.prog w = .ok zeroVV w := by kernel_rfl
section
variable {F : Fence} {nF : Nat}
theorem wpListIn_lookV (w : World) {ops : Array Oper} {rest : List Oper} {o : Oper} {a : Act} {Q : Exit → Act → World → Prop}
    (hg : o.guard = none) (m x : Operand) (hop : o.op = Op.lookup 83 m x true) (b n : Nat) (es : List (Key × Value))
    (hm : a.eval m = .map (some b)) (hown : w.ownsMap Tryz.prog 9 heldO b n (toV es)) (s : ByteArray) (hs : s.size ≤ maxLen) (hx : a.eval x = .string s)
    (hK : wpListIn F nF Tryz.prog ops Q rest (a.put o.dst (.tuple #[(getV s.data.toList es), .bool (aget s.data.toList es).isSome])) w) :
    wpListIn F nF Tryz.prog ops Q (o :: rest) a w :=
  wpListIn_lookup_own_ok w hg m x _ hop 9 89 lawS Tryz.underlying83 heldO (zeroVRun w) (.held zeroVV) [] rfl b n (toV es) hm hown _ _ hx (keyStrO s hs) fun v ps hv => by
    rw [toV_at] at hv
    rw [toV_has]
    simp only [heldO, Option.some.injEq, Prod.mk.injEq, DataW.held.injEq] at hv
    rw [hv.1]; exact hK
theorem wpListIn_putV (w : World) {ops : Array Oper} {rest : List Oper} {o : Oper} {a : Act} {Q : Exit → Act → World → Prop}
    (hg : o.guard = none) (m x v : Operand) (hop : o.op = Op.mapUpdate 83 m x v) (b n : Nat) (es : List (Key × Value))
    (hm : a.eval m = .map (some b)) (hown : w.ownsMap Tryz.prog 9 heldO b n (toV es)) (hn : n < maxLen) (s : ByteArray) (hs : s.size ≤ maxLen) (hx : a.eval x = .string s) (y : Value) (hv : a.eval v = y)
    (hK : ∀ w', w'.ownsMap Tryz.prog 9 heldO b (n + 1) (toV (aput s.data.toList y es)) → w.mapTurned w' b → wpListIn F nF Tryz.prog ops Q rest (a.put o.dst undef) w') :
    wpListIn F nF Tryz.prog ops Q (o :: rest) a w :=
  wpListIn_mapUpdate_in w hg m x v _ hop 9 89 lawS Tryz.underlying83 heldO b n (toV es) hm hown hn _ _ _ hx hv (keyStrO s hs) (.held y) [] rfl fun w' h1 h2 => hK w' (by rw [← toV_put]; exact h1) h2
theorem wpListIn_lookV1 (w : World) {ops : Array Oper} {rest : List Oper} {o : Oper} {a : Act} {Q : Exit → Act → World → Prop}
    (hg : o.guard = none) (m x : Operand) (hop : o.op = Op.lookup 83 m x false) (b n : Nat) (es : List (Key × Value))
    (hm : a.eval m = .map (some b)) (hown : w.ownsMap Tryz.prog 9 heldO b n (toV es)) (s : ByteArray) (hs : s.size ≤ maxLen) (hx : a.eval x = .string s)
    (hK : wpListIn F nF Tryz.prog ops Q rest (a.put o.dst (getV s.data.toList es)) w) :
    wpListIn F nF Tryz.prog ops Q (o :: rest) a w := by
  refine wpListIn_plain hg fun K' hK' => ?_
  obtain ⟨v, ps, hrun, hv⟩ := hown.lookup lawS Tryz.underlying83 (zeroVRun w) (R := heldO) rfl (keyStrO s hs)
  rw [toV_at] at hv
  simp only [heldO, Option.some.injEq, Prod.mk.injEq, DataW.held.injEq] at hv
  rw [hv.1] at hrun
  unfold Oper.wpIn
  refine ⟨by simp [Oper.about, hop], ?_⟩
  rw [Oper.semAt_plain F _ _ (by rw [hop]; intro c hc'; cases hc')]
  simp [execOp, hop, hm, hx, hrun, Result.andThen]
  exact hK' _ _ hK
end
end Go.Proofs.YtnilikomoapcaaaGreat
