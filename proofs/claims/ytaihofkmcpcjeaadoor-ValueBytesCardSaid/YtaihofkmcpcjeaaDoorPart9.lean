/- append of a string's bytes to a slice that the call owns: where the answer lies. It speaks of no program. -/
import Derived.Test.YtaihofkmcpcjeaaDoorPart1
import Derived.Lib.AppendStr
import Derived.Test.YtaihofkmcpcjeaaDoorPart8
import Derived.Test.YtaihofkmcpcjeaaDoorPart3
import Derived.Lib.SmallJoins
import Derived.ProofKit
import Derived.OpenShut
namespace Go.Proofs.YtaihofkmcpcjeaaDoor
open Go.RowKit Go.Lib
set_option linter.unusedVariables false

section
variable {P : Program} (w : World)

theorem run_append_own_string_at (base : Nat) (t u ty e : TypeId) (i : TypeInfo) (ht : P.underlying t = some (.slice e)) (hu : P.underlying u = some .string) (hi : P.info? e = some i) (hz : i.zero = some (.int .u8 0))
    (hsize : i.size = 1) (hby : i.bytes = 1)
    (v : Value) (n : Nat) (xs : List Value) (hown : w.ownsRow base e 1 v n xs) (s : ByteArray)
    (h63 : n + s.size ≤ maxLen) (hbytes : n + s.size ≤ 140737488355328) (hbase : base ≤ w.heap.size) :
    ∃ v' w', (Builtin.append_ #[t, u] ty #[v, .string s]).run P w = .ok v' w' ∧ w'.ownsRow base e 1 v' (n + s.size) (xs ++ strCells s) ∧ w.grownBy w' v.ownBlock ∧
      (v'.ownBlock = v.ownBlock ∨ ∀ k, v'.ownBlock = some k → w.heap.size ≤ k) := by
  obtain ⟨v', w', hr, h1, h2, _⟩ := run_append_own_string (P := P) w base t u ty e i ht hu hi hz hsize hby v n xs hown s h63 hbytes hbase
  refine ⟨v', w', hr, h1, h2, ?_⟩
  have hsmall : n + s.size ≤ 9223372036854775807 := by simp only [maxLen] at h63; omega
  have hxl : xs.length = n := by simpa using hown.1
  rcases hown.2 with ⟨rfl, rfl⟩ | ⟨g, cap, cur, rfl, hbg, hg, hnc, hcm, hcs, htake⟩
  · have hx : xs = [] := List.eq_nil_of_length_eq_zero hxl
    subst hx
    obtain ⟨v2, w2, hr2, h12, _⟩ := run_append_own_string (P := P) w w.heap.size t u ty e i ht hu hi hz hsize hby (.slice none 0 0) 0 [] (World.ownsRow_nil _ _ _ _) s h63 hbytes (Nat.le_refl _)
    rw [hr] at hr2
    cases hr2
    right
    intro k hk
    exact (h12.lt k hk).1
  · by_cases hroom : n + s.size ≤ cap
    · have hcs' : cur.size = cap := by simpa using hcs
      have hr2 := run_append_room_string (P := P) w t u ty e i ht hu hi hsize g n cap cur hg s hroom (by omega)
      rw [hr] at hr2
      cases hr2
      exact .inl rfl
    · have holds : ∀ j u, xs[j]? = some u → w.cell? ((⟨g, 0, none⟩ : Addr).add j) = some u := hown.cells (g := g) rfl
      have hr2 := run_append_grow_string (P := P) w t u ty e i (.int .u8 0) ht hu hi hz ⟨g, 0, none⟩ n cap xs (by rw [hsize]; simpa using hxl) holds s (by omega) (by omega) (by rw [hby]; exact growslice_fits (by omega) (by omega))
      rw [hr] at hr2
      cases hr2
      right
      intro k hk
      simp only [Value.ownBlock, Option.some.injEq] at hk
      omega

theorem wpList_append_own_string_at {ops : Array Oper} {rest : List Oper} {o : Oper} {a : Act} {Q : Exit → Act → World → Prop} (hgd : o.guard = none) (sl x : Operand) (t u : TypeId)
    (ho : o.op = .call { callee := .builtin .append, args := #[sl, x], argTypes := #[t, u] })
    (base : Nat) (e : TypeId) (i : TypeInfo) (ht : P.underlying t = some (.slice e)) (hu : P.underlying u = some .string) (hi : P.info? e = some i) (hz : i.zero = some (.int .u8 0))
    (hsize : i.size = 1) (hby : i.bytes = 1)
    (v : Value) (n : Nat) (xs : List Value) (hs : a.eval sl = v) (hown : w.ownsRow base e 1 v n xs) (s : ByteArray) (hx : a.eval x = .string s)
    (h63 : n + s.size ≤ maxLen) (hbytes : n + s.size ≤ 140737488355328) (hbase : base ≤ w.heap.size)
    (h : ∀ v' w', w'.ownsRow base e 1 v' (n + s.size) (xs ++ strCells s) → w.grownBy w' v.ownBlock → (v'.ownBlock = v.ownBlock ∨ ∀ k, v'.ownBlock = some k → w.heap.size ≤ k) → wpList P ops Q rest (a.put o.dst v') w') : wpList P ops Q (o :: rest) a w := by
  refine wpList_plain hgd fun K hK => ?_
  obtain ⟨v', w', hr, h2, h3, h4⟩ := run_append_own_string_at (P := P) w base t u o.type e i ht hu hi hz hsize hby v n xs hown s h63 hbytes hbase
  unfold Oper.wp execOp
  simp only [ho, resolve, invoke, builtin, Sem.run_bind, Sem.run_pure, Result.andThen_ok, List.map_toArray, List.map_cons, List.map_nil, hs, hx, hr]
  exact hK _ _ (h v' w' h2 h3 h4)
end
end Go.Proofs.YtaihofkmcpcjeaaDoor

/- The contract of wire's Writer.Text. -/
namespace Go.Proofs.YtaihofkmcpcjeaaDoor
open Go.RowKit
set_option linter.unusedVariables false

set_option maxRecDepth 100000 in
set_option maxHeartbeats 400000 in
theorem wtext_any (p : Nat) (bs : List UInt8) (s : ByteArray) (w : World) (h : Wr w p bs) (hl : bs.length + 10 + s.size ≤ 140737488355328) :
    Calls Tryd.prog 52 #[.pointer (some ⟨p, 0, none⟩), .string s] w fun e w' => e = .returned (.tuple #[]) ∧ WrPost p (bs ++ putT s) w w' := by
  obtain ⟨i0, hi, hz0, hz1, hz2⟩ := info_parts Tryd.infoByte
  go_enter Tryd.func52, Tryd.ntmps52
  go_wp2_with fail
  refine (wuint_any p bs s.size (by omega) w h (by omega) _ ?_).mono ?_
  · rfl
  rintro e w1 ⟨rfl, hW⟩
  have hpl := putGo_length 9 s.size
  obtain ⟨v, hp, hown⟩ := id hW.is
  have c0 : w1.cell? ⟨p, 0, none⟩ = some v := by rw [cell_of_block hp]; rfl
  have hcs : (bs ++ putU s.size).length ≤ bs.length + 10 := by rw [List.length_append]; unfold putU; omega
  have HW : Hid (WrPost p (bs ++ putU s.size) w w1) := hW
  generalize hc : bs ++ putU s.size = cs at *
  have HC : Hid (bs ++ putU s.size = cs) := hc
  clear hW hc h hpl
  go_wp2_with (first | (at_builtin; refine wpList_append_own_string_at _ rfl _ _ 40 9 rfl 0 5 i0 Tryd.underlying40 Tryd.underlying9 hi hz0 hz1 hz2 _ _ _ rfl hown s rfl ?c3 ?c4 ?c5 ?_))
  case c3 => unfold maxLen; omega
  case c4 => omega
  case c5 => exact Nat.zero_le _
  intro v' w2 hown' hgrow hat
  have HQ : Hid (WrPost p (bs ++ putT s) w (w2.setCell ⟨p, 0, none⟩ v')) := by
    have e1 : cellsOf (cs ++ s.data.toList) = cellsOf cs ++ Lib.strCells s := by rw [cellsOf_append]; rfl
    have e2 : (cs ++ s.data.toList).length = cs.length + s.size := by rw [List.length_append]; rfl
    rw [← e1, ← e2] at hown'
    have := WrPost.appended hp hown (Touch.refl _ w1) hown' hgrow (by
      intro k hk hlt
      rcases hat with e | e
      · rw [← e]; exact hk
      · have := e k hk; omega)
    have := HW.out.trans this
    rw [← HC.out, List.append_assoc] at this
    exact this
  have hpv : some p ≠ v.ownBlock := fun e => row_ne hp hown e.symm rfl
  have h2 : w2.heap[p]? = some (.cells #[v] 42 (0, 0)) := (hgrow.block p (lt_of_heap hp) hpv).trans hp
  have c1 : w2.cell? ⟨p, 0, none⟩ = some v := by rw [cell_of_block h2]; rfl
  have z1 : w2.frozen? ⟨p, 0, none⟩ = false := free_of_block h2
  obtain ⟨ao, n', cap', rfl⟩ : ∃ ao n cap, v' = .slice ao n cap := by
    rcases hown'.2 with ⟨e, _⟩ | ⟨g, cap, cur, e, _⟩
    · exact ⟨_, _, _, e⟩
    · exact ⟨_, _, _, e⟩
  clear hown' hgrow hat hown hpv h2 hp
  go_wp2_with fail
  go_end0
  exact ⟨rfl, HQ.out⟩
end Go.Proofs.YtaihofkmcpcjeaaDoor

/- Arguments that are values (api.Value): from their reading to what they hold. -/
namespace Go.Proofs.YtaihofkmcpcjeaaDoor
open Go.ChangeShapes Go.WideShapes Go.ChangeAt Go.RowKit Go.Joins
set_option linter.unusedVariables false

theorem trod_f64 {H : Type} {enc : TypeId × Value → H} {P : Program} {w : World} {base : Nat} {spare : Nat → Bool} {held : Bool} {fuel : Nat} {t : TypeId} {cs : List Value} {x : DataW H × List MemPlace} (ht : P.underlying t = some (.float .f64)) (h : DataW.trod enc P w base spare held fuel t cs = some x) :
    ∃ b : Nat, cs = [.float .f64 b] ∧ b < 18446744073709551616 := by
  cases fuel with
  | zero => simp [DataW.trod] at h
  | succ n =>
    unfold DataW.trod at h
    rw [ht] at h
    match cs, h with
    | [.float k b], h =>
      simp only at h
      split at h
      · rename_i hc
        obtain ⟨e, hw⟩ := hc
        subst e
        exact ⟨b, rfl, of_decide_eq_true hw⟩
      · cases h

/-- A value that fits. -/
structure V.fits (v : V) : Prop where
  k0 : -9223372036854775808 ≤ v.k
  k1 : v.k < 9223372036854775808
  n0 : -9223372036854775808 ≤ v.n
  n1 : v.n < 9223372036854775808
  f1 : v.f < 18446744073709551616
  s1 : v.s.size ≤ 9223372036854775807

set_option maxRecDepth 100000 in
theorem cellsVal : Tryd.prog.cellsOf 24 = 4 := by kernel_rfl

set_option maxRecDepth 100000 in
theorem isVal_of {H : Type} {enc : TypeId × Value → H} {w : World} {base b0 : Nat} {spare : Nat → Bool} {held : Bool} {v : Value} {d : DataW H} {p : List MemPlace}
    (hv : Value.okWide Tryd.prog w .any b0 24 v) (h : DataW.Trod enc Tryd.prog w base spare held 24 v d p) : ∃ x : V, v = x.val ∧ x.fits := by
  obtain ⟨v0, v1, v2, v3, y0, y1, y2, y3, m, rfl, rfl, rfl, h0, h1, h2, h3⟩ := open_agg4 Tryd.underlying24 (by kernel_rfl) cellsVal hv h
  obtain ⟨k, e0, _, w0⟩ := DataW.trod_int Tryd.underlying3 h0
  obtain ⟨n, e1, _, w1⟩ := DataW.trod_int Tryd.underlying2 h1
  obtain ⟨f, e2, w2⟩ := trod_f64 Tryd.underlying22 h2
  obtain ⟨s, e3, _, w3⟩ := DataW.trod_string Tryd.underlying9 h3
  simp at e0 e1 e2 e3
  subst e0 e1 e2 e3
  simp [Lit.wf, IntKind.min, IntKind.max, IntKind.signed, IntKind.bits] at w0 w1
  exact ⟨⟨k, n, f, s⟩, rfl, ⟨by simp only; omega, by simp only; omega, by simp only; omega, by simp only; omega, w2, by simp only [maxLen] at w3; simp only; omega⟩⟩
end Go.Proofs.YtaihofkmcpcjeaaDoor
