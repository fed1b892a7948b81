/- The contract of utf.Cut. -/
import Derived.Test.YtmknkecaeagmbaaGreatDoorPart5
import Derived.Test.YtmknkecaeagmbaaGreatDoorPart1
namespace Go.Proofs.YtmknkecaeagmbaaGreatDoor
open Go.RowKit Go.Shelf
set_option linter.unusedVariables false
set_option maxRecDepth 100000
attribute [local go_sem] Oper.semAt_some

/-- Where a piece ends, and begins, in bytes, behind some rounds. -/
def cEnd (l : List (Nat × Nat)) : Int := l.foldl (fun a x => a + Go.Lib.runeLen (x.2 : Int)) 0
def cBeg (fr : Int) (l : List (Nat × Nat)) : Int := (l.foldl (fun (p : Int × Int) x => (if (x.1 : Int) < fr then p.2 + Go.Lib.runeLen (x.2 : Int) else p.1, p.2 + Go.Lib.runeLen (x.2 : Int))) (0, 0)).1
theorem cPair (fr : Int) (l : List (Nat × Nat)) : (l.foldl (fun (p : Int × Int) x => (if (x.1 : Int) < fr then p.2 + Go.Lib.runeLen (x.2 : Int) else p.1, p.2 + Go.Lib.runeLen (x.2 : Int))) (0, 0)) = (cBeg fr l, cEnd l) := by
  have h : ∀ (l : List (Nat × Nat)) (a b : Int), (l.foldl (fun (p : Int × Int) x => (if (x.1 : Int) < fr then p.2 + Go.Lib.runeLen (x.2 : Int) else p.1, p.2 + Go.Lib.runeLen (x.2 : Int))) (a, b)).2 = l.foldl (fun a x => a + Go.Lib.runeLen (x.2 : Int)) b := by
    intro l
    induction l with
    | nil => intro a b; rfl
    | cons x l ih => intro a b; simp only [List.foldl_cons]; rw [ih]
  exact Prod.ext rfl (h l 0 0)
theorem cEnd_snoc (l : List (Nat × Nat)) (x : Nat × Nat) : cEnd (l ++ [x]) = cEnd l + Go.Lib.runeLen (x.2 : Int) := by simp [cEnd]
theorem cBeg_snoc (fr : Int) (l : List (Nat × Nat)) (x : Nat × Nat) : cBeg fr (l ++ [x]) = if (x.1 : Int) < fr then cEnd l + Go.Lib.runeLen (x.2 : Int) else cBeg fr l := by
  have h := cPair fr l
  unfold cBeg at h ⊢
  rw [List.foldl_append, h]
  simp only [List.foldl_cons, List.foldl_nil]
theorem runeLen_bd (r : Int) : -1 ≤ Go.Lib.runeLen r ∧ Go.Lib.runeLen r ≤ 4 := by
  unfold Go.Lib.runeLen
  repeat' split
  all_goals omega
theorem snoc_induct {α : Type} {p : List α → Prop} (h0 : p []) (h1 : ∀ l x, p l → p (l ++ [x])) (l : List α) : p l := by
  have : ∀ n (l : List α), l.length = n → p l := by
    intro n
    induction n with
    | zero => intro l h; rw [List.eq_nil_of_length_eq_zero h]; exact h0
    | succ n ih =>
      intro l h
      have hne : l ≠ [] := by intro e; rw [e] at h; simp at h
      rw [← List.dropLast_concat_getLast hne]
      exact h1 _ _ (ih _ (by simp; omega))
  exact this _ l rfl
theorem cEnd_bd (l : List (Nat × Nat)) : -(l.length : Int) ≤ cEnd l ∧ cEnd l ≤ 4 * (l.length : Int) := by
  induction l using snoc_induct with
  | h0 => simp [cEnd]
  | h1 l x ih =>
    have := runeLen_bd (x.2 : Int)
    rw [cEnd_snoc, List.length_append, List.length_singleton]
    omega
theorem cEnd_enum (l : List Nat) (ok : ∀ r ∈ l, okRune r) : cEnd (enumR 0 l) = ((encAll l).length : Int) := by
  induction l using snoc_induct with
  | h0 => rfl
  | h1 l r ih =>
    rw [enumR_snoc, cEnd_snoc, ih (fun x hx => ok x (by simp [hx])), encAll_append, runeLen_enc r (ok r (by simp))]
    simp [encAll]
theorem cBeg_enum (fr : Int) (l : List Nat) (ok : ∀ r ∈ l, okRune r) : cBeg fr (enumR 0 l) = ((encAll (l.take fr.toNat)).length : Int) := by
  induction l using snoc_induct with
  | h0 => simp [cBeg, enumR, encAll]
  | h1 l r ih =>
    rw [enumR_snoc, cBeg_snoc, ih (fun x hx => ok x (by simp [hx])), cEnd_enum l (fun x hx => ok x (by simp [hx])), runeLen_enc r (ok r (by simp))]
    by_cases h : (l.length : Int) < fr
    · rw [if_pos h, List.take_of_length_le (by simp; omega), encAll_append]
      simp [encAll]
    · rw [if_neg h, List.take_append_of_le_length (by omega)]
/-- No round has been at to or above. -/
def Low (tt : Int) (pre : List (Nat × Nat)) : Prop := ∀ y ∈ pre, (y.1 : Int) < tt
theorem low_snoc {tt : Int} {pre : List (Nat × Nat)} {x : Nat × Nat} (h : Low tt pre) (hx : (x.1 : Int) < tt) : Low tt (pre ++ [x]) := by
  intro y hy
  rcases List.mem_append.1 hy with e | e
  · exact h y e
  · rw [List.mem_singleton] at e; rw [e]; exact hx
theorem enumR_mem (k : Nat) (l : List Nat) (j : Nat) (hj : j < l.length) : (k + j, l[j]) ∈ enumR k l := by
  induction l generalizing k j with
  | nil => simp at hj
  | cons r l ih =>
    cases j with
    | zero => simp [enumR]
    | succ j => have := ih (k + 1) j (by simp at hj; omega); simp only [enumR, List.mem_cons, List.getElem_cons_succ]; right; rw [show k + (j + 1) = k + 1 + j from by omega]; exact this
/-- What the loop has gone through when it ends. -/
theorem cut_end {tt : Int} {rs : List Nat} (h : Low tt (enumR 0 rs)) : rs.take tt.toNat = rs := by
  by_cases e : rs.length ≤ tt.toNat
  · exact List.take_of_length_le e
  · have := h _ (enumR_mem 0 rs (rs.length - 1) (by omega))
    simp only at this
    omega
theorem cut_mid {tt : Int} {rs : List Nat} {pre : List (Nat × Nat)} {x : Nat × Nat} (hp : pre ++ [x] <+: enumR 0 rs) (h : Low tt pre) (hx : tt ≤ (x.1 : Int)) : pre = enumR 0 (rs.take tt.toNat) := by
  have hp' : pre <+: enumR 0 rs := (List.prefix_append _ _).trans hp
  have ht : pre = (enumR 0 rs).take pre.length := List.prefix_iff_eq_take.1 hp'
  have hl := hp.length_le
  rw [enumR_len, List.length_append, List.length_singleton] at hl
  have ht2 : pre ++ [x] = (enumR 0 rs).take (pre.length + 1) := by have := List.prefix_iff_eq_take.1 hp; rwa [List.length_append, List.length_singleton] at this
  rw [enumR_take] at ht ht2
  have hx1 : x.1 = pre.length := by
    rw [List.take_succ_eq_append_getElem (show pre.length < rs.length by omega), enumR_snoc, ← ht] at ht2
    have := List.append_cancel_left ht2
    rw [List.cons.injEq] at this
    rw [this.1, List.length_take]; simp only; omega
  have hpl : pre.length = tt.toNat := by
    by_cases e : pre.length = 0
    · omega
    · have := h (pre.length - 1, (rs.take pre.length)[pre.length - 1]'(by rw [List.length_take]; omega)) (by
        have := enumR_mem 0 (rs.take pre.length) (pre.length - 1) (by rw [List.length_take]; omega)
        rw [← ht, Nat.zero_add] at this
        exact this)
      simp only at this
      omega
  rw [hpl] at ht
  exact ht
/-- The bytes between. -/
theorem cut_bytes (s : ByteArray) (fr tt : Int) : (encAll (((rsOf s.data.toList).take tt.toNat).take fr.toNat)).length ≤ (encAll ((rsOf s.data.toList).take tt.toNat)).length ∧ (encAll ((rsOf s.data.toList).take tt.toNat)).length ≤ s.size ∧
    s.extract (encAll (((rsOf s.data.toList).take tt.toNat).take fr.toNat)).length (encAll ((rsOf s.data.toList).take tt.toNat)).length = cutOf s.data.toList fr tt := by
  have hsl : s.data.toList.length = s.size := by simp
  generalize hrs : rsOf s.data.toList = rs
  have hs : runesOf s.data.toList = none ∧ rs = [] ∨ encAll rs = s.data.toList := by
    cases h : runesOf s.data.toList with
    | none => rw [rsOf_none h] at hrs; exact .inl ⟨rfl, hrs.symm⟩
    | some r => rw [rsOf_some h] at hrs; subst hrs; exact .inr (enc_runesOf r _ h).2
  have h1 : encAll (rs.take tt.toNat) = encAll ((rs.take tt.toNat).take fr.toNat) ++ encAll ((rs.take tt.toNat).drop fr.toNat) := by rw [← encAll_append, List.take_append_drop]
  have h2 : encAll rs = encAll (rs.take tt.toNat) ++ encAll (rs.drop tt.toNat) := by rw [← encAll_append, List.take_append_drop]
  have hle : (encAll (rs.take tt.toNat)).length ≤ s.size := by
    rcases hs with ⟨_, e⟩ | e
    · rw [e]; simp [encAll]
    · rw [← hsl, ← e, h2, List.length_append]; omega
  refine ⟨by rw [h1, List.length_append]; omega, hle, ?_⟩
  unfold cutOf cutR
  rw [hrs]
  apply bytes_ext
  rw [Go.Lib.extract_data, strOf_list]
  rcases hs with ⟨_, e⟩ | e
  · rw [e]; simp [encAll]
  · rw [← e, h2, h1]
    rw [List.append_assoc, List.drop_left, List.take_append_of_le_length (by rw [List.length_append]; omega)]
    rw [List.take_of_length_le (by rw [List.length_append]; omega)]

theorem clone_any (s : ByteArray) (hs : s.size ≤ 281474976710656) (w : World) : Calls Tryz.prog 72 #[.string s] w fun e w' => e = .returned (.string s) ∧ Touch (fun _ => False) w w' := by
  have HC : Hid (Calls Tryz.prog 98 #[.string s] w fun e w' => e = .returned (.string s) ∧ Below w.heap.size w w') := Tryz.stringslite_Clone s w hs
  go_enter Tryz.func72, Tryz.ntmps72
  go_wp2_with fail
  refine HC.out.mono ?_
  rintro e w1 ⟨rfl, hB⟩
  go_wp2_with fail
  go_ret
  exact ⟨rfl, Touch.ofBelow hB⟩
end Go.Proofs.YtmknkecaeagmbaaGreatDoor

/- The contract of utf.Cut: the walk. -/
namespace Go.Proofs.YtmknkecaeagmbaaGreatDoor
open Go.RowKit Go.Shelf
set_option linter.unusedVariables false
set_option maxRecDepth 100000
attribute [local go_sem] Oper.semAt_some

/-- Between two rounds. -/
def CutI (fr tt : Int) (w : World) (pre : List (Nat × Nat)) (W : World) : Prop :=
  (Low tt pre) ∧ (Boxed W (w.heap.size + 2) 3 (.int .i64 (cBeg fr pre)) ∧ (Boxed W (w.heap.size + 3) 3 (.int .i64 (cEnd pre)) ∧ (Boxed W w.heap.size 3 (.int .i64 fr) ∧ (Boxed W (w.heap.size + 1) 3 (.int .i64 tt) ∧ Below w.heap.size w W))))
theorem cutI_own (fr tt : Int) (w : World) (N : Nat) (hN : w.heap.size ≤ N) : OwnFrom N (CutI fr tt w) :=
  OwnFrom.and (ownFrom_pure _ _) (OwnFrom.and (Own.from (boxed_own _ _ _) _) (OwnFrom.and (Own.from (boxed_own _ _ _) _) (OwnFrom.and (Own.from (boxed_own _ _ (fun _ => .int .i64 fr)) _) (OwnFrom.and (Own.from (boxed_own _ _ (fun _ => .int .i64 tt)) _) (ownFrom_below (Nat.le_refl _) hN)))))
/-- A round that leaves. -/
def CutX (fr tt : Int) (w : World) (c : Code) (xs : List (Nat × Nat)) (W : World) : Prop := c = .exit 0 ∧ ∃ pre x, xs = pre ++ [x] ∧ tt ≤ (x.1 : Int) ∧ CutI fr tt w pre W
theorem cutX_own (fr tt : Int) (w : World) (N : Nat) (hN : w.heap.size ≤ N) (c : Code) : OwnFrom N (CutX fr tt w c) := by
  rintro xs A B row ⟨hc, pre, x, he, hx, hi⟩ hg hr
  exact ⟨hc, pre, x, he, hx, cutI_own fr tt w N hN pre A B row hi hg hr⟩

set_option maxHeartbeats 4000000 in
theorem utf_cut (s : ByteArray) (hs : s.size ≤ 281474976710656) (fr tt : Int) (w : World) (hT : TabsU w) : Calls Tryz.prog 46 #[.string s, .int .i64 fr, .int .i64 tt] w fun e w' => e = .returned (.string (cutOf s.data.toList fr tt)) ∧ Touch (fun _ => False) w w' := by
  have hln : (rsOf s.data.toList).length ≤ s.size := by have := rsOf_len s.data.toList; simpa using this
  refine (callsIn_wide (n := 3)).1 ?_
  refine callsIn_of_wp_marks Tryz.func46 rfl trivial ?_ rfl
  simp only [Tryz.ntmps46, List.size_toArray, List.length_cons, List.length_nil, Nat.reduceAdd, Nat.reduceSub, Array.replicate_succ, Array.replicate_zero, List.push_toArray, List.append_toArray, List.nil_append, List.cons_append]
  gi_wp2_with fail
  refine ⟨trivial, (callsIn_wide.2 (utf_runes s _)).mono ?_⟩
  rintro e w1 ⟨rfl, rfl⟩
  gi_wp2
  rename_i K0 hK0
  have c0 := ((((Boxed.new w 3 (.int .i64 fr)).alloc (.cells #[.int .i64 tt] 3)).alloc (.cells #[.int .i64 0] 3)).alloc (.cells #[.int .i64 0] 3)).alloc (.cells #[.string s] 9)
  have c1 := (((Boxed.new (w.alloc (.cells #[.int .i64 fr] 3)) 3 (.int .i64 tt)).alloc (.cells #[.int .i64 0] 3)).alloc (.cells #[.int .i64 0] 3)).alloc (.cells #[.string s] 9)
  have c2 := ((Boxed.new ((w.alloc (.cells #[.int .i64 fr] 3)).alloc (.cells #[.int .i64 tt] 3)) 3 (.int .i64 0)).alloc (.cells #[.int .i64 0] 3)).alloc (.cells #[.string s] 9)
  have c3 := (Boxed.new (((w.alloc (.cells #[.int .i64 fr] 3)).alloc (.cells #[.int .i64 tt] 3)).alloc (.cells #[.int .i64 0] 3)) 3 (.int .i64 0)).alloc (.cells #[.string s] 9)
  have c4 := Boxed.new ((((w.alloc (.cells #[.int .i64 fr] 3)).alloc (.cells #[.int .i64 tt] 3)).alloc (.cells #[.int .i64 0] 3)).alloc (.cells #[.int .i64 0] 3)) 9 (.string s)
  simp only [World.size_alloc] at c1 c2 c3 c4
  have hB0 : Below w.heap.size w (((((w.alloc (.cells #[.int .i64 fr] 3)).alloc (.cells #[.int .i64 tt] 3)).alloc (.cells #[.int .i64 0] 3)).alloc (.cells #[.int .i64 0] 3)).alloc (.cells #[.string s] 9)) := (((((Below.refl _ w).alloc (Nat.le_refl _) _).alloc (by simp) _).alloc (by simp; omega) _).alloc (by simp; omega) _).alloc (by simp; omega) _
  have hsz : (((((w.alloc (.cells #[.int .i64 fr] 3)).alloc (.cells #[.int .i64 tt] 3)).alloc (.cells #[.int .i64 0] 3)).alloc (.cells #[.int .i64 0] 3)).alloc (.cells #[.string s] 9)).heap.size = w.heap.size + 5 := by simp
  generalize hW0 : (((((w.alloc (.cells #[.int .i64 fr] 3)).alloc (.cells #[.int .i64 tt] 3)).alloc (.cells #[.int .i64 0] 3)).alloc (.cells #[.int .i64 0] 3)).alloc (.cells #[.string s] 9)) = W0 at *
  refine wpIn_rangeFunc_ownF rfl (by decide) (gf := 97) (lb := #[.pointer (some ⟨w.heap.size + 1 + 1 + 1 + 1, 0, none⟩)]) rfl trivial (enters_of Tryz.func97 (by kernel_rfl) rfl)
    (iter_of _ (w.heap.size + 1 + 1 + 1 + 1) s (by omega) _ (hT.keep (Touch.ofBelow hB0)) c4.cell) walksK_t walksK_b (Below.refl _ _) (fun _ => rfl)
    (CutI fr tt w) (CutX fr tt w) (cutI_own fr tt w _ (by omega)) (fun c => cutX_own fr tt w _ (by omega) c)
    ⟨fun y hy => by simp at hy, c2, c3, c0, c1, hB0⟩
    (fun x => { tmps := #[.string s, .int .i64 fr, .int .i64 tt, undef, .pointer (some ⟨w.heap.size, 0, none⟩), .pointer (some ⟨w.heap.size + 1, 0, none⟩), .string ⟨#[]⟩, .pointer (some ⟨w.heap.size + 1 + 1, 0, none⟩), .pointer (some ⟨w.heap.size + 1 + 1 + 1, 0, none⟩), .int .i64 (x.1 : Int), .int .i32 (x.2 : Int), .string s, .func (.func 97) #[] #[.pointer (some ⟨w.heap.size + 1 + 1 + 1 + 1, 0, none⟩)], .int .i64 (x.1 : Int), .int .i32 (x.2 : Int), undef, undef, undef, undef, undef, undef, undef, undef, undef, undef, undef, undef, undef, undef, undef, undef], defers := [] }) ?assign ?body ?done ?stop
  case assign =>
    intro l x W K hK
    gi_wp2
    first | exact hK | simpa [enc2] using hK
  case body =>
    rintro l pre x W ⟨hU, d2, d3, d0, d1, hB⟩ hlt
    have k0 := d0.cell
    have k1 := d1.cell
    have k3 : W.cell? ⟨w.heap.size + 1 + 1 + 1, 0, none⟩ = some (.int .i64 (cEnd pre)) := d3.cell
    have f3 : W.frozen? ⟨w.heap.size + 1 + 1 + 1, 0, none⟩ = false := d3.frozen
    have HU : Hid (Low tt pre) := hU
    clear hU
    by_cases hn : (x.1 : Int) < tt
    · have HA : Hid (∀ w, Calls Tryz.prog 71 #[.int .i32 (x.2 : Int)] w fun e w' => e = .returned (.int .i64 (Go.Lib.runeLen (x.2 : Int))) ∧ w' = w) := fun w => runeLen_any x.2 w
      have hmx : Tryz.prog.follows .mixedOrders = true := by kernel_rfl
      have hbd := cEnd_bd pre
      have hrb := runeLen_bd (x.2 : Int)
      obtain ⟨W1, hW1e⟩ : ∃ W1, W1 = (W.setCell ⟨w.heap.size + 1 + 1 + 1, 0, none⟩ (.int .i64 (IntKind.i64.wrap (cEnd pre + Go.Lib.runeLen (x.2 : Int))))).drew := ⟨_, rfl⟩
      have hwr : IntKind.i64.wrap (cEnd pre + Go.Lib.runeLen (x.2 : Int)) = cEnd pre + Go.Lib.runeLen (x.2 : Int) := IntWalk.i64_in _ (by omega)
      have m3 : Boxed W1 (w.heap.size + 1 + 1 + 1) 3 (.int .i64 (cEnd pre + Go.Lib.runeLen (x.2 : Int))) := by rw [hW1e, hwr]; exact boxed_drew (d3.set _)
      have m2 : Boxed W1 (w.heap.size + 1 + 1) 3 (.int .i64 (cBeg fr pre)) := by rw [hW1e]; exact boxed_drew (d2.other (by omega) _)
      have m0 : Boxed W1 w.heap.size 3 (.int .i64 fr) := by rw [hW1e]; exact boxed_drew (d0.other (by omega) _)
      have m1 : Boxed W1 (w.heap.size + 1) 3 (.int .i64 tt) := by rw [hW1e]; exact boxed_drew (d1.other (by omega) _)
      have hk1 : KeepsOthers W W1 := by rw [hW1e]; exact (KeepsOthers.setCell _ _ _).trans (KeepsOthers.drew _)
      have hB1 : Below w.heap.size w W1 := by rw [hW1e]; exact (hB.setCell (p := ⟨w.heap.size + 1 + 1 + 1, 0, none⟩) (by simp only; omega) _).drew
      have j3 := m3.cell
      have j2 := m2.cell
      have j0 := m0.cell
      have g2 := m2.frozen
      have HW1 : Hid (W1 = (W.setCell ⟨w.heap.size + 1 + 1 + 1, 0, none⟩ (.int .i64 (IntKind.i64.wrap (cEnd pre + Go.Lib.runeLen (x.2 : Int))))).drew) := hW1e
      by_cases hf : (x.1 : Int) < fr
      · have HEnd : Hid (ownPostK KeepsWalks (CutI fr tt w) (CutX fr tt w) (pre ++ [x]) W .normal ⟨#[], []⟩ (W1.setCell ⟨w.heap.size + 1 + 1, 0, none⟩ (.int .i64 (cEnd pre + Go.Lib.runeLen (x.2 : Int))))) := by
          have hk2 := hk1.trans (KeepsOthers.setCell W1 ⟨w.heap.size + 1 + 1, 0, none⟩ (.int .i64 (cEnd pre + Go.Lib.runeLen (x.2 : Int))))
          refine ⟨hk2, walks_of hk2, low_snoc HU.out hn, ?_, ?_, m0.other (by omega) _, m1.other (by omega) _, hB1.setCell (p := ⟨w.heap.size + 1 + 1, 0, none⟩) (by simp only; omega) _⟩
          · rw [cBeg_snoc, if_pos hf]; exact m2.set _
          · rw [cEnd_snoc]; exact m3.other (by omega) _
        clear hW0 hsz c0 c1 c2 c3 c4 d0 d1 d2 d3 hB0 hB HU hlt hln hK0 hT hW1e m0 m1 m2 m3 hk1 hB1 hwr hbd hrb
        generalize cEnd pre = T1 at *
        generalize Go.Lib.runeLen (x.2 : Int) = U1 at *
        generalize cBeg fr pre = T2 at *
        gi_wp2
        gi_region_with_o (refine ⟨trivial, ?_⟩; gi_at_call 71; refine (CallsIn.inRound l (callsIn_wide.2 (HA.out _))).mono ?_; rintro e w' ⟨rfl, rfl⟩)
        all_goals rw [← HW1.out]
        all_goals gi_wp2
        all_goals exact HEnd.out
      · have HEnd : Hid (ownPostK KeepsWalks (CutI fr tt w) (CutX fr tt w) (pre ++ [x]) W .normal ⟨#[], []⟩ W1) := by
          refine ⟨hk1, walks_of hk1, low_snoc HU.out hn, ?_, ?_, m0, m1, hB1⟩
          · rw [cBeg_snoc, if_neg hf]; exact m2
          · rw [cEnd_snoc]; exact m3
        clear hW0 hsz c0 c1 c2 c3 c4 d0 d1 d2 d3 hB0 hB HU hlt hln hK0 hT hW1e m0 m1 m2 m3 hk1 hB1 hwr hbd hrb
        generalize cEnd pre = T1 at *
        generalize Go.Lib.runeLen (x.2 : Int) = U1 at *
        generalize cBeg fr pre = T2 at *
        gi_wp2
        gi_region_with_o (refine ⟨trivial, ?_⟩; gi_at_call 71; refine (CallsIn.inRound l (callsIn_wide.2 (HA.out _))).mono ?_; rintro e w' ⟨rfl, rfl⟩)
        all_goals rw [← HW1.out]
        all_goals gi_wp2
        all_goals exact HEnd.out
    · have HEnd : Hid (CutX fr tt w (.exit 0) (pre ++ [x]) W) := ⟨rfl, pre, x, rfl, by omega, HU.out, d2, d3, d0, d1, hB⟩
      clear hW0 hsz c0 c1 c2 c3 c4 d0 d1 d2 d3 hB0 hB hK0
      gi_wp2
      exact ⟨KeepsOthers.refl _, HEnd.out⟩
  case done =>
    rintro D ys W hD rfl ⟨hU, d2, d3, d0, d1, hB⟩ hK
    have hte := cut_end hU
    rw [show enumR 0 (rsOf s.data.toList) = enumR 0 ((rsOf s.data.toList).take tt.toNat) from by rw [hte]] at d2 d3
    rw [cBeg_enum fr _ (fun r hr => rsOf_ok _ r (List.mem_of_mem_take hr))] at d2
    rw [cEnd_enum _ (fun r hr => rsOf_ok _ r (List.mem_of_mem_take hr))] at d3
    obtain ⟨hb1, hb2, hb3⟩ := cut_bytes s fr tt
    generalize (encAll (((rsOf s.data.toList).take tt.toNat).take fr.toNat)).length = b at *
    generalize (encAll ((rsOf s.data.toList).take tt.toNat)).length = e at *
    have k2 : W.cell? ⟨w.heap.size + 1 + 1, 0, none⟩ = some (.int .i64 (b : Int)) := d2.cell
    have k3 : W.cell? ⟨w.heap.size + 1 + 1 + 1, 0, none⟩ = some (.int .i64 (e : Int)) := d3.cell
    have HX : Hid (s.extract b e = cutOf s.data.toList fr tt) := hb3
    have hxs : (s.extract b e).size ≤ 281474976710656 := by rw [ByteArray.size_extract]; omega
    have HCl : Hid (∀ w, Calls Tryz.prog 72 #[.string (s.extract b e)] w fun e' w' => e' = .returned (.string (s.extract b e)) ∧ Touch (fun _ => False) w w') := fun w => clone_any _ hxs w
    have HB : Hid (Below w.heap.size w W) := hB
    have hKD : D < W.heap.size := (Array.getElem?_eq_some_iff.1 hK).1
    have HDz : Hid (w.heap.size ≤ D) := by rw [Hid]; omega
    clear hW0 hsz c0 c1 c2 c3 c4 d0 d1 d2 d3 hB0 hB hU hte hb3 hxs hT hln
    gi_wp2_with fail
    refine ⟨trivial, (callsIn_wide.2 (HCl.out _)).mono ?_⟩
    rintro e' W2 ⟨rfl, hT2⟩
    have hK2 : W2.heap[D]? = some (.deferred (some [])) := (hT2.block D hKD id).trans hK
    gi_wp2
    refine ⟨by simp, .inl ⟨_, _, rfl, run_takeDeferred hK2, ?_⟩⟩
    refine ⟨.string (cutOf s.data.toList fr tt), ?_, rfl, Touch.ofBelow ((HB.out.trans (hT2.below HB.out.size (fun _ _ h => h))).trans (belowK_b (w := w) (Nat.le_refl _) W2 D _ _ HDz.out hK2 rfl rfl))⟩
    rw [← HX.out]
    simp [results, Tryz.f46, go_sem]
  case stop =>
    rintro D c xs W hD hpre ⟨rfl, pre, x, rfl, hx, hU, d2, d3, d0, d1, hB⟩ hK
    have hte := cut_mid hpre hU hx
    rw [hte] at d2 d3
    rw [cBeg_enum fr _ (fun r hr => rsOf_ok _ r (List.mem_of_mem_take hr))] at d2
    rw [cEnd_enum _ (fun r hr => rsOf_ok _ r (List.mem_of_mem_take hr))] at d3
    obtain ⟨hb1, hb2, hb3⟩ := cut_bytes s fr tt
    generalize (encAll (((rsOf s.data.toList).take tt.toNat).take fr.toNat)).length = b at *
    generalize (encAll ((rsOf s.data.toList).take tt.toNat)).length = e at *
    have k2 : W.cell? ⟨w.heap.size + 1 + 1, 0, none⟩ = some (.int .i64 (b : Int)) := d2.cell
    have k3 : W.cell? ⟨w.heap.size + 1 + 1 + 1, 0, none⟩ = some (.int .i64 (e : Int)) := d3.cell
    have HX : Hid (s.extract b e = cutOf s.data.toList fr tt) := hb3
    have hxs : (s.extract b e).size ≤ 281474976710656 := by rw [ByteArray.size_extract]; omega
    have HCl : Hid (∀ w, Calls Tryz.prog 72 #[.string (s.extract b e)] w fun e' w' => e' = .returned (.string (s.extract b e)) ∧ Touch (fun _ => False) w w') := fun w => clone_any _ hxs w
    have HB : Hid (Below w.heap.size w W) := hB
    have hKD : D < W.heap.size := (Array.getElem?_eq_some_iff.1 hK).1
    have HDz : Hid (w.heap.size ≤ D) := by rw [Hid]; omega
    clear hW0 hsz c0 c1 c2 c3 c4 d0 d1 d2 d3 hB0 hB hU hte hb3 hxs hT hln hpre hx
    gi_wp2_with fail
    refine ⟨trivial, (callsIn_wide.2 (HCl.out _)).mono ?_⟩
    rintro e' W2 ⟨rfl, hT2⟩
    have hK2 : W2.heap[D]? = some (.deferred (some [])) := (hT2.block D hKD id).trans hK
    gi_wp2
    refine ⟨by simp, .inl ⟨_, _, rfl, run_takeDeferred hK2, ?_⟩⟩
    refine ⟨.string (cutOf s.data.toList fr tt), ?_, rfl, Touch.ofBelow ((HB.out.trans (hT2.below HB.out.size (fun _ _ h => h))).trans (belowK_b (w := w) (Nat.le_refl _) W2 D _ _ HDz.out hK2 rfl rfl))⟩
    rw [← HX.out]
    simp [results, Tryz.f46, go_sem]
end Go.Proofs.YtmknkecaeagmbaaGreatDoor
