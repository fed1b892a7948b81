/- Package maps beside the document's Maps: what each step of a script does. -/
import Derived.Test.YtodpdcflbnomgaaGreatPart26
import Derived.Test.YtodpdcflbnomgaaGreatPart27
namespace Go.Proofs.YtodpdcflbnomgaaGreat
open Go.RowKit Go.Maps
set_option linter.unusedVariables false
set_option linter.unusedSimpArgs false
set_option maxRecDepth 100000

theorem RfC.lv_ne {w : World} {b : Nat} {lv hv : Value} {L : List O} {H : List Rg} (h : RfC w b lv hv L H) (hL : L ≠ []) {k : Nat} (e : lv.ownBlock = some k) : k ≠ b := by
  obtain ⟨g, o, cap, e1, -, -, hr⟩ := h.l.row hL
  rw [e1] at e
  simp only [Value.ownBlock, Option.some.injEq] at e
  subst e
  rintro rfl
  have hL0 : 0 < L.length := List.length_pos_iff.2 hL
  have h0 : w.cell? ⟨g, o + 0 * 22 + 0, none⟩ = some (.int .u64 L[0].c) := hr 0 hL0 0 _ rfl
  rw [cell_of_block h.cells] at h0
  obtain ⟨ao, cp, e2, -⟩ := h.l.shape
  obtain ⟨ao3, cp3, e3, -⟩ := h.h.shape
  match o, h0 with
  | 0, h0 =>
    have h0 : lv = .int .u64 L[0].c := by simpa using h0
    rw [h0] at e2; cases e2
  | 1, h0 =>
    have h0 : hv = .int .u64 L[0].c := by simpa using h0
    rw [h0] at e3; cases e3
  | o + 2, h0 => simp at h0
/-- Both, and a block X that is kept. -/
def StX (w0 w : World) (g b i X : Nat) (ob : Obj) : Prop := ∃ K lv hv s L H, Bo w0 w K g b lv hv s L H ∧ (∀ c k, hasB s.hid c k = hasB H c k) ∧ L.length ≤ i ∧ H.length ≤ 40 ∧ (∀ o ∈ L, ShortP o) ∧ K X ∧ X ≠ b ∧ w.heap[X]? = some ob
def St (w0 w : World) (g b i : Nat) : Prop := ∃ K lv hv s L H, Bo w0 w K g b lv hv s L H ∧ (∀ c k, hasB s.hid c k = hasB H c k) ∧ L.length ≤ i ∧ H.length ≤ 40 ∧ (∀ o ∈ L, ShortP o)
section
variable {w0 w w' : World} {g b i X : Nat} {ob : Obj}
theorem StX.st (h : StX w0 w g b i X ob) : St w0 w g b i := by
  obtain ⟨K, lv, hv, s, L, H, h1, h2, h3, h4, h5, -⟩ := h
  exact ⟨K, lv, hv, s, L, H, h1, h2, h3, h4, h5⟩
theorem StX.block (h : StX w0 w g b i X ob) : w.heap[X]? = some ob := by
  obtain ⟨K, lv, hv, s, L, H, h1, h2, h3, h4, h5, -, -, h6⟩ := h
  exact h6
theorem St.more (h : St w0 w g b i) : St w0 w g b (i + 1) := by
  obtain ⟨K, lv, hv, s, L, H, h1, h2, h3, h4, h5⟩ := h
  exact ⟨K, lv, hv, s, L, H, h1, h2, by omega, h4, h5⟩
theorem StX.touch0 (h : StX w0 w g b i X ob) : Touch (fun _ => False) w0 w := by
  obtain ⟨K, lv, hv, s, L, H, h1, -⟩ := h
  exact h1.m.touch0
theorem St.touch0 (h : St w0 w g b i) : Touch (fun _ => False) w0 w := by
  obtain ⟨K, lv, hv, s, L, H, h1, -⟩ := h
  exact h1.m.touch0
theorem StX.on (h : StX w0 w g b i X ob) (t : Touch (fun _ => False) w w') : StX w0 w' g b i X ob := by
  obtain ⟨K, lv, hv, s, L, H, h1, h2, h3, h4, h5, h6, h7, h8⟩ := h
  exact ⟨_, lv, hv, s, L, H, h1.on t, h2, h3, h4, h5, .inl h6, h7, (t.block X (lt_of_heap h8) id).trans h8⟩
theorem St.on (h : St w0 w g b i) (t : Touch (fun _ => False) w w') : St w0 w' g b i := by
  obtain ⟨K, lv, hv, s, L, H, h1, h2, h3, h4, h5⟩ := h
  exact ⟨_, lv, hv, s, L, H, h1.on t, h2, h3, h4, h5⟩
/-- A block is made, and kept. -/
theorem St.box (h : St w0 w g b i) (t : Touch (fun _ => False) w w') (hX : w.heap.size ≤ X) (hb : w'.heap[X]? = some ob) : StX w0 w' g b i X ob := by
  obtain ⟨K, lv, hv, s, L, H, h1, h2, h3, h4, h5⟩ := h
  exact ⟨_, lv, hv, s, L, H, h1.on t, h2, h3, h4, h5, .inr ⟨hX, lt_of_heap hb⟩, (by have := lt_of_heap h1.r.cells; omega), hb⟩
/-- Both texts. -/
theorem st_text (h : St w0 w g b i) (hi : i ≤ 60) : ∃ T : ByteArray, (∀ W, Touch (fun _ => False) w W → Calls Tryz.prog 21 #[.pointer (some ⟨g, 0, none⟩)] W fun e w' => ∃ v, e = .returned v ∧ Touch (fun _ => False) W w' ∧ Calls Tryz.prog 20 #[v] w' fun e w'' => e = .returned (.string T) ∧ Touch (fun _ => False) w' w'')
    ∧ (∀ W, Touch (fun _ => False) w W → Calls Tryz.prog 22 #[.pointer (some ⟨b, 0, none⟩)] W fun e w' => ∃ v, e = .returned v ∧ Touch (fun _ => False) W w' ∧ Calls Tryz.prog 20 #[v] w' fun e w'' => e = .returned (.string T) ∧ Touch (fun _ => False) w' w'') := by
  obtain ⟨K, lv, hv, s, L, H, h1, h2, h3, h4, h5⟩ := h
  obtain ⟨F, hF⟩ := h1.m
  have hz : ∀ o ∈ L, o.c ≠ 0 := fun o ho e => by
    have := (hF.has.fits o ho).2.2.1
    rw [e] at this; simp [numOk] at this
  have ht := view_text hF.has hF.apart h2 (L.length + 1) 0 0 0 u64_zero u64_zero
  have hsz : (etsT 0 (viewR H L (L.length + 1) 0 0)).length ≤ 1000000000000000 := by
    have := view_size (H := H) hF.chain hF.apart hz h5 (L.length + 1)
    have h6 : (2 * (L.length + 1) + 5000) * L.length ≤ 6000 * 60 := Nat.mul_le_mul (by omega) (by omega)
    omega
  refine ⟨strOf (etsT 0 (viewR H L (L.length + 1) 0 0)), fun W t => ?_, fun W t => ?_⟩
  · refine (lv_view (h1.m.on t)).mono ?_
    rintro e w' ⟨v, rfl, hE, t'⟩
    refine ⟨v, rfl, t', ?_⟩
    have := text_any hE (okE_of hF.has hF.apart h2 h5 _ _ _ u64_zero u64_zero) (by omega) (by rw [ht]; exact hsz)
    rw [ht] at this; exact this
  · refine (rview_any (h1.r.touch t) (by omega) (by omega) hF.chain hF.apart hz).mono ?_
    rintro e w' ⟨v, rfl, hE, t'⟩
    exact ⟨v, rfl, t', text_any hE (okR_of h5 _ _ _) (by omega) hsz⟩
theorem st_get (h : St w0 w g b i) {c k : Int} (hc : U64 c) (hk : U64 k) (ky : ByteArray) (hky : ky.size ≤ 281474976710656) : ∃ (A B : O) (bs : Bool), (∀ W, Touch (fun _ => False) w W → Calls Tryz.prog 9 #[.pointer (some ⟨g, 0, none⟩), idV c k, .string ky] W fun e w' => e = .returned (.tuple #[A.val, .bool bs]) ∧ Touch (fun _ => False) W w')
    ∧ (∀ W, Touch (fun _ => False) w W → Calls Tryz.prog 10 #[.pointer (some ⟨b, 0, none⟩), idV c k, .string ky] W fun e w' => e = .returned (.tuple #[B.val, .bool bs]) ∧ Touch (fun _ => False) W w')
    ∧ (∀ W, Calls Tryz.prog 11 #[A.val, B.val] W fun e w' => e = .returned (.bool true) ∧ Touch (fun _ => False) W w') := by
  obtain ⟨K, lv, hv, s, L, H, h1, h2, h3, h4, h5⟩ := h
  obtain ⟨F, hF⟩ := h1.m
  have hm : ∀ W, Touch (fun _ => False) w W → _ := fun W t => lv_get (h1.m.on t) hc hk ky hky
  have hr : ∀ W, Touch (fun _ => False) w W → _ := fun W t => rget_any (h1.r.touch t) (by omega) c k ky
  rcases getR_eq hF.has hF.apart h2 hc hk ky with ⟨e1, e2⟩ | ⟨o, ho, -, -, -, e1, e2⟩
  · rw [e1] at hm
    rw [e2] at hr
    refine ⟨zeroO, zeroO, false, hm, hr, fun W => ?_⟩
    have := ref_same zeroO zeroO (by decide) (by decide) W
    rwa [show sameO zeroO zeroO = true from by rw [← show cleanO zeroO = zeroO from by rfl]; exact sameO_clean zeroO] at this
  · rw [e1] at hm
    rw [e2] at hr
    have hf := (h5 o ho).1.f1
    refine ⟨cleanO o, o, true, hm, hr, fun W => ?_⟩
    have := ref_same (cleanO o) o (refBits_ltM _ hf) hf W
    rw [sameO_clean] at this; exact this
theorem st_find (h : St w0 w g b i) {v : Value} {ks : List Key} (hv : StrsAt w v ks) (hks : ∀ k ∈ ks, k.length ≤ 281474976710656) (hkl : ks.length ≤ 1000000) : ∃ (c k : Int) (bs : Bool), (∀ W, Touch (fun _ => False) w W → Calls Tryz.prog 12 #[.pointer (some ⟨g, 0, none⟩), v] W fun e w' => e = .returned (.tuple #[idV c k, .bool bs]) ∧ Touch (fun _ => False) W w')
    ∧ (∀ W, Touch (fun _ => False) w W → Calls Tryz.prog 13 #[.pointer (some ⟨b, 0, none⟩), v] W fun e w' => e = .returned (.tuple #[idV c k, .bool bs]) ∧ Touch (fun _ => False) W w') := by
  obtain ⟨K, lv, hv2, s, L, H, h1, h2, h3, h4, h5⟩ := h
  obtain ⟨F, hF⟩ := h1.m
  have hvW : ∀ W, Touch (fun _ => False) w W → StrsAt W v ks := fun W t => by
    obtain ⟨ao, cap, e, hi⟩ := hv
    exact ⟨ao, cap, e, fun i hl => by
      obtain ⟨b, o, e, hc⟩ := hi i hl
      exact ⟨b, o, e, fun W' t' => hc W' (t.trans t')⟩⟩
  have he := findR_eq hF.has hF.apart h2 ks 0 0 u64_zero u64_zero
  refine ⟨_, _, _, fun W t => lv_find (h1.m.on t) v ks (hvW W t) hks hkl, fun W t => ?_⟩
  rw [he]
  exact rfind_any (h1.r.touch t) (by omega) v ks (hvW W t) hkl
/-- A Set on both. -/
theorem st_set (h : StX w0 w g b i X ob) (hi : i ≤ 60) (o : O) (hf : o.fits) (hS : ShortP o) : Calls Tryz.prog 15 #[.pointer (some ⟨g, 0, none⟩), o.val] w fun e w1 => ∃ bb, e = .returned (.bool bb) ∧ w1.heap[X]? = some ob ∧
    Calls Tryz.prog 17 #[.pointer (some ⟨b, 0, none⟩), o.val] w1 fun e w2 => e = .returned (.bool bb) ∧ StX w0 w2 g b (i + 1) X ob := by
  obtain ⟨K, lv, hv, s, L, H, h1, h2, h3, h4, h5, h6, h7, h8⟩ := h
  have hasL := h1.m.hasL
  have hoe := okR_eq hasL hf
  have hky : o.ky.size ≤ 281474976710656 := by have := hS.2.2; omega
  cases hok : okS s o with
  | false =>
    refine (lv_setNo h1.m o hf hok).mono ?_
    rintro e w1 ⟨rfl, t⟩
    have hB := h1.on t
    have hX1 := (t.block X (lt_of_heap h8) id).trans h8
    refine ⟨false, rfl, hX1, ?_⟩
    refine (rset_any hB.r o (by omega)).mono ?_
    rintro e w2 ⟨rfl, hp⟩
    rw [← hoe, hok] at hp ⊢
    rcases hp with ⟨-, t2⟩ | ⟨q, -⟩
    · exact ⟨rfl, _, lv, hv, s, L, H, hB.on t2, h2, by omega, h4, h5, .inl (.inl h6), h7, (t2.block X (lt_of_heap hX1) id).trans hX1⟩
    · cases q
  | true =>
    refine (lv_set2 h1.m o hf hky (by omega) hok).mono ?_
    rintro e w1 ⟨rfl, hl1, hk1, hs1⟩
    have hR1 := h1.step hl1 hk1 hs1
    have hX1 := (hk1 X h6).trans h8
    refine ⟨true, rfl, hX1, ?_⟩
    refine (rset_any hR1 o (by omega)).mono ?_
    rintro e w2 ⟨rfl, hp⟩
    rw [← hoe, hok] at hp ⊢
    rcases hp with ⟨q, -⟩ | ⟨-, lv', hR2, t2, hfr⟩
    · cases q
    · have hh : (setS s o).hid = s.hid := by
        unfold setS
        rw [if_pos hok]
        split <;> rfl
      refine ⟨rfl, _, lv', hv, setS s o, L ++ [o], H, hl1.bo t2 h1.bK h1.b0 hR2 h1.b0 (.inl h1.bK) (fun _ k e h0 => .inr (hfr k e)) (fun hn k e h0 => .inl (h1.hK hn k e h0)), (fun c k => by rw [hh]; exact h2 c k), by simp; omega, h4, ?_, .inl h6, h7, (t2.block X (lt_of_heap hX1) h7).trans hX1⟩
      · intro x hx
        rcases List.mem_append.1 hx with hx | hx
        · exact h5 x hx
        · rw [List.mem_singleton.1 hx]; exact hS
theorem st_is (h : St w0 w g b i) {c k : Int} (hc : U64 c) (hk : U64 k) : ∃ bb, (∀ W, Touch (fun _ => False) w W → Calls Tryz.prog 18 #[.pointer (some ⟨g, 0, none⟩), idV c k] W fun e w' => e = .returned (.bool bb) ∧ Touch (fun _ => False) W w')
    ∧ (∀ W, Touch (fun _ => False) w W → Calls Tryz.prog 19 #[.pointer (some ⟨b, 0, none⟩), idV c k] W fun e w' => e = .returned (.bool bb) ∧ Touch (fun _ => False) W w') := by
  obtain ⟨K, lv, hv, s, L, H, h1, h2, h3, h4, h5⟩ := h
  refine ⟨isS s c k, fun W t => lv_is (h1.m.on t) hc hk, fun W t => ?_⟩
  rw [isR_eq h1.m.hasL hc hk]
  exact ris_any (h1.r.touch t) c k
/-- Copy, and a Set on the old one. -/
theorem st_copy (h : StX w0 w g b i X ob) : Calls Tryz.prog 14 #[.pointer (some ⟨g, 0, none⟩)] w fun e w1 => ∃ g', e = .returned (.pointer (some ⟨g', 0, none⟩)) ∧ Touch (fun _ => False) w w1 ∧
    ∀ (o : O) W, o.fits → o.ky.size ≤ 281474976710656 → Touch (fun _ => False) w1 W → Calls Tryz.prog 15 #[.pointer (some ⟨g, 0, none⟩), o.val] W fun e w2 => (∃ bb, e = .returned (.bool bb)) ∧ StX w0 w2 g' b i X ob := by
  obtain ⟨K, lv, hv, s, L, H, h1, h2, h3, h4, h5, h6, h7, h8⟩ := h
  refine (lv_copied h1.m).mono ?_
  rintro e w1 ⟨g', rfl, t, hS⟩
  refine ⟨g', rfl, t, fun o W ho hky tW => ?_⟩
  refine (hS o W ho hky tW).mono ?_
  rintro e w2 ⟨he, hl, hk, hsz⟩
  have hR := h1.step hl hk hsz
  have hX := (hk X h6).trans h8
  refine ⟨he, _, lv, hv, s, L, H, hl.bo (Touch.refl _ w2) h1.bK h1.b0 hR h1.b0 (.inl h1.bK) (fun hn k e h0 => .inl (h1.lK hn k e h0)) (fun hn k e h0 => .inl (h1.hK hn k e h0)), h2, h3, h4, h5, .inl h6, h7, hX⟩
/-- Between Hide of the one and of the other. -/
structure Hd (w0 w wr : World) (K : Nat → Prop) (g X : Nat) (ob : Obj) (s : MS) (L : List O) (v : Value) (n : Nat) (K' : Nat → Prop) (xs : List Value) : Prop where
  m : Lv w0 K' wr g s L
  mono : ∀ k, K k → K' k
  own : OwnR w0 wr v n xs
  vK : ∀ k, v.ownBlock = some k → K' k ∧ w.heap.size ≤ k
  touch : Touch (fun k => w.heap.size ≤ k ∨ (w0.heap.size ≤ k ∧ ¬ K k)) w wr
  x : wr.heap[X]? = some ob
def HdX (w0 w wr : World) (g b i X : Nat) (ob : Obj) (R : List Rg) (v : Value) (n : Nat) : Prop := ∃ K lv hv s0 s L H K' xs, Bo w0 w K g b lv hv s0 L H ∧ (∀ c k, hasB s.hid c k = hasB R c k) ∧ L.length ≤ i ∧ H.length ≤ 40 ∧ (∀ o ∈ L, ShortP o) ∧ K X ∧ X ≠ b ∧ Hd w0 w wr K g X ob s L v n K' xs
theorem st_hide (h : StX w0 w g b i X ob) {w1 : World} {v : Value} {R : List Rg} (hN : NewR w w1 v R) (hR : R.length ≤ 40) : Calls Tryz.prog 7 #[.pointer (some ⟨g, 0, none⟩), v] w1 fun e w2 => e = .returned (.tuple #[]) ∧ HdX w0 w w2 g b i X ob R v R.length := by
  obtain ⟨K, lv, hv, s, L, H, h1, h2, h3, h4, h5, h6, h7, h8⟩ := h
  have hB := h1.on hN.touch
  refine (lv_hide2 hB.m R v hN.sl (by omega)).mono ?_
  rintro e w2 ⟨rfl, out, ho, hl, hk, hsz⟩
  have t2 := touch_kept hB.m hl hk hsz
  have hX1 := (hN.touch.block X (lt_of_heap h8) id).trans h8
  have hvk : ∀ k, v.ownBlock = some k → (K k ∨ (w.heap.size ≤ k ∧ k < w1.heap.size)) ∧ w.heap.size ≤ k := fun k e => by
    have h9 := hN.fresh k e
    refine ⟨.inr ⟨h9, ?_⟩, h9⟩
    rcases hN.owns.2 with ⟨e2, _⟩ | ⟨g2, cap, cur, e2, hb, hg, -⟩
    · rw [e2] at e; simp [Value.ownBlock] at e
    · rw [e2] at e
      simp only [Value.ownBlock, Option.some.injEq] at e
      subst e; exact lt_of_heap hg
  refine ⟨rfl, K, lv, hv, s, { s with hid := out }, L, H, _, _, h1, ho, h3, h4, h5, h6, h7, hl, fun k q => .inl q, ⟨ownR_touch hN.owns t2 fun k e q => q.2 (hvk k e).1, hl.touch0, fun k e => ?_⟩, hvk, ?_, ?_⟩
  · have := hN.fresh k e
    have := h1.m.touch0.size
    omega
  · refine (hN.touch.mono (T := fun k => w.heap.size ≤ k ∨ (w0.heap.size ≤ k ∧ ¬ K k)) fun _ _ q => q.elim).then t2 fun k hk q => .inr ⟨q.1, fun e => q.2 (.inl e)⟩
  · exact (hk X (.inl h6)).trans hX1
theorem hd_store {R : List Rg} {n cap A : Nat} {wr : World} (h : HdX w0 w wr g b i X ob R (.slice (some ⟨A, 0, none⟩) n cap) n) {j : Nat} (hj : j < n) : HdX w0 w (wr.setCells A (j * 3) [.int .u64 0, .int .u64 0, .int .u64 0]) g b i X ob R (.slice (some ⟨A, 0, none⟩) n cap) n := by
  obtain ⟨K, lv, hv, s0, s, L, H, K', xs, h1, h2, h3, h4, h5, h6, h7, h8⟩ := h
  have hA := h8.vK A rfl
  have hX : X < w.heap.size := h1.m.oldK X h6
  have hA0 : w0.heap.size ≤ A := h8.own.fresh A rfl
  have t : Touch (fun k => k = A) wr (wr.setCells A (j * 3) [.int .u64 0, .int .u64 0, .int .u64 0]) := Touch.cells A _ _ _
  have hO := ((h8.own.set rfl (j * 3) (by omega) (.int .u64 0) rfl).set rfl (j * 3 + 1) (by omega) (.int .u64 0) rfl).set rfl (j * 3 + 1 + 1) (by omega) (.int .u64 0) rfl
  refine ⟨K, lv, hv, s0, s, L, H, K', _, h1, h2, h3, h4, h5, h6, h7, h8.m.stored t hA.1 hA0, h8.mono, hO, h8.vK, ?_, ?_⟩
  · exact h8.touch.then t fun k hk q => .inl (q ▸ hA.2)
  · exact (t.block X (lt_of_heap h8.x) (by omega)).trans h8.x
theorem hd_there {R : List Rg} {n cap A : Nat} {wr : World} (h : HdX w0 w wr g b i X ob R (.slice (some ⟨A, 0, none⟩) n cap) n) {j : Nat} (hj : j < n) : wr.there A (j * 3) 3 := by
  obtain ⟨K, lv, hv, s0, s, L, H, K', xs, h1, h2, h3, h4, h5, h6, h7, h8⟩ := h
  rcases h8.own.owns.2 with ⟨e, _⟩ | ⟨g2, cap2, cur, e2, hb, hg, q1, q2, q3, q4⟩
  · cases e
  · simp only [Value.slice.injEq, Option.some.injEq, Addr.mk.injEq] at e2
    obtain ⟨⟨rfl, _, _⟩, _, rfl⟩ := e2
    exact there_ofS hg (j * 3) 3 (by omega)
/-- The document's Maps is copied, then its ranges are the step's. -/
theorem hd_copy {R : List Rg} {v : Value} {n : Nat} {wr : World} (h : HdX w0 w wr g b i X ob R v n) (hi : i ≤ 60) (hR : R.length ≤ 40) {rv : Value} (hv0 : SlR w0 rv R) : Calls Tryz.prog 8 #[.pointer (some ⟨b, 0, none⟩)] wr fun e w2 => ∃ b', e = .returned (.pointer (some ⟨b', 0, none⟩)) ∧ w2.heap[X]? = some ob ∧ (∃ y, w2.cell? ⟨b', 1, none⟩ = some y) ∧ w2.frozen? ⟨b', 1, none⟩ = false ∧ StX w0 (w2.setCell ⟨b', 1, none⟩ rv) g b' i X ob := by
  obtain ⟨K, lv, hv, s0, s, L, H, K', xs, h1, h2, h3, h4, h5, h6, h7, h8⟩ := h
  have hRr : RfC wr b lv hv L H := h1.far h8.touch fun k hk q => by
    rcases q with q | q
    · omega
    · exact q
  refine (rcopy_any hRr (by omega) (by omega)).mono ?_
  rintro e w2 ⟨b', lv', hv', rfl, hR2, hb', hl', hh', t2⟩
  have hXr : X < wr.heap.size := lt_of_heap h8.x
  have hX2 := (t2.block X hXr id).trans h8.x
  have hm2 := h8.m.on t2
  have h0r := h8.m.touch0
  have h0s := h0r.size
  have t3 : Touch (fun k => k = b') w2 (w2.setCell ⟨b', 1, none⟩ rv) := (Touch.refl _ w2).setCell ⟨b', 1, none⟩ rv fun _ => rfl
  have hsl : SlR (w2.setCell ⟨b', 1, none⟩ rv) rv R := hv0.touchK (S := fun k => k = b') ((hm2.touch0.mono (T := fun k => k = b') fun _ _ q => q.elim).trans t3) fun _ k hk _ e => by omega
  have hl3 : SlP (w2.setCell ⟨b', 1, none⟩ rv) lv' L := hR2.l.touchK t3 fun hn k _ e q => hR2.lv_ne hn e q
  have hcell : (w2.setCell ⟨b', 1, none⟩ rv).heap[b']? = some (.cells #[lv', rv] 31 (0, 0)) := by
    rw [heap_setCell_same _ _ _ _ hR2.cells]; rfl
  have hb2 := hm2.boxes (Touch.refl _ w2)
  refine ⟨b', rfl, hX2, ⟨_, by rw [cell_of_block hR2.cells]; rfl⟩, free_of_block hR2.cells, ?_⟩
  refine ⟨_, lv', rv, s, L, R, (h8.m.boxes t2).bo t3 (.inr ⟨hb', lt_of_heap hR2.cells⟩) (by omega) ⟨hcell, hl3, hsl⟩ (by omega) (.inl (.inr ⟨hb', lt_of_heap hR2.cells⟩)) (fun hn k e _ => .inl (.inr ⟨hl' k e, hR2.l.own_lt hn e⟩)) (fun hn k e q => absurd (hv0.own_lt hn e) (by omega)), h2, h3, hR, h5, .inl (.inl (h8.mono X h6)), (by omega), (t3.block X (lt_of_heap hX2) (by omega)).trans hX2⟩
theorem st_new (h : Lv w0 (fun _ => False) w g newS []) : St w0 (w.alloc (.cells #[.slice none 0 0, .slice none 0 0] 31)) g w.heap.size 0 := by
  have t : Touch (fun _ => False) w (w.alloc (.cells #[.slice none 0 0, .slice none 0 0] 31)) := (Touch.refl _ _).alloc _
  have hb := heap_alloc_new w (.cells #[.slice none 0 0, .slice none 0 0] 31)
  exact ⟨_, .slice none 0 0, .slice none 0 0, newS, [], [], ⟨h.boxes t, ⟨hb, SlP.nil _, SlR.nil _⟩, h.touch0.size, .inr ⟨Nat.le_refl _, lt_of_heap hb⟩, fun q => absurd rfl q, fun q => absurd rfl q⟩, fun _ _ => rfl, Nat.le_refl _, by simp, fun o ho => by cases ho⟩
end
end Go.Proofs.YtodpdcflbnomgaaGreat
