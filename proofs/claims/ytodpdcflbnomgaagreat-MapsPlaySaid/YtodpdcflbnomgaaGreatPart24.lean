/- The document's texts of values (TextAll's part, for seats whose road has no value.Text). -/
import Derived.Test.YtodpdcflbnomgaaGreatPart23
import Derived.Test.YtodpdcflbnomgaaGreatQuote
import Derived.Test.YtodpdcflbnomgaaGreatPart6
import Derived.Laws.BitsAllLaws
import Derived.Laws.IdiomStrings
import Derived.Test.YtodpdcflbnomgaaGreatPart16
namespace Go.Proofs.YtodpdcflbnomgaaGreat
open Go.RowKit
set_option linter.unusedVariables false
set_option linter.unusedSimpArgs false
set_option maxRecDepth 100000

theorem refBits_ltT (f : Nat) (h : f < 18446744073709551616) : refBits f < 18446744073709551616 := by
  unfold refBits; split
  · decide
  · exact h
theorem hex_nibble (n k : Nat) (hn : n < 18446744073709551616) (hk : k ≤ 15) : bits .and .u64 ((n : Int) / 2 ^ (60 - 4 * k)) 15 = ((n / 16 ^ (15 - k) % 16 : Nat) : Int) := by
  have e1 : ((n : Int) / 2 ^ (60 - 4 * k)) = ((n / 16 ^ (15 - k) : Nat) : Int) := by
    have : (16 : Nat) ^ (15 - k) = 2 ^ (60 - 4 * k) := by rw [show (16 : Nat) = 2 ^ 4 from rfl, ← Nat.pow_mul]; congr 1; omega
    rw [this]; push_cast; rfl
  have h2 : n / 16 ^ (15 - k) < 18446744073709551616 := Nat.lt_of_le_of_lt (Nat.div_le_self _ _) hn
  rw [e1, show (15 : Int) = ((2 ^ 4 - 1 : Nat) : Int) from rfl, u64_and_nat _ _ h2 (by decide), Nat.and_two_pow_sub_one_eq_mod]

theorem hex_cut (d : Nat) (h : d < 16) : (ByteArray.mk #[48, 49, 50, 51, 52, 53, 54, 55, 56, 57, 97, 98, 99, 100, 101, 102]).extract d (d + 1) = ⟨#[hexDigits.getD d 0]⟩ := by
  have : ∀ d : Fin 16, (ByteArray.mk #[48, 49, 50, 51, 52, 53, 54, 55, 56, 57, 97, 98, 99, 100, 101, 102]).extract d.1 (d.1 + 1) = ⟨#[hexDigits.getD d.1 0]⟩ := by decide +kernel
  exact this ⟨d, h⟩

set_option maxHeartbeats 1000000 in
theorem ref_text_float (n : Int) (f : Nat) (s : ByteArray) (hf : f < 18446744073709551616) (w : World) : Calls Tryz.prog 56 #[.agg #[.int .i64 3, .int .i64 n, .float .f64 f, .string s]] w fun e w' => e = .returned (.string ⟨(102 :: hexGo (refBits f) 16).toArray⟩) ∧ Touch (fun _ => False) w w' := by
  have HN : Hid (∀ w, Calls Tryz.prog 74 #[.float .f64 f] w fun e w' => e = .returned (.int .u64 (refBits f)) ∧ w' = w) := ref_bits f
  have hg := refBits_ltT f hf
  generalize refBits f = g at *
  have HW : Hid (Touch (fun _ => False) w (w.alloc (.cells #[.int .i64 3, .int .i64 n, .float .f64 f, .string s] 37))) := (Touch.refl _ _).alloc _
  go_enter Tryz.func56, Tryz.ntmps56
  go_wp2_with fail
  go_loopw [3, 4] (fun a b wr => ∃ k : Nat, b = .int .i64 (60 - 4 * (k : Int)) ∧ k ≤ 16 ∧ a = .string ⟨(102 :: hexGo g k).toArray⟩ ∧ wr = w.alloc (.cells #[.int .i64 3, .int .i64 n, .float .f64 f, .string s] 37)) (fun _ b _ => (intOf b + 4).toNat)
  case atStart => exact ⟨0, rfl, by omega, rfl, rfl⟩
  case round =>
    obtain ⟨k, rfl, hk, rfl, rfl⟩ := hrel
    by_cases h16 : k = 16
    · subst h16
      go_wp2_with fail
      go_ret
      exact ⟨rfl, HW.out⟩
    · have hd := hex_nibble g k hg (by omega)
      have hlt : g / 16 ^ (15 - k) % 16 < 16 := Nat.mod_lt _ (by decide)
      have HC := hex_cut _ hlt
      have HN2 : Hid (hexGo g (k + 1) = hexGo g k ++ [hexDigits.getD (g / 16 ^ (15 - k) % 16) 0]) := hexGo_succ g k
      have hsz : (ByteArray.mk (102 :: hexGo g k).toArray).size = k + 1 := by
        show (102 :: hexGo g k).toArray.size = k + 1
        rw [List.size_toArray, List.length_cons, hexGo_length]
      generalize g / 16 ^ (15 - k) % 16 = d at *
      have HX : Hid (ByteArray.mk (102 :: hexGo g k).toArray ++ ⟨#[hexDigits.getD d 0]⟩ = ⟨(102 :: hexGo g (k + 1)).toArray⟩) := by
        rw [Hid, HN2.out]
        apply ByteArray.ext
        simp
      have HCut : Hid ((ByteArray.mk #[48, 49, 50, 51, 52, 53, 54, 55, 56, 57, 97, 98, 99, 100, 101, 102]).extract d (d + 1) = ⟨#[hexDigits.getD d 0]⟩) := HC
      clear HC
      generalize ByteArray.mk (102 :: hexGo g k).toArray = T at *
      have hd0 : (0 : Int) ≤ (d : Int) := by omega
      have hd1 : (d : Int) < 16 := by omega
      go_wp2_with fail
      refine (HN.out _).mono ?_
      rintro e w1 ⟨rfl, rfl⟩
      go_wp2_with fail
      simp only [HCut.out, HX.out]
      go_roundw
      case rel => exact ⟨k + 1, by go_num, by omega, rfl, trivial⟩
      case measure => simp [intOf]; omega

set_option maxHeartbeats 1000000 in
theorem ref_text (v : V) (hv : v.fits) (hs : v.s.size ≤ 1000000000000) (w : World) : Calls Tryz.prog 56 #[v.val] w fun e w' => e = .returned (.string ⟨(textL v).toArray⟩) ∧ Touch (fun _ => False) w w' := by
  have hkind : v.k = 0 ∨ v.k = 1 ∨ v.k = 2 ∨ v.k = 3 ∨ v.k = 4 ∨ (v.k ≠ 0 ∧ v.k ≠ 1 ∧ v.k ≠ 2 ∧ v.k ≠ 3 ∧ v.k ≠ 4) := by omega
  rcases hkind with e | e | e | e | e | e
  · have HE : Hid (textL v = [110, 117, 108, 108]) := by unfold textL; rw [Hid, if_pos e]
    obtain ⟨k, n, f, s⟩ := v
    simp only at e
    subst e
    simp only [V.val] at *
    generalize textL ⟨0, n, f, s⟩ = R at *
    go_enter Tryz.func56, Tryz.ntmps56
    go_wp2_with fail
    go_ret
    exact ⟨by rw [HE.out]; rfl, (Touch.refl _ _).alloc _⟩
  · have HE : Hid (textL v = if v.n = 1 then [116, 114, 117, 101] else [102, 97, 108, 115, 101]) := by unfold textL; rw [Hid, if_neg (by omega), if_pos e]
    obtain ⟨k, n, f, s⟩ := v
    simp only at e
    subst e
    simp only [V.val] at *
    generalize textL ⟨1, n, f, s⟩ = R at *
    clear hv
    by_cases e : n = 1
    case neg =>
      have HF : Hid (R = [102, 97, 108, 115, 101]) := by rw [Hid, HE.out, if_neg e]
      have bn : (n == 1) = false := by simpa using e
      clear HE e
      go_enter Tryz.func56, Tryz.ntmps56
      go_wp2_with fail
      go_ret
      exact ⟨by rw [HF.out]; rfl, (Touch.refl _ _).alloc _⟩
    case pos =>
      subst e
      have HF : Hid (R = [116, 114, 117, 101]) := HE.out
      clear HE
      go_enter Tryz.func56, Tryz.ntmps56
      go_wp2_with fail
      go_ret
      exact ⟨by rw [HF.out]; rfl, (Touch.refl _ _).alloc _⟩
  · have HE : Hid (ByteArray.mk (textL v).toArray = refDec v.n) := by unfold textL; rw [Hid, if_neg (by omega), if_neg (by omega), if_pos e, refDec_itoa _ hv.n0 hv.n1]
    have HI : Hid (∀ w, Calls Tryz.prog 73 #[.int .i64 v.n] w fun e w' => e = .returned (.string (refDec v.n)) ∧ w' = w) := ref_dec v.n hv.n0 hv.n1
    obtain ⟨k, n, f, s⟩ := v
    simp only at e
    subst e
    simp only [V.val] at *
    generalize ByteArray.mk (textL ⟨2, n, f, s⟩).toArray = R at *
    generalize refDec n = I at *
    clear hv
    go_enter Tryz.func56, Tryz.ntmps56
    go_wp2_with fail
    refine (HI.out _).mono ?_
    rintro e w1 ⟨rfl, rfl⟩
    go_wp2_with fail
    go_ret
    exact ⟨by rw [HE.out]; rfl, (Touch.refl _ _).alloc _⟩
  · have : textL v = 102 :: hexGo (refBits v.f) 16 := by unfold textL; rw [if_neg (by omega), if_neg (by omega), if_neg (by omega), if_pos e]
    rw [this]
    obtain ⟨k, n, f, s⟩ := v
    simp only at e
    subst e
    exact ref_text_float n f s hv.f1 w
  · have HE : Hid (ByteArray.mk (textL v).toArray = refQuote v.s) := by unfold textL; rw [Hid, if_neg (by omega), if_neg (by omega), if_neg (by omega), if_neg (by omega), if_pos e]; rfl
    have HQ : Hid (∀ w, Calls Tryz.prog 57 #[.string v.s] w fun e w' => e = .returned (.string (refQuote v.s)) ∧ Touch (fun _ => False) w w') := ref_quote v.s hs
    obtain ⟨k, n, f, s⟩ := v
    simp only at e
    subst e
    simp only [V.val] at *
    generalize ByteArray.mk (textL ⟨4, n, f, s⟩).toArray = R at *
    generalize refQuote s = I at *
    clear hv
    go_enter Tryz.func56, Tryz.ntmps56
    go_wp2_with fail
    refine (HQ.out _).mono ?_
    rintro e w1 ⟨rfl, hT⟩
    have HT : Hid (Touch (fun _ => False) w w1) := Touch.trans ((Touch.refl _ _).alloc _) hT
    clear hT
    go_wp2_with fail
    go_ret
    exact ⟨by rw [HE.out]; rfl, HT.out⟩
  · have HE : Hid (textL v = [109, 97, 112]) := by unfold textL; rw [Hid, if_neg e.1, if_neg e.2.1, if_neg e.2.2.1, if_neg e.2.2.2.1, if_neg e.2.2.2.2]
    obtain ⟨k, n, f, s⟩ := v
    obtain ⟨e0, e1, e2, e3, e4⟩ := e
    simp only at e0 e1 e2 e3 e4
    have b0 : (k == 0) = false := by simpa using e0
    have b1 : (k == 1) = false := by simpa using e1
    have b2 : (k == 2) = false := by simpa using e2
    have b3 : (k == 3) = false := by simpa using e3
    have b4 : (k == 4) = false := by simpa using e4
    simp only [V.val] at *
    generalize textL ⟨k, n, f, s⟩ = R at *
    clear hv e0 e1 e2 e3 e4
    go_enter Tryz.func56, Tryz.ntmps56
    go_wp2_with fail
    go_ret
    exact ⟨by rw [HE.out]; rfl, (Touch.refl _ _).alloc _⟩
end Go.Proofs.YtodpdcflbnomgaaGreat

/- Package maps: a Maps of one's own, beside blocks that are kept. -/
namespace Go.Proofs.YtodpdcflbnomgaaGreat
open Go.RowKit Go.Maps
set_option linter.unusedVariables false
set_option linter.unusedSimpArgs false
set_option maxRecDepth 100000

/-- A Maps made since w0, of the sets L; none of its blocks is in K. -/
structure LvF (w0 : World) (K : Nat → Prop) (w : World) (g : Nat) (F : Nat → Prop) (s : MS) (L : List O) : Prop where
  at_ : MapsAt w g F s
  own : ∀ k, F k → w0.heap.size ≤ k ∧ ¬ K k
  old : ∀ k, K k → k < w.heap.size
  touch : Touch (fun _ => False) w0 w
  has : Has s L
  ord : Ord s
  chain : Chain L
  apart : Apart L
  cnt : Cnt L.length s
  len : L.length ≤ 90000
def Lv (w0 : World) (K : Nat → Prop) (w : World) (g : Nat) (s : MS) (L : List O) : Prop := ∃ F, LvF w0 K w g F s L
/-- These blocks are as they were. -/
def Kept (K : Nat → Prop) (w w' : World) : Prop := ∀ k, K k → w'.heap[k]? = w.heap[k]?
section
variable {w0 w : World} {K : Nat → Prop} {g : Nat} {s : MS} {L : List O}
theorem Lv.on {w' : World} (h : Lv w0 K w g s L) (t : Touch (fun _ => False) w w') : Lv w0 K w' g s L := by
  obtain ⟨F, h⟩ := h
  exact ⟨F, h.at_.touch t fun _ _ => id, h.own, fun k hk => Nat.lt_of_lt_of_le (h.old k hk) t.size, h.touch.trans t, h.has, h.ord, h.chain, h.apart, h.cnt, h.len⟩
theorem Kept.of {w' : World} (hK : ∀ k, K k → k < w.heap.size) (t : Touch (fun _ => False) w w') : Kept K w w' := fun k hk => t.block k (hK k hk) id
theorem Lv.kept {w' : World} (h : Lv w0 K w g s L) (t : Touch (fun _ => False) w w') : Kept K w w' := by
  obtain ⟨F, h⟩ := h
  exact Kept.of h.old t
theorem Kept.trans {a b c : World} (h : Kept K a b) (k : Kept K b c) : Kept K a c := fun i hi => (k i hi).trans (h i hi)
/-- A block more that is kept. -/
theorem Lv.box {w' : World} {A : Nat} (h : Lv w0 K w g s L) (t : Touch (fun _ => False) w w') (h1 : w.heap.size ≤ A) (h2 : A < w'.heap.size) : Lv w0 (fun k => K k ∨ k = A) w' g s L := by
  obtain ⟨F, h⟩ := h
  refine ⟨F, h.at_.touch t fun _ _ => id, fun k hk => ⟨(h.own k hk).1, ?_⟩, ?_, h.touch.trans t, h.has, h.ord, h.chain, h.apart, h.cnt, h.len⟩
  · rintro (e | e)
    · exact (h.own k hk).2 e
    · have := h.at_.lt hk; omega
  · rintro k (e | e)
    · exact Nat.lt_of_lt_of_le (h.old k e) t.size
    · omega
/-- All that was made by a call is kept. -/
theorem Lv.boxes {w' : World} (h : Lv w0 K w g s L) (t : Touch (fun _ => False) w w') : Lv w0 (fun k => K k ∨ (w.heap.size ≤ k ∧ k < w'.heap.size)) w' g s L := by
  obtain ⟨F, h⟩ := h
  refine ⟨F, h.at_.touch t fun _ _ => id, fun k hk => ⟨(h.own k hk).1, ?_⟩, ?_, h.touch.trans t, h.has, h.ord, h.chain, h.apart, h.cnt, h.len⟩
  · rintro (e | e)
    · exact (h.own k hk).2 e
    · have := h.at_.lt hk; omega
  · rintro k (e | e)
    · exact Nat.lt_of_lt_of_le (h.old k e) t.size
    · exact e.2
theorem EtAt.kept {w' : World} {S : Nat → Prop} {n : Nat} {v : Value} {l : List Et} (h : EtAt w S n v l) (hk : Kept K w w') (hS : ∀ k, k < w.heap.size → S k → K k) (hsz : w.heap.size ≤ w'.heap.size) (hos : w'.os = w.os ∧ w'.tape = w.tape ∧ w'.output = w.output) : EtAt w' S n v l := by
  have t : Touch (fun k => k < w.heap.size ∧ ¬ K k) w w' := ⟨hos.1, hos.2.1, hos.2.2, hsz, fun k hl hn => hk k (by
    by_cases e : K k
    · exact e
    · exact absurd ⟨hl, e⟩ hn)⟩
  have h2 : EtAt w (fun k => S k ∧ (k < w.heap.size → K k)) n v l := h.mono fun k hl hs => ⟨hs, fun _ => hS k hl hs⟩
  exact (h2.touch t fun k hs hn => hn.2 (hs.2 hn.1)).mono fun k _ hs => hs.1
theorem lvF_post {F : Nat → Prop} {s' : MS} {L' : List O} {w' : World} (h : LvF w0 K w g F s L) (hp : MPost g F s' w w') (h1 : Has s' L') (h2 : Ord s') (h3 : Chain L') (h4 : Apart L') (h5 : Cnt L'.length s') (h6 : L'.length ≤ 90000) : Lv w0 K w' g s' L' ∧ Kept K w w' := by
  obtain ⟨F', hm, t, hf⟩ := hp
  refine ⟨⟨F', hm, fun k hk => ?_, fun k hk => Nat.lt_of_lt_of_le (h.old k hk) t.size, h.touch.then t fun k hk e => ?_, h1, h2, h3, h4, h5, h6⟩, fun k hk => t.block k (h.old k hk) fun e => (h.own k e.1).2 hk⟩
  · by_cases hlt : k < w.heap.size
    · exact h.own k (hf k hlt hk)
    · refine ⟨?_, fun e => hlt (h.old k e)⟩
      have := h.touch.size
      omega
  · have := (h.own k e.1).1; omega
theorem lv_new (w : World) : Calls Tryz.prog 6 #[] w fun e w' => ∃ g, e = .returned (.pointer (some ⟨g, 0, none⟩)) ∧ Lv w (fun _ => False) w' g newS [] := by
  refine (newMaps_any w).mono ?_
  rintro e w' ⟨g, F, rfl, hm, t, hF⟩
  exact ⟨g, rfl, F, hm, fun k hk => ⟨hF k hk, id⟩, (fun k hk => hk.elim), t, has_new, ord_new, Chain.nil, Apart.nil, cnt_new, Nat.zero_le _⟩
/-- A Maps more, beside what is kept. -/
theorem lv_new2 {K : Nat → Prop} {w0 : World} (w : World) (t0 : Touch (fun _ => False) w0 w) (hK : ∀ k, K k → k < w.heap.size) : Calls Tryz.prog 6 #[] w fun e w' => ∃ g, e = .returned (.pointer (some ⟨g, 0, none⟩)) ∧ Lv w0 K w' g newS [] ∧ Touch (fun _ => False) w w' := by
  refine (newMaps_any w).mono ?_
  rintro e w' ⟨g, F, rfl, hm, t, hF⟩
  exact ⟨g, rfl, ⟨F, hm, fun k hk => ⟨Nat.le_trans t0.size (hF k hk), fun e => absurd (hK k e) (by have := hF k hk; omega)⟩, (fun k hk => Nat.lt_of_lt_of_le (hK k hk) t.size), t0.trans t, has_new, ord_new, Chain.nil, Apart.nil, cnt_new, Nat.zero_le _⟩, t⟩
theorem lv_set (h : Lv w0 K w g s L) (o : O) (hf : o.fits) (hky : o.ky.size ≤ 281474976710656) (hl : L.length < 90000) (hok : okS s o = true) :
    Calls Tryz.prog 15 #[.pointer (some ⟨g, 0, none⟩), o.val] w fun e w' => e = .returned (.bool true) ∧ Lv w0 K w' g (setS s o) (L ++ [o]) ∧ Kept K w w' := by
  obtain ⟨F, h⟩ := h
  refine (set_any h.at_ (h.cnt.small (by omega)) o hf hky).mono ?_
  rintro e w' ⟨rfl, hp⟩
  obtain ⟨h1, h2, h3, h4, h5⟩ := ok_parts hok
  have hpar := (h.has.maps _ _ hf.upc hf.upk).1 h4
  have hn : ∀ x ∈ L, ¬ (x.c = o.c ∧ x.k = o.k) := fun x hx e => by
    have := (h.has.told _ _ hf.uc hf.uk).2 ⟨x, hx, e⟩
    rw [h5] at this; cases this
  refine ⟨by rw [hok], lvF_post h hp (h.has.set h.ord hf hky hok) (h.ord.set o) (h.chain.snoc hpar) (h.apart.snoc hn) ?_ (by simp; omega)⟩
  have := h.cnt.set o
  simpa using this
theorem lv_setNo (h : Lv w0 K w g s L) (o : O) (hf : o.fits) (hno : okS s o = false) :
    Calls Tryz.prog 15 #[.pointer (some ⟨g, 0, none⟩), o.val] w fun e w' => e = .returned (.bool false) ∧ Touch (fun _ => False) w w' := by
  obtain ⟨F, h⟩ := h
  obtain ⟨mt, mk, hv, os, hC, hF, hl⟩ := h.at_
  exact set_no hC o hf hno
theorem lv_hide (h : Lv w0 K w g s L) (l : List Rg) (v : Value) (hs : SlR w v l) (hll : l.length ≤ 1073741824) :
    Calls Tryz.prog 7 #[.pointer (some ⟨g, 0, none⟩), v] w fun e w' => e = .returned (.tuple #[]) ∧ ∃ out, Form (tns out) (turnOf (tns l)) ∧ Lv w0 K w' g { s with hid := out } L ∧ Kept K w w' := by
  obtain ⟨F, h⟩ := h
  refine (hide_any h.at_ l v hs hll).mono ?_
  rintro e w' ⟨rfl, out, hF, hp⟩
  exact ⟨rfl, out, hF, lvF_post h hp (h.has.hide out) (h.ord.hide out) h.chain h.apart (h.cnt.hide out) h.len⟩
theorem lv_is (h : Lv w0 K w g s L) {c k : Int} (hc : U64 c) (hk : U64 k) :
    Calls Tryz.prog 18 #[.pointer (some ⟨g, 0, none⟩), idV c k] w fun e w' => e = .returned (.bool (isS s c k)) ∧ Touch (fun _ => False) w w' := by
  obtain ⟨F, h⟩ := h
  exact is_any h.at_ hc hk
theorem lv_get (h : Lv w0 K w g s L) {c k : Int} (hc : U64 c) (hk : U64 k) (ky : ByteArray) (hky : ky.size ≤ 281474976710656) :
    Calls Tryz.prog 9 #[.pointer (some ⟨g, 0, none⟩), idV c k, .string ky] w fun e w' => e = .returned (.tuple #[(getS s c k ky).1.val, .bool (getS s c k ky).2]) ∧ Touch (fun _ => False) w w' := by
  obtain ⟨F, h⟩ := h
  exact get_any h.at_ hc hk ky (by unfold maxLen; omega)
theorem lv_find (h : Lv w0 K w g s L) (v : Value) (ks : List Key) (hv : StrsAt w v ks) (hks : ∀ k ∈ ks, k.length ≤ 281474976710656) (hkl : ks.length ≤ 1000000) :
    Calls Tryz.prog 12 #[.pointer (some ⟨g, 0, none⟩), v] w fun e w' => e = .returned (.tuple #[idV (findS s 0 0 ks).1 (findS s 0 0 ks).2.1, .bool (findS s 0 0 ks).2.2]) ∧ Touch (fun _ => False) w w' := by
  obtain ⟨F, h⟩ := h
  exact find_any h.at_ (fitS_of h.has) v ks hv hks hkl
theorem Lv.deep (h : Lv w0 K w g s L) : Deep s (L.length + 1) 0 0 := by
  obtain ⟨F, h⟩ := h
  have hc : Cnt 100000 s := ⟨by have := h.cnt.told; have := h.len; omega, by have := h.cnt.keys; have := h.len; omega, fun p hp => by have := h.cnt.ranks p hp; have := h.len; omega, fun p hp q hq => by have := h.cnt.sets p hp q hq; have := h.len; omega⟩
  exact deep_of h.has h.chain h.apart hc (L.length + 1) 0 0 u64_zero u64_zero (.inl ⟨rfl, rfl, Nat.le_refl _⟩) (by omega)
theorem lv_view (h : Lv w0 K w g s L) :
    Calls Tryz.prog 21 #[.pointer (some ⟨g, 0, none⟩)] w fun e w' => ∃ v, e = .returned v ∧ EtAt w' (fun q => w.heap.size ≤ q) (L.length + 1) v (viewE s (L.length + 1) 0 0) ∧ Touch (fun _ => False) w w' := by
  have hd := h.deep
  obtain ⟨F, h⟩ := h
  exact view_any h.at_ (L.length + 1) hd
theorem Lv.hasL (h : Lv w0 K w g s L) : Has s L := by obtain ⟨F, h⟩ := h; exact h.has
theorem Lv.touch0 (h : Lv w0 K w g s L) : Touch (fun _ => False) w0 w := by obtain ⟨F, h⟩ := h; exact h.touch
end
end Go.Proofs.YtodpdcflbnomgaaGreat

/- quirelaw12.known. -/
namespace Go.Proofs.YtodpdcflbnomgaaGreat
open Go.RowKit Go.Maps
set_option linter.unusedVariables false
set_option linter.unusedSimpArgs false
set_option maxRecDepth 100000

def oneV : V := ⟨2, 1, 0, ⟨#[]⟩⟩
def nulV : V := ⟨0, 0, 0, ⟨#[]⟩⟩
def mapV : V := ⟨5, 0, 0, ⟨#[]⟩⟩
abbrev kK : ByteArray := ⟨#[107]⟩
abbrev kM : ByteArray := ⟨#[109]⟩
abbrev kX : ByteArray := ⟨#[120]⟩
def ko1 : O := setO 1 2 0 0 kK oneV
def ko2 : O := setO 2 3 0 0 kK nulV
def ko2b : O := setO 2 3 0 0 kK oneV
def ko3 : O := setO 3 1 1 1 kX oneV
def ko4 : O := setO 4 1 0 0 kM mapV
def ko5 : O := setO 5 1 1 4 kX oneV
theorem setO_fits {ck st pc pk : Int} {ky : ByteArray} {v : V} (h1 : 0 ≤ ck ∧ ck < 18446744073709551616) (h2 : 0 ≤ st ∧ st < 18446744073709551616) (h3 : 0 ≤ pc ∧ pc < 18446744073709551616) (h4 : 0 ≤ pk ∧ pk < 18446744073709551616) (hk : -9223372036854775808 ≤ v.k ∧ v.k < 9223372036854775808) (hn : -9223372036854775808 ≤ v.n ∧ v.n < 9223372036854775808) (hf : v.f < 18446744073709551616) : (setO ck st pc pk ky v).fits :=
  have z : (0 : Int) ≤ 0 ∧ (0 : Int) < 18446744073709551616 := by decide
  ⟨(show (0 : Int) ≤ 1 ∧ (1 : Int) < 18446744073709551616 from by decide), h1, (show (-9223372036854775808 : Int) ≤ 4 ∧ (4 : Int) < 9223372036854775808 from by decide), h2, z, z, z, z, h3, h4, z, z, z, z, hk, hn, hf⟩
theorem f1 : ko1.fits := setO_fits (by decide) (by decide) (by decide) (by decide) (by decide) (by decide) (by decide)
theorem f2 : ko2.fits := setO_fits (by decide) (by decide) (by decide) (by decide) (by decide) (by decide) (by decide)
theorem f2b : ko2b.fits := setO_fits (by decide) (by decide) (by decide) (by decide) (by decide) (by decide) (by decide)
theorem f3 : ko3.fits := setO_fits (by decide) (by decide) (by decide) (by decide) (by decide) (by decide) (by decide)
theorem f4 : ko4.fits := setO_fits (by decide) (by decide) (by decide) (by decide) (by decide) (by decide) (by decide)
theorem f5 : ko5.fits := setO_fits (by decide) (by decide) (by decide) (by decide) (by decide) (by decide) (by decide)
section
variable {s : MS}
theorem k_ok1 : okS newS ko1 = true := ok_of has_new f1 rfl (by decide) (by decide) (.inl ⟨rfl, rfl⟩) (fun x hx => by cases hx)
theorem k_ok2 (h : Has s [ko1]) : okS s ko2 = true := ok_of h f2 rfl (by decide) (by decide) (.inl ⟨rfl, rfl⟩) (fun x hx => by
  rw [List.mem_singleton] at hx; subst hx; decide)
theorem k_no2 (h : Has s [ko1, ko2]) : okS s ko2b = false := not_ok_told h f2b ⟨ko2, by simp, rfl, rfl⟩
theorem k_no3 (h : Has s [ko1, ko2]) : okS s ko3 = false := not_ok_par h f3 (by
  rintro (e | ⟨x, hx, e, _⟩)
  · exact absurd e (by decide)
  · simp only [List.mem_cons, List.not_mem_nil, or_false] at hx
    rcases hx with rfl | rfl
    · exact absurd e (by decide)
    · exact absurd e (by decide))
theorem k_ok4 (h : Has s [ko1, ko2]) : okS s ko4 = true := ok_of h f4 rfl (by decide) (by decide) (.inl ⟨rfl, rfl⟩) (fun x hx => by
  simp only [List.mem_cons, List.not_mem_nil, or_false] at hx
  rcases hx with rfl | rfl
  · decide
  · decide)
theorem k_ok5 (h : Has s [ko1, ko2, ko4]) : okS s ko5 = true := ok_of h f5 rfl (by decide) (by decide) (.inr ⟨ko4, by simp, by decide, rfl, rfl⟩) (fun x hx => by
  simp only [List.mem_cons, List.not_mem_nil, or_false] at hx
  rcases hx with rfl | rfl | rfl
  · decide
  · decide
  · decide)
theorem k_keys2 (h : Has s [ko1, ko2]) : keysS s 0 0 = [[107]] := keys_eq h u64_zero u64_zero (List.pairwise_singleton _ _) fun ky => by
  constructor
  · intro e; rw [List.mem_singleton] at e; subst e; exact ⟨ko1, by simp, rfl, rfl, rfl⟩
  · rintro ⟨x, hx, _, _, e⟩
    simp only [List.mem_cons, List.not_mem_nil, or_false] at hx
    rcases hx with rfl | rfl <;> (rw [List.mem_singleton]; exact e.symm)
theorem k_keys5 (h : Has s [ko1, ko2, ko4, ko5]) : keysS s 0 0 = [[107], [109]] := keys_eq h u64_zero u64_zero (by decide) fun ky => by
  constructor
  · intro e
    simp only [List.mem_cons, List.not_mem_nil, or_false] at e
    rcases e with rfl | rfl
    · exact ⟨ko1, by simp, rfl, rfl, rfl⟩
    · exact ⟨ko4, by simp, rfl, rfl, rfl⟩
  · rintro ⟨x, hx, e1, e2, e⟩
    simp only [List.mem_cons, List.not_mem_nil, or_false] at hx ⊢
    rcases hx with rfl | rfl | rfl | rfl
    · exact .inl e.symm
    · exact .inl e.symm
    · exact .inr e.symm
    · exact absurd e1 (by decide)
theorem k_keys5x (h : Has s [ko1, ko2, ko4, ko5]) : keysS s 1 4 = [[120]] := keys_eq h (by unfold U64; decide) (by unfold U64; decide) (List.pairwise_singleton _ _) fun ky => by
  constructor
  · intro e; rw [List.mem_singleton] at e; subst e; exact ⟨ko5, by simp, rfl, rfl, rfl⟩
  · rintro ⟨x, hx, e1, e2, e⟩
    simp only [List.mem_cons, List.not_mem_nil, or_false] at hx
    rw [List.mem_singleton]
    rcases hx with rfl | rfl | rfl | rfl
    · exact absurd e1 (by decide)
    · exact absurd e1 (by decide)
    · exact absurd e1 (by decide)
    · exact e.symm
theorem k_get2 (h : Has s [ko1, ko2]) (hh : s.hid = []) : getS s 0 0 kK = (zeroO, false) := by
  have hs : ∀ c k, shS s c k = true := fun c k => by unfold shS; rw [hh]; rfl
  have := get_eq h u64_zero u64_zero (ky := kK) (b := ko2) (by simp) ⟨rfl, rfl, rfl, hs _ _⟩ (fun x hx _ => by
    simp only [List.mem_cons, List.not_mem_nil, or_false] at hx
    rcases hx with rfl | rfl
    · exact .inr (by decide)
    · exact .inl rfl)
  rw [if_neg (by decide)] at this
  exact this
theorem k_get3 (h : Has s [ko1, ko2]) (hh : ∀ c k, shS s c k = !hasB [⟨1, 2, 3⟩] c k) : getS s 0 0 kK = (cleanO ko1, true) := by
  have := get_eq h u64_zero u64_zero (ky := kK) (b := ko1) (by simp) ⟨rfl, rfl, rfl, by rw [hh]; decide⟩ (fun x hx ha => by
    simp only [List.mem_cons, List.not_mem_nil, or_false] at hx
    rcases hx with rfl | rfl
    · exact .inl rfl
    · have := ha.2.2.2
      rw [hh] at this
      exact absurd this (by decide))
  rw [if_pos (by decide)] at this
  exact this
theorem k_get5k (h : Has s [ko1, ko2, ko4, ko5]) (hh : ∀ c k, shS s c k = !hasB [⟨1, 2, 3⟩] c k) : getS s 0 0 kK = (cleanO ko1, true) := by
  have := get_eq h u64_zero u64_zero (ky := kK) (b := ko1) (by simp) ⟨rfl, rfl, rfl, by rw [hh]; decide⟩ (fun x hx ha => by
    simp only [List.mem_cons, List.not_mem_nil, or_false] at hx
    rcases hx with rfl | rfl | rfl | rfl
    · exact .inl rfl
    · have := ha.2.2.2
      rw [hh] at this
      exact absurd this (by decide)
    · exact absurd ha.2.2.1 (by decide)
    · exact absurd ha.1 (by decide))
  rw [if_pos (by decide)] at this
  exact this
theorem k_get5m (h : Has s [ko1, ko2, ko4, ko5]) (hh : ∀ c k, shS s c k = !hasB [⟨1, 2, 3⟩] c k) : getS s 0 0 kM = (cleanO ko4, true) := by
  have := get_eq h u64_zero u64_zero (ky := kM) (b := ko4) (by simp) ⟨rfl, rfl, rfl, by rw [hh]; decide⟩ (fun x hx ha => by
    simp only [List.mem_cons, List.not_mem_nil, or_false] at hx
    rcases hx with rfl | rfl | rfl | rfl
    · exact absurd ha.2.2.1 (by decide)
    · exact absurd ha.2.2.1 (by decide)
    · exact .inl rfl
    · exact absurd ha.1 (by decide))
  rw [if_pos (by decide)] at this
  exact this
theorem k_get5x (h : Has s [ko1, ko2, ko4, ko5]) (hh : ∀ c k, shS s c k = !hasB [⟨1, 2, 3⟩] c k) : getS s 1 4 kX = (cleanO ko5, true) := by
  have := get_eq h (c := 1) (k := 4) (by unfold U64; decide) (by unfold U64; decide) (ky := kX) (b := ko5) (by simp) ⟨rfl, rfl, rfl, by rw [hh]; decide⟩ (fun x hx ha => by
    simp only [List.mem_cons, List.not_mem_nil, or_false] at hx
    rcases hx with rfl | rfl | rfl | rfl
    · exact absurd ha.1 (by decide)
    · exact absurd ha.1 (by decide)
    · exact absurd ha.1 (by decide)
    · exact .inl rfl)
  rw [if_pos (by decide)] at this
  exact this
theorem k_view2 (h : Has s [ko1, ko2]) (hh : s.hid = []) : viewE s 3 0 0 = [] := by
  rw [viewE_succ, k_keys2 h]
  simp only [List.filterMap_cons, List.filterMap_nil]
  rw [show strK [107] = kK from rfl, k_get2 h hh]
  rfl
theorem k_view3 (h : Has s [ko1, ko2]) (hh : ∀ c k, shS s c k = !hasB [⟨1, 2, 3⟩] c k) : viewE s 3 0 0 = [.mk kK oneV []] := by
  rw [viewE_succ, k_keys2 h]
  simp only [List.filterMap_cons, List.filterMap_nil]
  rw [show strK [107] = kK from rfl, k_get3 h hh]
  rfl
theorem k_view5 (h : Has s [ko1, ko2, ko4, ko5]) (hh : ∀ c k, shS s c k = !hasB [⟨1, 2, 3⟩] c k) : viewE s 5 0 0 = [.mk kK oneV [], .mk kM mapV [.mk kX oneV []]] := by
  rw [viewE_succ, k_keys5 h]
  simp only [List.filterMap_cons, List.filterMap_nil]
  rw [show strK [107] = kK from rfl, show strK [109] = kM from rfl, k_get5k h hh, k_get5m h hh]
  have e : viewE s 4 1 4 = [.mk kX oneV []] := by
    rw [viewE_succ, k_keys5x h]
    simp only [List.filterMap_cons, List.filterMap_nil]
    rw [show strK [120] = kX from rfl, k_get5x h hh]
    rfl
  have e2 : entE (viewE s 4) (cleanO ko4, true) [109] = some (.mk kM mapV (viewE s 4 1 4)) := rfl
  have e1 : entE (viewE s 4) (cleanO ko1, true) [107] = some (.mk kK oneV []) := rfl
  rw [e1, e2, e]
theorem k_find (h : Has s [ko1, ko2, ko4, ko5]) (hh : ∀ c k, shS s c k = !hasB [⟨1, 2, 3⟩] c k) : findS s 0 0 [[109]] = (1, 4, true) := by
  unfold findS
  rw [show strK [109] = kM from rfl, k_get5m h hh]
  rfl
end
end Go.Proofs.YtodpdcflbnomgaaGreat
