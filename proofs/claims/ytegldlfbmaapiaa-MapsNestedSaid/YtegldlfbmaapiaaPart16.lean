/- Package maps: a Maps of one's own, beside blocks that are kept. -/
import Derived.Test.YtegldlfbmaapiaaMpY
namespace Go.Proofs.Ytegldlfbmaapiaa
open Go.RowKit Go.Maps
set_option linter.unusedVariables false
set_option linter.unusedSimpArgs false
set_option maxRecDepth 100000

/-- A Maps made since w0, of the sets L; none of its blocks is in K. -/
structure LvF (w0 : World) (K : Nat → Prop) (w : World) (g : Nat) (F : Nat → Prop) (s : MS) (L : List O) : Prop where
  at_ : MapsAt w g F s
  own : ∀ k, F k → w0.heap.size ≤ k ∧ ¬ K k
  old : ∀ k, K k → k < w.heap.size
  touch : Touch (fun _ => False) w0 w
  has : Has s L
  ord : Ord s
  chain : Chain L
  apart : Apart L
  cnt : Cnt L.length s
  len : L.length ≤ 90000
def Lv (w0 : World) (K : Nat → Prop) (w : World) (g : Nat) (s : MS) (L : List O) : Prop := ∃ F, LvF w0 K w g F s L
/-- These blocks are as they were. -/
def Kept (K : Nat → Prop) (w w' : World) : Prop := ∀ k, K k → w'.heap[k]? = w.heap[k]?
section
variable {w0 w : World} {K : Nat → Prop} {g : Nat} {s : MS} {L : List O}
theorem Lv.on {w' : World} (h : Lv w0 K w g s L) (t : Touch (fun _ => False) w w') : Lv w0 K w' g s L := by
  obtain ⟨F, h⟩ := h
  exact ⟨F, h.at_.touch t fun _ _ => id, h.own, fun k hk => Nat.lt_of_lt_of_le (h.old k hk) t.size, h.touch.trans t, h.has, h.ord, h.chain, h.apart, h.cnt, h.len⟩
theorem Kept.of {w' : World} (hK : ∀ k, K k → k < w.heap.size) (t : Touch (fun _ => False) w w') : Kept K w w' := fun k hk => t.block k (hK k hk) id
theorem Lv.kept {w' : World} (h : Lv w0 K w g s L) (t : Touch (fun _ => False) w w') : Kept K w w' := by
  obtain ⟨F, h⟩ := h
  exact Kept.of h.old t
theorem Kept.trans {a b c : World} (h : Kept K a b) (k : Kept K b c) : Kept K a c := fun i hi => (k i hi).trans (h i hi)
/-- A block more that is kept. -/
theorem Lv.box {w' : World} {A : Nat} (h : Lv w0 K w g s L) (t : Touch (fun _ => False) w w') (h1 : w.heap.size ≤ A) (h2 : A < w'.heap.size) : Lv w0 (fun k => K k ∨ k = A) w' g s L := by
  obtain ⟨F, h⟩ := h
  refine ⟨F, h.at_.touch t fun _ _ => id, fun k hk => ⟨(h.own k hk).1, ?_⟩, ?_, h.touch.trans t, h.has, h.ord, h.chain, h.apart, h.cnt, h.len⟩
  · rintro (e | e)
    · exact (h.own k hk).2 e
    · have := h.at_.lt hk; omega
  · rintro k (e | e)
    · exact Nat.lt_of_lt_of_le (h.old k e) t.size
    · omega
/-- All that was made by a call is kept. -/
theorem Lv.boxes {w' : World} (h : Lv w0 K w g s L) (t : Touch (fun _ => False) w w') : Lv w0 (fun k => K k ∨ (w.heap.size ≤ k ∧ k < w'.heap.size)) w' g s L := by
  obtain ⟨F, h⟩ := h
  refine ⟨F, h.at_.touch t fun _ _ => id, fun k hk => ⟨(h.own k hk).1, ?_⟩, ?_, h.touch.trans t, h.has, h.ord, h.chain, h.apart, h.cnt, h.len⟩
  · rintro (e | e)
    · exact (h.own k hk).2 e
    · have := h.at_.lt hk; omega
  · rintro k (e | e)
    · exact Nat.lt_of_lt_of_le (h.old k e) t.size
    · exact e.2
theorem EtAt.kept {w' : World} {S : Nat → Prop} {n : Nat} {v : Value} {l : List Et} (h : EtAt w S n v l) (hk : Kept K w w') (hS : ∀ k, k < w.heap.size → S k → K k) (hsz : w.heap.size ≤ w'.heap.size) (hos : w'.os = w.os ∧ w'.tape = w.tape ∧ w'.output = w.output) : EtAt w' S n v l := by
  have t : Touch (fun k => k < w.heap.size ∧ ¬ K k) w w' := ⟨hos.1, hos.2.1, hos.2.2, hsz, fun k hl hn => hk k (by
    by_cases e : K k
    · exact e
    · exact absurd ⟨hl, e⟩ hn)⟩
  have h2 : EtAt w (fun k => S k ∧ (k < w.heap.size → K k)) n v l := h.mono fun k hl hs => ⟨hs, fun _ => hS k hl hs⟩
  exact (h2.touch t fun k hs hn => hn.2 (hs.2 hn.1)).mono fun k _ hs => hs.1
theorem lvF_post {F : Nat → Prop} {s' : MS} {L' : List O} {w' : World} (h : LvF w0 K w g F s L) (hp : MPost g F s' w w') (h1 : Has s' L') (h2 : Ord s') (h3 : Chain L') (h4 : Apart L') (h5 : Cnt L'.length s') (h6 : L'.length ≤ 90000) : Lv w0 K w' g s' L' ∧ Kept K w w' := by
  obtain ⟨F', hm, t, hf⟩ := hp
  refine ⟨⟨F', hm, fun k hk => ?_, fun k hk => Nat.lt_of_lt_of_le (h.old k hk) t.size, h.touch.then t fun k hk e => ?_, h1, h2, h3, h4, h5, h6⟩, fun k hk => t.block k (h.old k hk) fun e => (h.own k e.1).2 hk⟩
  · by_cases hlt : k < w.heap.size
    · exact h.own k (hf k hlt hk)
    · refine ⟨?_, fun e => hlt (h.old k e)⟩
      have := h.touch.size
      omega
  · have := (h.own k e.1).1; omega
theorem lv_new (w : World) : Calls Try.prog 8 #[] w fun e w' => ∃ g, e = .returned (.pointer (some ⟨g, 0, none⟩)) ∧ Lv w (fun _ => False) w' g newS [] := by
  refine (newMaps_any w).mono ?_
  rintro e w' ⟨g, F, rfl, hm, t, hF⟩
  exact ⟨g, rfl, F, hm, fun k hk => ⟨hF k hk, id⟩, (fun k hk => hk.elim), t, has_new, ord_new, Chain.nil, Apart.nil, cnt_new, Nat.zero_le _⟩
/-- A Maps more, beside what is kept. -/
theorem lv_new2 {K : Nat → Prop} {w0 : World} (w : World) (t0 : Touch (fun _ => False) w0 w) (hK : ∀ k, K k → k < w.heap.size) : Calls Try.prog 8 #[] w fun e w' => ∃ g, e = .returned (.pointer (some ⟨g, 0, none⟩)) ∧ Lv w0 K w' g newS [] ∧ Touch (fun _ => False) w w' := by
  refine (newMaps_any w).mono ?_
  rintro e w' ⟨g, F, rfl, hm, t, hF⟩
  exact ⟨g, rfl, ⟨F, hm, fun k hk => ⟨Nat.le_trans t0.size (hF k hk), fun e => absurd (hK k e) (by have := hF k hk; omega)⟩, (fun k hk => Nat.lt_of_lt_of_le (hK k hk) t.size), t0.trans t, has_new, ord_new, Chain.nil, Apart.nil, cnt_new, Nat.zero_le _⟩, t⟩
theorem lv_set (h : Lv w0 K w g s L) (o : O) (hf : o.fits) (hky : o.ky.size ≤ 281474976710656) (hl : L.length < 90000) (hok : okS s o = true) :
    Calls Try.prog 10 #[.pointer (some ⟨g, 0, none⟩), o.val] w fun e w' => e = .returned (.bool true) ∧ Lv w0 K w' g (setS s o) (L ++ [o]) ∧ Kept K w w' := by
  obtain ⟨F, h⟩ := h
  refine (set_any h.at_ (h.cnt.small (by omega)) o hf hky).mono ?_
  rintro e w' ⟨rfl, hp⟩
  obtain ⟨h1, h2, h3, h4, h5⟩ := ok_parts hok
  have hpar := (h.has.maps _ _ hf.upc hf.upk).1 h4
  have hn : ∀ x ∈ L, ¬ (x.c = o.c ∧ x.k = o.k) := fun x hx e => by
    have := (h.has.told _ _ hf.uc hf.uk).2 ⟨x, hx, e⟩
    rw [h5] at this; cases this
  refine ⟨by rw [hok], lvF_post h hp (h.has.set h.ord hf hky hok) (h.ord.set o) (h.chain.snoc hpar) (h.apart.snoc hn) ?_ (by simp; omega)⟩
  have := h.cnt.set o
  simpa using this
theorem lv_setNo (h : Lv w0 K w g s L) (o : O) (hf : o.fits) (hno : okS s o = false) :
    Calls Try.prog 10 #[.pointer (some ⟨g, 0, none⟩), o.val] w fun e w' => e = .returned (.bool false) ∧ Touch (fun _ => False) w w' := by
  obtain ⟨F, h⟩ := h
  obtain ⟨mt, mk, hv, os, hC, hF, hl⟩ := h.at_
  exact set_no hC o hf hno
theorem lv_hide (h : Lv w0 K w g s L) (l : List Rg) (v : Value) (hs : SlR w v l) (hll : l.length ≤ 1073741824) :
    Calls Try.prog 9 #[.pointer (some ⟨g, 0, none⟩), v] w fun e w' => e = .returned (.tuple #[]) ∧ ∃ out, Form (tns out) (turnOf (tns l)) ∧ Lv w0 K w' g { s with hid := out } L ∧ Kept K w w' := by
  obtain ⟨F, h⟩ := h
  refine (hide_any h.at_ l v hs hll).mono ?_
  rintro e w' ⟨rfl, out, hF, hp⟩
  exact ⟨rfl, out, hF, lvF_post h hp (h.has.hide out) (h.ord.hide out) h.chain h.apart (h.cnt.hide out) h.len⟩
theorem lv_is (h : Lv w0 K w g s L) {c k : Int} (hc : U64 c) (hk : U64 k) :
    Calls Try.prog 11 #[.pointer (some ⟨g, 0, none⟩), idV c k] w fun e w' => e = .returned (.bool (isS s c k)) ∧ Touch (fun _ => False) w w' := by
  obtain ⟨F, h⟩ := h
  exact is_any h.at_ hc hk
theorem lv_get (h : Lv w0 K w g s L) {c k : Int} (hc : U64 c) (hk : U64 k) (ky : ByteArray) (hky : ky.size ≤ 281474976710656) :
    Calls Try.prog 18 #[.pointer (some ⟨g, 0, none⟩), idV c k, .string ky] w fun e w' => e = .returned (.tuple #[(getS s c k ky).1.val, .bool (getS s c k ky).2]) ∧ Touch (fun _ => False) w w' := by
  obtain ⟨F, h⟩ := h
  exact get_any h.at_ hc hk ky (by unfold maxLen; omega)
theorem lv_find (h : Lv w0 K w g s L) (v : Value) (ks : List Key) (hv : StrsAt w v ks) (hks : ∀ k ∈ ks, k.length ≤ 281474976710656) (hkl : ks.length ≤ 1000000) :
    Calls Try.prog 16 #[.pointer (some ⟨g, 0, none⟩), v] w fun e w' => e = .returned (.tuple #[idV (findS s 0 0 ks).1 (findS s 0 0 ks).2.1, .bool (findS s 0 0 ks).2.2]) ∧ Touch (fun _ => False) w w' := by
  obtain ⟨F, h⟩ := h
  exact find_any h.at_ (fitS_of h.has) v ks hv hks hkl
theorem Lv.deep (h : Lv w0 K w g s L) : Deep s (L.length + 1) 0 0 := by
  obtain ⟨F, h⟩ := h
  have hc : Cnt 100000 s := ⟨by have := h.cnt.told; have := h.len; omega, by have := h.cnt.keys; have := h.len; omega, fun p hp => by have := h.cnt.ranks p hp; have := h.len; omega, fun p hp q hq => by have := h.cnt.sets p hp q hq; have := h.len; omega⟩
  exact deep_of h.has h.chain h.apart hc (L.length + 1) 0 0 u64_zero u64_zero (.inl ⟨rfl, rfl, Nat.le_refl _⟩) (by omega)
theorem lv_view (h : Lv w0 K w g s L) :
    Calls Try.prog 13 #[.pointer (some ⟨g, 0, none⟩)] w fun e w' => ∃ v, e = .returned v ∧ EtAt w' (fun q => w.heap.size ≤ q) (L.length + 1) v (viewE s (L.length + 1) 0 0) ∧ Touch (fun _ => False) w w' := by
  have hd := h.deep
  obtain ⟨F, h⟩ := h
  exact view_any h.at_ (L.length + 1) hd
theorem Lv.hasL (h : Lv w0 K w g s L) : Has s L := by obtain ⟨F, h⟩ := h; exact h.has
theorem Lv.touch0 (h : Lv w0 K w g s L) : Touch (fun _ => False) w0 w := by obtain ⟨F, h⟩ := h; exact h.touch
end
end Go.Proofs.Ytegldlfbmaapiaa

/- quirelaw12.known. -/
namespace Go.Proofs.Ytegldlfbmaapiaa
open Go.RowKit Go.Maps
set_option linter.unusedVariables false
set_option linter.unusedSimpArgs false
set_option maxRecDepth 100000

def oneV : V := ⟨2, 1, 0, ⟨#[]⟩⟩
def nulV : V := ⟨0, 0, 0, ⟨#[]⟩⟩
def mapV : V := ⟨5, 0, 0, ⟨#[]⟩⟩
abbrev kK : ByteArray := ⟨#[107]⟩
abbrev kM : ByteArray := ⟨#[109]⟩
abbrev kX : ByteArray := ⟨#[120]⟩
def ko1 : O := setO 1 2 0 0 kK oneV
def ko2 : O := setO 2 3 0 0 kK nulV
def ko2b : O := setO 2 3 0 0 kK oneV
def ko3 : O := setO 3 1 1 1 kX oneV
def ko4 : O := setO 4 1 0 0 kM mapV
def ko5 : O := setO 5 1 1 4 kX oneV
theorem setO_fits {ck st pc pk : Int} {ky : ByteArray} {v : V} (h1 : 0 ≤ ck ∧ ck < 18446744073709551616) (h2 : 0 ≤ st ∧ st < 18446744073709551616) (h3 : 0 ≤ pc ∧ pc < 18446744073709551616) (h4 : 0 ≤ pk ∧ pk < 18446744073709551616) (hk : -9223372036854775808 ≤ v.k ∧ v.k < 9223372036854775808) (hn : -9223372036854775808 ≤ v.n ∧ v.n < 9223372036854775808) (hf : v.f < 18446744073709551616) : (setO ck st pc pk ky v).fits :=
  have z : (0 : Int) ≤ 0 ∧ (0 : Int) < 18446744073709551616 := by decide
  ⟨(show (0 : Int) ≤ 1 ∧ (1 : Int) < 18446744073709551616 from by decide), h1, (show (-9223372036854775808 : Int) ≤ 4 ∧ (4 : Int) < 9223372036854775808 from by decide), h2, z, z, z, z, h3, h4, z, z, z, z, hk, hn, hf⟩
theorem f1 : ko1.fits := setO_fits (by decide) (by decide) (by decide) (by decide) (by decide) (by decide) (by decide)
theorem f2 : ko2.fits := setO_fits (by decide) (by decide) (by decide) (by decide) (by decide) (by decide) (by decide)
theorem f2b : ko2b.fits := setO_fits (by decide) (by decide) (by decide) (by decide) (by decide) (by decide) (by decide)
theorem f3 : ko3.fits := setO_fits (by decide) (by decide) (by decide) (by decide) (by decide) (by decide) (by decide)
theorem f4 : ko4.fits := setO_fits (by decide) (by decide) (by decide) (by decide) (by decide) (by decide) (by decide)
theorem f5 : ko5.fits := setO_fits (by decide) (by decide) (by decide) (by decide) (by decide) (by decide) (by decide)
section
variable {s : MS}
theorem k_ok1 : okS newS ko1 = true := ok_of has_new f1 rfl (by decide) (by decide) (.inl ⟨rfl, rfl⟩) (fun x hx => by cases hx)
theorem k_ok2 (h : Has s [ko1]) : okS s ko2 = true := ok_of h f2 rfl (by decide) (by decide) (.inl ⟨rfl, rfl⟩) (fun x hx => by
  rw [List.mem_singleton] at hx; subst hx; decide)
theorem k_no2 (h : Has s [ko1, ko2]) : okS s ko2b = false := not_ok_told h f2b ⟨ko2, by simp, rfl, rfl⟩
theorem k_no3 (h : Has s [ko1, ko2]) : okS s ko3 = false := not_ok_par h f3 (by
  rintro (e | ⟨x, hx, e, _⟩)
  · exact absurd e (by decide)
  · simp only [List.mem_cons, List.not_mem_nil, or_false] at hx
    rcases hx with rfl | rfl
    · exact absurd e (by decide)
    · exact absurd e (by decide))
theorem k_ok4 (h : Has s [ko1, ko2]) : okS s ko4 = true := ok_of h f4 rfl (by decide) (by decide) (.inl ⟨rfl, rfl⟩) (fun x hx => by
  simp only [List.mem_cons, List.not_mem_nil, or_false] at hx
  rcases hx with rfl | rfl
  · decide
  · decide)
theorem k_ok5 (h : Has s [ko1, ko2, ko4]) : okS s ko5 = true := ok_of h f5 rfl (by decide) (by decide) (.inr ⟨ko4, by simp, by decide, rfl, rfl⟩) (fun x hx => by
  simp only [List.mem_cons, List.not_mem_nil, or_false] at hx
  rcases hx with rfl | rfl | rfl
  · decide
  · decide
  · decide)
theorem k_keys2 (h : Has s [ko1, ko2]) : keysS s 0 0 = [[107]] := keys_eq h u64_zero u64_zero (List.pairwise_singleton _ _) fun ky => by
  constructor
  · intro e; rw [List.mem_singleton] at e; subst e; exact ⟨ko1, by simp, rfl, rfl, rfl⟩
  · rintro ⟨x, hx, _, _, e⟩
    simp only [List.mem_cons, List.not_mem_nil, or_false] at hx
    rcases hx with rfl | rfl <;> (rw [List.mem_singleton]; exact e.symm)
theorem k_keys5 (h : Has s [ko1, ko2, ko4, ko5]) : keysS s 0 0 = [[107], [109]] := keys_eq h u64_zero u64_zero (by decide) fun ky => by
  constructor
  · intro e
    simp only [List.mem_cons, List.not_mem_nil, or_false] at e
    rcases e with rfl | rfl
    · exact ⟨ko1, by simp, rfl, rfl, rfl⟩
    · exact ⟨ko4, by simp, rfl, rfl, rfl⟩
  · rintro ⟨x, hx, e1, e2, e⟩
    simp only [List.mem_cons, List.not_mem_nil, or_false] at hx ⊢
    rcases hx with rfl | rfl | rfl | rfl
    · exact .inl e.symm
    · exact .inl e.symm
    · exact .inr e.symm
    · exact absurd e1 (by decide)
theorem k_keys5x (h : Has s [ko1, ko2, ko4, ko5]) : keysS s 1 4 = [[120]] := keys_eq h (by unfold U64; decide) (by unfold U64; decide) (List.pairwise_singleton _ _) fun ky => by
  constructor
  · intro e; rw [List.mem_singleton] at e; subst e; exact ⟨ko5, by simp, rfl, rfl, rfl⟩
  · rintro ⟨x, hx, e1, e2, e⟩
    simp only [List.mem_cons, List.not_mem_nil, or_false] at hx
    rw [List.mem_singleton]
    rcases hx with rfl | rfl | rfl | rfl
    · exact absurd e1 (by decide)
    · exact absurd e1 (by decide)
    · exact absurd e1 (by decide)
    · exact e.symm
theorem k_get2 (h : Has s [ko1, ko2]) (hh : s.hid = []) : getS s 0 0 kK = (zeroO, false) := by
  have hs : ∀ c k, shS s c k = true := fun c k => by unfold shS; rw [hh]; rfl
  have := get_eq h u64_zero u64_zero (ky := kK) (b := ko2) (by simp) ⟨rfl, rfl, rfl, hs _ _⟩ (fun x hx _ => by
    simp only [List.mem_cons, List.not_mem_nil, or_false] at hx
    rcases hx with rfl | rfl
    · exact .inr (by decide)
    · exact .inl rfl)
  rw [if_neg (by decide)] at this
  exact this
theorem k_get3 (h : Has s [ko1, ko2]) (hh : ∀ c k, shS s c k = !hasB [⟨1, 2, 3⟩] c k) : getS s 0 0 kK = (cleanO ko1, true) := by
  have := get_eq h u64_zero u64_zero (ky := kK) (b := ko1) (by simp) ⟨rfl, rfl, rfl, by rw [hh]; decide⟩ (fun x hx ha => by
    simp only [List.mem_cons, List.not_mem_nil, or_false] at hx
    rcases hx with rfl | rfl
    · exact .inl rfl
    · have := ha.2.2.2
      rw [hh] at this
      exact absurd this (by decide))
  rw [if_pos (by decide)] at this
  exact this
theorem k_get5k (h : Has s [ko1, ko2, ko4, ko5]) (hh : ∀ c k, shS s c k = !hasB [⟨1, 2, 3⟩] c k) : getS s 0 0 kK = (cleanO ko1, true) := by
  have := get_eq h u64_zero u64_zero (ky := kK) (b := ko1) (by simp) ⟨rfl, rfl, rfl, by rw [hh]; decide⟩ (fun x hx ha => by
    simp only [List.mem_cons, List.not_mem_nil, or_false] at hx
    rcases hx with rfl | rfl | rfl | rfl
    · exact .inl rfl
    · have := ha.2.2.2
      rw [hh] at this
      exact absurd this (by decide)
    · exact absurd ha.2.2.1 (by decide)
    · exact absurd ha.1 (by decide))
  rw [if_pos (by decide)] at this
  exact this
theorem k_get5m (h : Has s [ko1, ko2, ko4, ko5]) (hh : ∀ c k, shS s c k = !hasB [⟨1, 2, 3⟩] c k) : getS s 0 0 kM = (cleanO ko4, true) := by
  have := get_eq h u64_zero u64_zero (ky := kM) (b := ko4) (by simp) ⟨rfl, rfl, rfl, by rw [hh]; decide⟩ (fun x hx ha => by
    simp only [List.mem_cons, List.not_mem_nil, or_false] at hx
    rcases hx with rfl | rfl | rfl | rfl
    · exact absurd ha.2.2.1 (by decide)
    · exact absurd ha.2.2.1 (by decide)
    · exact .inl rfl
    · exact absurd ha.1 (by decide))
  rw [if_pos (by decide)] at this
  exact this
theorem k_get5x (h : Has s [ko1, ko2, ko4, ko5]) (hh : ∀ c k, shS s c k = !hasB [⟨1, 2, 3⟩] c k) : getS s 1 4 kX = (cleanO ko5, true) := by
  have := get_eq h (c := 1) (k := 4) (by unfold U64; decide) (by unfold U64; decide) (ky := kX) (b := ko5) (by simp) ⟨rfl, rfl, rfl, by rw [hh]; decide⟩ (fun x hx ha => by
    simp only [List.mem_cons, List.not_mem_nil, or_false] at hx
    rcases hx with rfl | rfl | rfl | rfl
    · exact absurd ha.1 (by decide)
    · exact absurd ha.1 (by decide)
    · exact absurd ha.1 (by decide)
    · exact .inl rfl)
  rw [if_pos (by decide)] at this
  exact this
theorem k_view2 (h : Has s [ko1, ko2]) (hh : s.hid = []) : viewE s 3 0 0 = [] := by
  rw [viewE_succ, k_keys2 h]
  simp only [List.filterMap_cons, List.filterMap_nil]
  rw [show strK [107] = kK from rfl, k_get2 h hh]
  rfl
theorem k_view3 (h : Has s [ko1, ko2]) (hh : ∀ c k, shS s c k = !hasB [⟨1, 2, 3⟩] c k) : viewE s 3 0 0 = [.mk kK oneV []] := by
  rw [viewE_succ, k_keys2 h]
  simp only [List.filterMap_cons, List.filterMap_nil]
  rw [show strK [107] = kK from rfl, k_get3 h hh]
  rfl
theorem k_view5 (h : Has s [ko1, ko2, ko4, ko5]) (hh : ∀ c k, shS s c k = !hasB [⟨1, 2, 3⟩] c k) : viewE s 5 0 0 = [.mk kK oneV [], .mk kM mapV [.mk kX oneV []]] := by
  rw [viewE_succ, k_keys5 h]
  simp only [List.filterMap_cons, List.filterMap_nil]
  rw [show strK [107] = kK from rfl, show strK [109] = kM from rfl, k_get5k h hh, k_get5m h hh]
  have e : viewE s 4 1 4 = [.mk kX oneV []] := by
    rw [viewE_succ, k_keys5x h]
    simp only [List.filterMap_cons, List.filterMap_nil]
    rw [show strK [120] = kX from rfl, k_get5x h hh]
    rfl
  have e2 : entE (viewE s 4) (cleanO ko4, true) [109] = some (.mk kM mapV (viewE s 4 1 4)) := rfl
  have e1 : entE (viewE s 4) (cleanO ko1, true) [107] = some (.mk kK oneV []) := rfl
  rw [e1, e2, e]
theorem k_find (h : Has s [ko1, ko2, ko4, ko5]) (hh : ∀ c k, shS s c k = !hasB [⟨1, 2, 3⟩] c k) : findS s 0 0 [[109]] = (1, 4, true) := by
  unfold findS
  rw [show strK [109] = kM from rfl, k_get5m h hh]
  rfl
end
end Go.Proofs.Ytegldlfbmaapiaa
