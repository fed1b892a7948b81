/- Package maps: two Maps side by side, one after the other changed. -/
import Derived.Test.YtodpdcflbnomgaaGreatPart25
import Derived.Test.YtodpdcflbnomgaaGreatPart20
import Derived.Test.YtodpdcflbnomgaaGreatPlI2
import Derived.Test.YtodpdcflbnomgaaGreatPlB
import Derived.Test.YtodpdcflbnomgaaGreatPlF
import Derived.Test.YtodpdcflbnomgaaGreatPlE
import Derived.Test.YtodpdcflbnomgaaGreatPart13
import Derived.Test.YtodpdcflbnomgaaGreatKnown12b
namespace Go.Proofs.YtodpdcflbnomgaaGreat
open Go.RowKit Go.Maps
set_option linter.unusedVariables false
set_option linter.unusedSimpArgs false
set_option maxRecDepth 100000

section
variable {w0 w : World} {K : Nat → Prop} {g : Nat} {s : MS} {L : List O}
theorem lv_set2 (h : Lv w0 K w g s L) (o : O) (hf : o.fits) (hky : o.ky.size ≤ 281474976710656) (hl : L.length < 90000) (hok : okS s o = true) :
    Calls Tryz.prog 15 #[.pointer (some ⟨g, 0, none⟩), o.val] w fun e w' => e = .returned (.bool true) ∧ Lv w0 K w' g (setS s o) (L ++ [o]) ∧ Kept K w w' ∧ w.heap.size ≤ w'.heap.size := by
  obtain ⟨F, h⟩ := h
  refine (set_any h.at_ (h.cnt.small (by omega)) o hf hky).mono ?_
  rintro e w' ⟨rfl, hp⟩
  obtain ⟨h1, h2, h3, h4, h5⟩ := ok_parts hok
  have hpar := (h.has.maps _ _ hf.upc hf.upk).1 h4
  have hn : ∀ x ∈ L, ¬ (x.c = o.c ∧ x.k = o.k) := fun x hx e => by
    have := (h.has.told _ _ hf.uc hf.uk).2 ⟨x, hx, e⟩
    rw [h5] at this; cases this
  have hs : w.heap.size ≤ w'.heap.size := by obtain ⟨_, _, t, _⟩ := hp; exact t.size
  have hq := lvF_post h hp (h.has.set h.ord hf hky hok) (h.ord.set o) (h.chain.snoc hpar) (h.apart.snoc hn) (by have := h.cnt.set o; simpa using this) (by simp; omega)
  exact ⟨by rw [hok], hq.1, hq.2, hs⟩
theorem lv_hide2 (h : Lv w0 K w g s L) (l : List Rg) (v : Value) (hs : SlR w v l) (hll : l.length ≤ 1073741824) :
    Calls Tryz.prog 7 #[.pointer (some ⟨g, 0, none⟩), v] w fun e w' => e = .returned (.tuple #[]) ∧ ∃ out, (∀ c k, hasB out c k = hasB l c k) ∧ Lv w0 K w' g { s with hid := out } L ∧ Kept K w w' ∧ w.heap.size ≤ w'.heap.size := by
  obtain ⟨F, h⟩ := h
  refine (hide_any h.at_ l v hs hll).mono ?_
  rintro e w' ⟨rfl, out, hF, hp⟩
  have hsz : w.heap.size ≤ w'.heap.size := by obtain ⟨_, _, t, _⟩ := hp; exact t.size
  have hq := lvF_post h hp (h.has.hide out) (h.ord.hide out) h.chain h.apart (h.cnt.hide out) h.len
  exact ⟨rfl, out, fun c k => hasB_clean hF c k, hq.1, hq.2, hsz⟩
/-- The other's turn. -/
theorem Lv.swap {wS wA : World} {KA KB : Nat → Prop} {ga gb : Nat} {sA sB : MS} {LA LB : List O} (hb : Lv w0 KB wS gb sB LB) (ha : Lv w0 KA wA ga sA LA) (hk : Kept KA wS wA) (hsz : wS.heap.size ≤ wA.heap.size) (hin : ∀ k, w0.heap.size ≤ k → k < wS.heap.size → ¬ KB k → KA k) :
    Lv w0 (fun k => w0.heap.size ≤ k ∧ k < wA.heap.size ∧ ¬ KA k) wA gb sB LB := by
  obtain ⟨FA, ha⟩ := ha
  obtain ⟨F, h⟩ := hb
  have t1 := h.touch
  have t2 := ha.touch
  have t : Touch (fun k => ¬ KA k) wS wA := ⟨t2.os.trans t1.os.symm, t2.tape.trans t1.tape.symm, t2.output.trans t1.output.symm, hsz, fun k _ hn => hk k (Classical.not_not.1 hn)⟩
  have hF : ∀ k, F k → KA k := fun k hk => hin k (h.own k hk).1 (h.at_.lt hk) (h.own k hk).2
  exact ⟨F, h.at_.touch t fun k hk hn => hn (hF k hk), fun k hk => ⟨(h.own k hk).1, fun q => q.2.2 (hF k hk)⟩, fun k q => q.2.1, t2, h.has, h.ord, h.chain, h.apart, h.cnt, h.len⟩
end
end Go.Proofs.YtodpdcflbnomgaaGreat

/- Package maps beside the document's Maps: both in memory. -/
namespace Go.Proofs.YtodpdcflbnomgaaGreat
open Go.RowKit Go.Maps
set_option linter.unusedVariables false
set_option linter.unusedSimpArgs false
set_option maxRecDepth 100000

theorem SlP.touchK {S : Nat → Prop} {w W : World} {v : Value} {l : List O} (h : SlP w v l) (t : Touch S w W) (hS : l ≠ [] → ∀ k, k < w.heap.size → v.ownBlock = some k → ¬ S k) : SlP W v l := by
  by_cases hl : l = []
  · obtain ⟨ao, cap, e, h1, h2, h3, -⟩ := h
    exact ⟨ao, cap, e, h1, h2, h3, .inl hl⟩
  have hS := hS hl
  obtain ⟨ao, cap, e, h1, h2, h3, h4⟩ := h
  refine ⟨ao, cap, e, h1, h2, h3, ?_⟩
  rcases h4 with h4 | ⟨b, o, e2, h5⟩
  · exact .inl h4
  · refine .inr ⟨b, o, e2, fun j u hu => ?_⟩
    have h0 := h5 j u hu
    have hlt := World.block_lt_of_cell? _ _ h0
    rw [World.cell?_of_block (t.block b hlt (hS b hlt (by rw [e, e2]; rfl)))]; exact h0
theorem SlR.touchK {S : Nat → Prop} {w W : World} {v : Value} {l : List Rg} (h : SlR w v l) (t : Touch S w W) (hS : l ≠ [] → ∀ k, k < w.heap.size → v.ownBlock = some k → ¬ S k) : SlR W v l := by
  by_cases hl : l = []
  · obtain ⟨ao, cap, e, h1, h2, h3, -⟩ := h
    exact ⟨ao, cap, e, h1, h2, h3, .inl hl⟩
  have hS := hS hl
  obtain ⟨ao, cap, e, h1, h2, h3, h4⟩ := h
  refine ⟨ao, cap, e, h1, h2, h3, ?_⟩
  rcases h4 with h4 | ⟨b, o, e2, h5⟩
  · exact .inl h4
  · refine .inr ⟨b, o, e2, fun j u hu => ?_⟩
    have h0 := h5 j u hu
    have hlt := World.block_lt_of_cell? _ _ h0
    rw [World.cell?_of_block (t.block b hlt (hS b hlt (by rw [e, e2]; rfl)))]; exact h0
theorem SlP.own_lt {w : World} {v : Value} {l : List O} (h : SlP w v l) (hl : l ≠ []) {k : Nat} (e : v.ownBlock = some k) : k < w.heap.size := by
  obtain ⟨b, o, cap, rfl, -, -, hr⟩ := h.row hl
  simp only [Value.ownBlock, Option.some.injEq] at e
  subst e
  exact World.block_lt_of_cell? _ _ (hr 0 (List.length_pos_iff.2 hl) 0 _ rfl)
theorem SlR.own_lt {w : World} {v : Value} {l : List Rg} (h : SlR w v l) (hl : l ≠ []) {k : Nat} (e : v.ownBlock = some k) : k < w.heap.size := by
  obtain ⟨b, o, cap, rfl, -, -, hb, -⟩ := h.row hl
  simp only [Value.ownBlock, Option.some.injEq] at e
  subst e
  exact hb
/-- Both, side by side. -/
structure Bo (w0 w : World) (K : Nat → Prop) (g b : Nat) (lv hv : Value) (s : MS) (L : List O) (H : List Rg) : Prop where
  m : Lv w0 K w g s L
  r : RfC w b lv hv L H
  b0 : w0.heap.size ≤ b
  bK : K b
  lK : L ≠ [] → ∀ k, lv.ownBlock = some k → w0.heap.size ≤ k → K k
  hK : H ≠ [] → ∀ k, hv.ownBlock = some k → w0.heap.size ≤ k → K k
section
variable {w0 w w' : World} {K : Nat → Prop} {g b : Nat} {lv hv : Value} {s : MS} {L : List O} {H : List Rg}
theorem Lv.oldK (h : Lv w0 K w g s L) : ∀ k, K k → k < w.heap.size := by obtain ⟨F, h⟩ := h; exact h.old
/-- The document's, whatever is done to what is not kept and was made since. -/
theorem Bo.far {S : Nat → Prop} (h : Bo w0 w K g b lv hv s L H) (t : Touch S w w') (hS : ∀ k, k < w.heap.size → S k → w0.heap.size ≤ k ∧ ¬ K k) : RfC w' b lv hv L H := by
  have hb := lt_of_heap h.r.cells
  refine ⟨(t.block b hb fun e => (hS b hb e).2 h.bK).trans h.r.cells, h.r.l.touchK t fun hl k hk e q => ?_, h.r.h.touchK t fun hl k hk e q => ?_⟩
  · exact (hS k hk q).2 (h.lK hl k e (hS k hk q).1)
  · exact (hS k hk q).2 (h.hK hl k e (hS k hk q).1)
theorem touch_kept {KA : Nat → Prop} {ga gb : Nat} {sa sb : MS} {La Lb : List O} (h : Lv w0 K w ga sa La) (h' : Lv w0 KA w' gb sb Lb) (hk : Kept K w w') (hsz : w.heap.size ≤ w'.heap.size) : Touch (fun k => w0.heap.size ≤ k ∧ ¬ K k) w w' := by
  have t1 := h.touch0
  have t2 := h'.touch0
  refine ⟨t2.os.trans t1.os.symm, t2.tape.trans t1.tape.symm, t2.output.trans t1.output.symm, hsz, fun k hlt hn => ?_⟩
  by_cases h0 : w0.heap.size ≤ k
  · by_cases hK : K k
    · exact hk k hK
    · exact absurd ⟨h0, hK⟩ hn
  · exact (t2.block k (by omega) id).trans (t1.block k (by omega) id).symm
theorem Bo.on (h : Bo w0 w K g b lv hv s L H) (t : Touch (fun _ => False) w w') : Bo w0 w' (fun k => K k ∨ (w.heap.size ≤ k ∧ k < w'.heap.size)) g b lv hv s L H := by
  exact ⟨h.m.boxes t, h.far t fun _ _ => False.elim, h.b0, .inl h.bK, fun hl k e h0 => .inl (h.lK hl k e h0), fun hl k e h0 => .inl (h.hK hl k e h0)⟩
/-- The program's Maps was changed. -/
theorem Bo.step {g' : Nat} {s' : MS} {L' : List O} (h : Bo w0 w K g b lv hv s L H) (h' : Lv w0 K w' g' s' L') (hk : Kept K w w') (hsz : w.heap.size ≤ w'.heap.size) : RfC w' b lv hv L H := h.far (touch_kept h.m h' hk hsz) fun k _ e => e
/-- The document's Maps was changed, or is another one. -/
theorem Lv.bo {b' : Nat} {lv' hv' : Value} {L' : List O} {H' : List Rg} (h : Lv w0 K w g s L') (t : Touch (fun k => k = b) w w') (hb : K b) (hb0 : w0.heap.size ≤ b) (r : RfC w' b' lv' hv' L' H') (h0 : w0.heap.size ≤ b') (h1 : K b' ∨ w.heap.size ≤ b')
    (hl : L' ≠ [] → ∀ k, lv'.ownBlock = some k → w0.heap.size ≤ k → K k ∨ w.heap.size ≤ k) (hh : H' ≠ [] → ∀ k, hv'.ownBlock = some k → w0.heap.size ≤ k → K k ∨ w.heap.size ≤ k) :
    Bo w0 w' (fun k => K k ∨ (w.heap.size ≤ k ∧ k < w'.heap.size)) g b' lv' hv' s L' H' := by
  have hb' := lt_of_heap r.cells
  refine ⟨?_, r, h0, ?_, fun hn k e h0 => (hl hn k e h0).imp id fun q => ⟨q, r.l.own_lt hn e⟩, fun hn k e h0 => (hh hn k e h0).imp id fun q => ⟨q, r.h.own_lt hn e⟩⟩
  · obtain ⟨F, h⟩ := h
    refine ⟨F, h.at_.touch t fun k hf e => (h.own k hf).2 (e ▸ hb), fun k hk => ⟨(h.own k hk).1, ?_⟩, ?_, h.touch.then t fun k hk e => by omega, h.has, h.ord, h.chain, h.apart, h.cnt, h.len⟩
    · rintro (e | e)
      · exact (h.own k hk).2 e
      · have := h.at_.lt hk; omega
    · rintro k (e | e)
      · exact Nat.lt_of_lt_of_le (h.old k e) t.size
      · exact e.2
  · rcases h1 with h1 | h1
    · exact .inl h1
    · exact .inr ⟨h1, hb'⟩
/-- Copy; then the old one is changed, and the copy is not. -/
theorem lv_copied (h : Lv w0 K w g s L) : Calls Tryz.prog 14 #[.pointer (some ⟨g, 0, none⟩)] w fun e w' => ∃ X, e = .returned (.pointer (some ⟨X, 0, none⟩)) ∧ Touch (fun _ => False) w w' ∧
    ∀ (o : O) W, o.fits → o.ky.size ≤ 281474976710656 → Touch (fun _ => False) w' W → Calls Tryz.prog 15 #[.pointer (some ⟨g, 0, none⟩), o.val] W fun e w3 => (∃ bb, e = .returned (.bool bb)) ∧ Lv w0 K w3 X s L ∧ Kept K w w3 ∧ w.heap.size ≤ w3.heap.size := by
  obtain ⟨F, hF⟩ := h
  obtain ⟨mt, mk, hv, os, hC, hfo, hlt⟩ := hF.at_
  have hl9 := hF.len
  have hn1 : os.length ≤ 1000000 := by
    have := hF.cnt.keys
    rw [hC.eq, length_amap] at this; omega
  have hn2 : ∀ p ∈ os, p.2.es.length ≤ 1000000 := fun p hp => by
    have := hF.cnt.ranks (p.1, innL p.2) (by rw [hC.eq]; exact List.mem_map.2 ⟨p, hp, rfl⟩)
    have e : (innL p.2).length = p.2.es.length := by unfold innL; exact length_amap _ _
    simp only [e] at this; omega
  refine (copyM_any hC hn1 hn2).mono ?_
  rintro e w' ⟨X, mt', Bk, os', rfl, hC', hft, t⟩
  refine ⟨X, rfl, t, fun o W ho hky t' => ?_⟩
  have tW := t.trans t'
  have hAW : MapsAt W g F s := hF.at_.touch tW fun _ _ => id
  refine (set_any hAW (hF.cnt.small (by omega)) o ho hky).mono ?_
  rintro e w3 ⟨rfl, F3, hA3, t3, hf3⟩
  have hsz1 := t.size
  have hsz2 := t'.size
  have hsz3 := t3.size
  have hsz0 := hF.touch.size
  have hX : ∀ k, footM X mt' Bk hv os' k → ¬ (F k ∧ ¬ RgB W k) := fun k hk q => by
    rcases hft k hk with e | e
    · have := hlt k q.1; omega
    · obtain ⟨c, hc⟩ := row_ltM hC.hidR e
      exact q.2 ⟨c, (tW.block k (lt_of_heap hc) id).trans hc⟩
  have hCW : MapsC w3 X mt' Bk hv os' s := (hC'.touch t' fun _ _ => id).touch t3 hX
  refine ⟨⟨_, rfl⟩, ⟨footM X mt' Bk hv os', ⟨mt', Bk, hv, os', hCW, fun _ => id, fun k hk => hCW.foot_lt hk⟩, fun k hk => ?_, fun k hk => ?_, ?_, hF.has, hF.ord, hF.chain, hF.apart, hF.cnt, hF.len⟩, fun k hk => ?_, by omega⟩
  · rcases hft k hk with e | e
    · exact ⟨by omega, fun q => by have := hF.old k q; omega⟩
    · exact hF.own k (hfo k (.inr (.inr (.inr (.inl e)))))
  · have := hF.old k hk; omega
  · exact (hF.touch.trans tW).then t3 fun k hk q => by have := (hF.own k q.1).1; omega
  · have hko := hF.old k hk
    exact (t3.block k (by omega) fun q => (hF.own k q.1).2 hk).trans (tW.block k hko id)
end
end Go.Proofs.YtodpdcflbnomgaaGreat

/- Scripts of quirelaw12, and its light. -/
namespace Go.Proofs.YtodpdcflbnomgaaGreat
open Go.RowKit Go.Maps
set_option linter.unusedVariables false
set_option linter.unusedSimpArgs false
set_option maxRecDepth 100000

structure Sx where
  what : Int
  o : O
  rv : Value
  r : List Rg
  pc : Int
  pk : Int
  ky : ByteArray
  pv : Value
  path : List Key
abbrev Sx.vals (x : Sx) : Array Value := #[.int .i64 x.what, .int .u64 x.o.c, .int .u64 x.o.k, .int .i64 x.o.kind, .int .u64 x.o.st, .int .u64 x.o.lc, .int .u64 x.o.lk, .int .u64 x.o.rc, .int .u64 x.o.rk, .string x.o.tx, .int .i64 x.o.vk, .int .i64 x.o.vn, .float .f64 x.o.vf, .string x.o.vs, .string x.o.ky, .int .u64 x.o.pc, .int .u64 x.o.pk, .int .u64 x.o.fc, .int .u64 x.o.fk, .bool x.o.fa, .int .u64 x.o.tc, .int .u64 x.o.tk, .bool x.o.ta, x.rv, .int .u64 x.pc, .int .u64 x.pk, .string x.ky, x.pv]
structure SxOk (w : World) (x : Sx) : Prop where
  what : -9223372036854775808 ≤ x.what ∧ x.what < 9223372036854775808
  o : x.o.fits
  r : SlR w x.rv x.r
  pc : U64 x.pc
  pk : U64 x.pk
  p : StrsAt w x.pv x.path
  pl : ∀ k ∈ x.path, k.length ≤ 281474976710656
  rl : x.r.length ≤ 9223372036854775807
  ll : x.path.length ≤ 9223372036854775807
  sl : x.o.vs.size ≤ 9223372036854775807 ∧ x.o.ky.size ≤ 9223372036854775807 ∧ x.ky.size ≤ 9223372036854775807
structure LiesX (w : World) (ao : Option Addr) (l : List Sx) : Prop where
  ok : ∀ x ∈ l, SxOk w x
  cells : ∀ i (h : i < l.length), ∃ g off, ao = some ⟨g, off, none⟩ ∧ w.rangeAt g (off + i * 28) l[i].vals.toList
theorem SxOk.touch {w w' : World} {x : Sx} (h : SxOk w x) (t : Touch (fun _ => False) w w') : SxOk w' x := ⟨h.what, h.o, h.r.touch t, h.pc, h.pk, (by
  obtain ⟨ao, cap, e, hi⟩ := h.p
  exact ⟨ao, cap, e, fun i hl => by
    obtain ⟨b, o, e, hc⟩ := hi i hl
    exact ⟨b, o, e, fun W t' => hc W (t.trans t')⟩⟩), h.pl, h.rl, h.ll, h.sl⟩
structure SxLt (x : Sx) : Prop where
  vs : x.o.vs.size ≤ 200
  ky : x.o.ky.size ≤ 200
  r : x.r.length ≤ 40
  path : x.path.length ≤ 20
  key : x.ky.size ≤ 200
theorem LiesX.at_ {w : World} {ao : Option Addr} {l : List Sx} (h : LiesX w ao l) {i : Nat} (hi : i < l.length) : ∃ g off, ao = some ⟨g, off, none⟩ ∧ ∀ W, Touch (fun _ => False) w W → W.rangeAt g (off + i * 28) l[i].vals.toList := by
  obtain ⟨g, off, e, hc⟩ := h.cells i hi
  refine ⟨g, off, e, fun W t j u hu => ?_⟩
  have h0 := hc j u hu
  rw [World.cell?_of_block (t.block _ (World.block_lt_of_cell? _ _ h0) id)]; exact h0
def LtP (w : World) (l : List Sx) (e : Ending) (w' : World) : Prop := ∃ b, e = .returned (.bool b) ∧ (b = true → l.length ≤ 60 ∧ ∀ x ∈ l, SxLt x) ∧ Touch (fun _ => False) w w'
set_option maxHeartbeats 16000000 in
theorem light12_any (w : World) (ao : Option Addr) (l : List Sx) (n cap : Nat) (hn : n = l.length) (h : LiesX w ao l) (hM : n ≤ cap) (hX : cap ≤ maxLen) :
    Calls Tryz.prog 5 #[.slice ao n cap] w fun e w' => LtP w l e w' := by
  have hn1 : n ≤ 9223372036854775807 := by unfold maxLen at hX; omega
  have HL : Hid (LiesX w ao l ∧ n = l.length) := ⟨h, hn⟩
  clear h hn hX hM
  go_enter Tryz.func5, Tryz.ntmps5
  go_wp2_with fail
  go_loopg [3] n (fun gk s3 wr => ∃ (i : Nat), i + gk = n ∧ s3 = .int .i64 (i : Int) ∧ Hid (Touch (fun _ => False) w wr ∧ ∀ j (h : j < l.length), j < i → SxLt l[j]))
  case atStart => exact ⟨0, by omega, rfl, ⟨Touch.refl _ _, fun j _ hj => absurd hj (Nat.not_lt_zero j)⟩⟩
  case round =>
    obtain ⟨i, hig, rfl, HR⟩ := hrel
    have Hig : Hid (i + gk = n) := hig
    clear hig
    by_cases hil : i < n
    · have l1 : (i : Int) < (n : Int) := by omega
      have hil2 : i < l.length := by have := HL.out.2; omega
      obtain ⟨g, off, rfl, hc⟩ := HL.out.1.at_ hil2
      obtain ⟨x, hx⟩ : ∃ x, Hid (x = l[i]) := ⟨l[i], Eq.refl _⟩
      rw [← hx.out] at hc
      have hok := HL.out.1.ok _ (List.getElem_mem hil2)
      rw [← hx.out] at hok
      have hC := hc wr HR.out.1
      have b13 : wr.cell? ⟨g, off + i * 28 + 13, none⟩ = some (.string x.o.vs) := hC 13 _ rfl
      have b14 : wr.cell? ⟨g, off + i * 28 + 14, none⟩ = some (.string x.o.ky) := hC 14 _ rfl
      have b23 : wr.cell? ⟨g, off + i * 28 + 23, none⟩ = some x.rv := hC 23 _ rfl
      have b26 : wr.cell? ⟨g, off + i * 28 + 26, none⟩ = some (.string x.ky) := hC 26 _ rfl
      have b27 : wr.cell? ⟨g, off + i * 28 + 27, none⟩ = some x.pv := hC 27 _ rfl
      obtain ⟨ra, rc, hrv, -⟩ := hok.r.shape
      obtain ⟨pa, pcp, hpv, -⟩ := hok.p
      rw [hrv] at b23
      rw [hpv] at b27
      have Hok : Hid (SxOk w x) := hok
      clear hok hc hC hrv hpv
      by_cases c0 : 200 < x.o.vs.size
      · have d0 : (200 : Int) < (x.o.vs.size : Int) := by omega
        clear Hok
        go_wp2_with fail
        go_ret
        exact ⟨false, rfl, (fun q => by cases q), HR.out.1⟩
      have d0 : ¬ (200 : Int) < (x.o.vs.size : Int) := by omega
      by_cases c1 : 200 < x.o.ky.size
      · have d1 : (200 : Int) < (x.o.ky.size : Int) := by omega
        clear Hok
        go_wp2_with fail
        go_ret
        exact ⟨false, rfl, (fun q => by cases q), HR.out.1⟩
      have d1 : ¬ (200 : Int) < (x.o.ky.size : Int) := by omega
      by_cases c2 : 40 < x.r.length
      · have d2 : (40 : Int) < (x.r.length : Int) := by omega
        clear Hok
        go_wp2_with fail
        go_ret
        exact ⟨false, rfl, (fun q => by cases q), HR.out.1⟩
      have d2 : ¬ (40 : Int) < (x.r.length : Int) := by omega
      by_cases c3 : 20 < x.path.length
      · have d3 : (20 : Int) < (x.path.length : Int) := by omega
        clear Hok
        go_wp2_with fail
        go_ret
        exact ⟨false, rfl, (fun q => by cases q), HR.out.1⟩
      have d3 : ¬ (20 : Int) < (x.path.length : Int) := by omega
      by_cases c4 : 200 < x.ky.size
      · have d4 : (200 : Int) < (x.ky.size : Int) := by omega
        clear Hok
        go_wp2_with fail
        go_ret
        exact ⟨false, rfl, (fun q => by cases q), HR.out.1⟩
      have d4 : ¬ (200 : Int) < (x.ky.size : Int) := by omega
      have HLt : Hid (SxLt x) := ⟨by omega, by omega, by omega, by omega, by omega⟩
      clear Hok c0 c1 c2 c3 c4
      have wi : IntKind.i64.wrap ((i : Int) + 1) = ((i + 1 : Nat) : Int) := by rw [IntKind.wrap_i64] <;> omega
      have HR2 : Hid (Touch (fun _ => False) w wr ∧ ∀ j (h : j < l.length), j < i + 1 → SxLt l[j]) := ⟨HR.out.1, fun j h hj => by
        by_cases e : j = i
        · subst e; have := hx.out; rw [← this]; exact HLt.out
        · exact HR.out.2 j h (by omega)⟩
      clear HR HLt hx
      go_wp2_with fail
      go_roundg (n - (i + 1))
      case measure => have := Hig.out; omega
      case rel => exact ⟨i + 1, by omega, rfl, HR2⟩
    · have l1 : ¬ (i : Int) < (n : Int) := by omega
      have HR2 : Hid (Touch (fun _ => False) w wr ∧ ∀ x ∈ l, SxLt x) := ⟨HR.out.1, fun x hx => by
        obtain ⟨j, hj, rfl⟩ := List.mem_iff_getElem.1 hx
        exact HR.out.2 j hj (by have := HL.out.2; omega)⟩
      clear HR
      by_cases c6 : n ≤ 60
      · have d6 : (n : Int) ≤ 60 := by omega
        go_wp2_with fail
        go_ret
        exact ⟨true, rfl, (fun _ => ⟨by have := HL.out.2; omega, HR2.out.2⟩), HR2.out.1⟩
      · have d6 : ¬ (n : Int) ≤ 60 := by omega
        go_wp2_with fail
        go_ret
        exact ⟨false, rfl, (fun q => by cases q), HR2.out.1⟩
end Go.Proofs.YtodpdcflbnomgaaGreat
