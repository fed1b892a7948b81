/- quirelaw11.units: a sequence and the document's tree, made alike. -/
import Derived.Test.YtdnhoicfolkbnaaGreatPart35
import Derived.Deep.LoopGhost
import Derived.Test.YtdnhoicfolkbnaaGreatPart25
import Derived.Test.YtdnhoicfolkbnaaGreatPart19
import Derived.Test.YtdnhoicfolkbnaaGreatPart9
import Derived.Test.YtdnhoicfolkbnaaGreatKnown11
import Derived.Deep.MidRow
import Derived.BigRegion
import Derived.Test.YtdnhoicfolkbnaaGreatPart22
import Derived.Lib.SmallJoins
import Derived.ProofKit
import Derived.OpenShut
namespace Go.Proofs.YtdnhoicfolkbnaaGreat
open Go.RowKit
set_option linter.unusedVariables false
set_option linter.unusedSimpArgs false
set_option maxRecDepth 100000

theorem RInv.zero' : RInv .zero := Corr.new.ok.inv
/-- Both new. -/
theorem PlW.fresh {w W : World} {pa : Nat} {B : Bk} (h : Sq1 w W pa B .new) (t : Touch (fun _ => False) w W) : PlW w (W.alloc (.cells #[.slice none 0 0, .slice none 0 0, .slice none 0 0] 75 (0, 0))) pa W.heap.size .new .zero 0 :=
  ⟨⟨⟨B, h.touch ((Touch.refl _ _).alloc _)⟩, RqAt.new W, t.size, t.trans ((Touch.refl _ _).alloc _)⟩, ⟨_, Corr.new⟩, Size.new⟩
theorem PlW.touch {w W W' : World} {pa b : Nat} {S : SS} {r : RS} {n : Nat} (h : PlW w W pa b S r n) (t : Touch (fun _ => False) W W') : PlW w W' pa b S r n := ⟨h.h.touch t, h.c, h.z⟩
abbrev kV : Un := ⟨1, 1, 0, 0, 0, 0⟩
theorem kV_ok : kV.ok := by constructor <;> decide
set_option maxHeartbeats 8000000 in
theorem units_any (n : Int) (hn : 0 ≤ n ∧ n ≤ 20) (w : World) : Calls Tryz.prog 10 #[.int .i64 n] w fun e w' => ∃ pa b S r, e = .returned (.tuple #[.pointer (some ⟨pa, 0, none⟩), qP b]) ∧ PlW w w' pa b S r 100 := by
  go_enter Tryz.func10, Tryz.ntmps10
  go_wp2_with fail
  refine (Sq1.fresh w w (Touch.refl _ _)).mono ?_
  rintro e W1 ⟨pa, B, rfl, h1, -, t1⟩
  have HP0 : Hid (PlW w ((W1.alloc (.cells #[.slice none 0 0, .slice none 0 0, .slice none 0 0] 75 (0, 0))).alloc (unO kV)) pa W1.heap.size .new .zero 0 ∧ ((W1.alloc (.cells #[.slice none 0 0, .slice none 0 0, .slice none 0 0] 75 (0, 0))).alloc (unO kV)).heap[W1.heap.size + 1]? = some (unO kV)) := by
    refine ⟨(PlW.fresh h1 t1).touch ((Touch.refl _ _).alloc _), ?_⟩
    have := heap_alloc_new (W1.alloc (.cells #[.slice none 0 0, .slice none 0 0, .slice none 0 0] 75 (0, 0))) (unO kV)
    rwa [show (W1.alloc (.cells #[.slice none 0 0, .slice none 0 0, .slice none 0 0] 75 (0, 0))).heap.size = W1.heap.size + 1 from Array.size_push _] at this
  clear h1 t1
  obtain ⟨W2, hW2⟩ : ∃ W, Hid (W = (W1.alloc (.cells #[.slice none 0 0, .slice none 0 0, .slice none 0 0] 75 (0, 0))).alloc (unO kV)) := ⟨_, Eq.refl _⟩
  obtain ⟨b, hb⟩ : ∃ b, Hid (b = W1.heap.size) := ⟨_, Eq.refl _⟩
  obtain ⟨m, hm⟩ : ∃ m, Hid (m = W1.heap.size + 1) := ⟨_, Eq.refl _⟩
  rw [← hW2.out, ← hm.out, ← hb.out] at HP0
  go_wp2_with fail
  rw [← hW2.out, ← hm.out, ← hb.out]
  clear hW2 hm hb
  have HR1 : Hid (Calls Tryz.prog 31 #[.pointer (some ⟨pa, 0, none⟩), .agg #[.int .u64 1, .int .u64 1, .int .u64 0, .int .u64 0, .int .u64 0, .int .u64 0], .int .i64 n] W2 fun e w' => e = .returned (.bool ((SS.new).may kV n)) ∧ PlH w w' pa b (SS.new.run kV n) .zero ∧ KeepT W2 w') := HP0.out.1.h.run kV kV_ok n hn.2 Size.new (by omega)
  refine HR1.out.mono ?_
  rintro e W3 ⟨rfl, p3, k3⟩
  have HB3 : Hid (PlH w W3 pa b (SS.new.run kV n) .zero ∧ W3.heap[m]? = some (unO kV)) := ⟨p3, k3 _ _ _ HP0.out.2⟩
  clear p3 k3 HR1 HP0
  obtain ⟨u0, u1, u2, u3, u4, u5⟩ := unO_cells HB3.out.2
  go_wp2_with fail
  clear u0 u1 u2 u3 u4 u5
  have HR2 : Hid (Calls Tryz.prog 33 #[qP b, .agg #[.int .u64 1, .int .u64 1, .int .u64 0, .int .u64 0, .int .u64 0, .int .u64 0], .int .i64 n] W3 fun e w' => e = .returned (.bool (RS.zero.mayN kV n)) ∧ PlH w w' pa b (SS.new.run kV n) (RS.zero.runN kV n) ∧ KeepT W3 w') := HB3.out.1.runQ Corr.new.ok.inv kV kV_ok n (by omega) (by decide)
  refine HR2.out.mono ?_
  rintro e W4 ⟨rfl, p4, -⟩
  obtain ⟨-, c4, z4⟩ := Corr.new.run kV_ok n hn.2 Size.new (by omega)
  have HP4 : Hid (PlW w W4 pa b (SS.new.run kV n) (RS.zero.runN kV n) 20) := ⟨p4, c4, z4.mono (by omega)⟩
  clear p4 c4 z4 HR2 HB3
  generalize SS.new.may kV n = bb1
  generalize RS.zero.mayN kV n = bb2
  generalize SS.new.run kV n = S0 at *
  generalize RS.zero.runN kV n = r0 at *
  go_wp2_with fail
  go_loopw [7] (fun i wr => ∃ (j : Nat) (S : SS) (r : RS), i = .int .i64 (j : Int) ∧ j ≤ 25 ∧ PlW w wr pa b S r (20 + j)) (fun i _ => 30 - (intOf i).toNat)
  case atStart => exact ⟨1, S0, r0, rfl, by omega, HP4.out.h, HP4.out.c, HP4.out.z.mono (by omega)⟩
  case round =>
    obtain ⟨j, S, r, rfl, hj, hP⟩ := hrel
    by_cases hlt : (j : Int) < n
    · obtain ⟨E, hE⟩ : ∃ E, Hid (E = wr.alloc (unO ⟨2, j, 1, j, 1, (j : Int) + 1⟩)) := ⟨_, Eq.refl _⟩
      have hok : (⟨2, (j : Int), 1, (j : Int), 1, (j : Int) + 1⟩ : Un).ok := by
        constructor <;> simp only <;> omega
      have HPE : Hid (PlW w E pa b S r (20 + j) ∧ E.heap[wr.heap.size]? = some (unO ⟨2, (j : Int), 1, (j : Int), 1, (j : Int) + 1⟩)) := by rw [hE.out]; exact ⟨hP.touch ((Touch.refl _ _).alloc _), heap_alloc_new _ _⟩
      have w1 : IntKind.u64.wrap (j : Int) = (j : Int) := by rw [IntKind.wrap_u64]; omega
      have w2 : IntKind.u64.wrap ((j : Int) + 1) = (j : Int) + 1 := by rw [IntKind.wrap_u64]; omega
      have w3 : IntKind.i64.wrap ((j : Int) + 1) = (j : Int) + 1 := by rw [IntKind.wrap_i64]; omega
      have w4 : IntKind.i64.wrap ((j : Int) + 3) = (j : Int) + 3 := by rw [IntKind.wrap_i64]; omega
      have HOk : Hid ((⟨2, (j : Int), 1, (j : Int), 1, (j : Int) + 1⟩ : Un).ok ∧ j ≤ 20) := ⟨hok, by omega⟩
      clear hP hok
      obtain ⟨u0, u1, u2, u3, u4, u5⟩ := unO_cells HPE.out.2
      go_wp2_with fail
      rw [← hE.out]
      clear hE u0 u1 u2 u3 u4 u5
      generalize wr.heap.size = X at *
      refine (HPE.out.1.h.ins ⟨2, j, 1, j, 1, (j : Int) + 1⟩ HOk.out.1 HPE.out.1.z (by omega)).mono ?_
      rintro e W5 ⟨rfl, p5, k5⟩
      obtain ⟨sp, hc⟩ := HPE.out.1.c
      have hlen := HPE.out.1.len
      have HB5 : Hid (PlH w W5 pa b (S.run ⟨2, j, 1, j, 1, (j : Int) + 1⟩ 1) r ∧ W5.heap[X]? = some (unO ⟨2, (j : Int), 1, (j : Int), 1, (j : Int) + 1⟩)) := ⟨p5, k5 _ _ _ HPE.out.2⟩
      have HI : Hid (RInv r ∧ r.l.length ≤ 100) := ⟨hlen.2.1, by omega⟩
      have HC : Hid ((∃ sp', Corr (S.run ⟨2, j, 1, j, 1, (j : Int) + 1⟩ 1) (r.insert ⟨2, j, 1, j, 1, (j : Int) + 1⟩) sp') ∧ Size (S.run ⟨2, j, 1, j, 1, (j : Int) + 1⟩ 1) (20 + (j + 3))) :=
        ⟨(hc.insert HOk.out.1 HPE.out.1.z (by omega)).2, (hc.inv.run1 HOk.out.1 HPE.out.1.z (by omega)).2.mono (by omega)⟩
      clear p5 k5 hc hlen
      obtain ⟨u0, u1, u2, u3, u4, u5⟩ := unO_cells HB5.out.2
      generalize S.may ⟨2, j, 1, j, 1, (j : Int) + 1⟩ 1 = b40
      go_wp2_with fail
      clear u0 u1 u2 u3 u4 u5
      refine (HB5.out.1.insQ HI.out.1 ⟨2, j, 1, j, 1, (j : Int) + 1⟩ (by have := HI.out.2; omega)).mono ?_
      rintro e W6 ⟨rfl, p6, -⟩
      have HU : Hid (∃ (j' : Nat) (S : SS) (r : RS), (.int .i64 ((j : Int) + 3) : Value) = .int .i64 (j' : Int) ∧ j' ≤ 25 ∧ PlW w W6 pa b S r (20 + j')) := ⟨j + 3, _, _, by go_num, by have := HOk.out.2; omega, p6, HC.out.1, HC.out.2⟩
      have hm0 : Hid (30 - (j + 3) < 30 - j) := by have := HOk.out.2; rw [Hid]; omega
      clear p6 HB5 HI HC HPE HOk
      generalize r.may ⟨2, j, 1, j, 1, (j : Int) + 1⟩ = b43
      go_wp2_with fail
      go_roundw
      case rel => exact HU.out
      case measure => simp only [intOf]; have := hm0.out; omega
    · have HPl : Hid (PlW w wr pa b S r 100) := ⟨hP.h, hP.c, hP.z.mono (by omega)⟩
      clear hP
      go_wp2_with fail
      refine bodyPost_ret (v := .tuple #[.pointer (some ⟨pa, 0, none⟩), qP b]) (by simp [results, Tryz.results10, go_sem]) rfl ?_
      exact ⟨pa, b, rfl, S, r, HPl.out⟩
end Go.Proofs.YtdnhoicfolkbnaaGreat

/- Lemmas for MarksPlace. -/
namespace Go.Proofs.YtdnhoicfolkbnaaGreat
open Go.RowKit
set_option linter.unusedVariables false
set_option linter.unusedSimpArgs false
set_option maxRecDepth 100000

structure MpB (w W : World) (ac ak : Int) (af : Bool) (bc bk : Int) (bf : Bool) (o : O) : Prop where
  t : Touch (fun _ => False) w W
  a : W.heap[w.heap.size]? = some (anO ac ak af)
  b : W.heap[w.heap.size + 1]? = some (anO bc bk bf)
  o : W.heap[w.heap.size + 1 + 1]? = some (opO o)
theorem MpB.keep {w W W' : World} {ac ak : Int} {af : Bool} {bc bk : Int} {bf : Bool} {o : O} (h : MpB w W ac ak af bc bk bf o) (t : Touch (fun _ => False) W W') : MpB w W' ac ak af bc bk bf o := ⟨h.t.trans t, heap_keep t h.a, heap_keep t h.b, heap_keep t h.o⟩
theorem SeqRq.of {W : World} {b : Nat} {S : SS} {r : RS} {sp : Nat → Sp} (q : RqAt W b r) (c : Corr S r sp) (hl : r.l.length ≤ 1000) (hu : S.units.length ≤ 1000) : SeqRq W b S := by
  have e1 : S.units.length = r.order.length := by rw [c.units, List.length_map]
  refine ⟨fun W' t => ?_, fun W' c' k' t h1 h2 h3 => ?_, by omega, fun c' k' h1 h2 => find_bounds c.inv h1 h2⟩
  · refine (qlen_any (q.keep t)).mono ?_
    rintro e w' ⟨rfl, rfl⟩
    exact ⟨by rw [e1], Touch.refl _ _⟩
  · refine (qfindP_any (q.keep t) c' k' (by omega) (by omega)).mono ?_
    rintro e w' ⟨rfl, t'⟩
    exact ⟨by rw [c.find h1 h2], t'⟩
/-- Anchors are laid in an old operation: what was made since is read as it was. -/
theorem PlW.rdX {w W W' : World} {pa b X : Nat} {S : SS} {r : RS} {o : O} (h : PlW w W pa b S r 100) (hX : X < w.heap.size) (ho : W.heap[X]? = some (opO o)) (t : Touch (fun k => k = X) W W') : SeqRd W' pa S ∧ SeqRq W' b S := by
  obtain ⟨A, a⟩ := h.h.s
  obtain ⟨sp, c⟩ := h.c
  have hl := h.len
  have hq : RqAt W' b r := h.h.q.keepS t fun k cs ty fr hk e => by
    subst e
    rw [ho] at hk
    simp at hk
    rw [← hk.2.1]; decide
  exact ⟨Sq1.rd (w := w) (A := A) ⟨a.mem.keep t fun k hk e => by have := a.new k hk; omega, a.at_, a.new, a.inv⟩ (by omega), SeqRq.of hq c (by omega) (by omega)⟩
theorem opO_ends {W : World} {X : Nat} {o : O} (h : W.heap[X]? = some (opO o)) (ac ak : Int) (af : Bool) (bc bk : Int) (bf : Bool) :
    ((((((W.setCell ⟨X, 16, none⟩ (.int .u64 ac)).setCell ⟨X, 17, none⟩ (.int .u64 ak)).setCell ⟨X, 18, none⟩ (.bool af)).setCell ⟨X, 19, none⟩ (.int .u64 bc)).setCell ⟨X, 20, none⟩ (.int .u64 bk)).setCell ⟨X, 21, none⟩ (.bool bf)).heap[X]? = some (opO { o with fc := ac, fk := ak, fa := af, tc := bc, tk := bk, ta := bf }) := by
  refine (heap_setCell_same _ _ _ _ (heap_setCell_same _ _ _ _ (heap_setCell_same _ _ _ _ (heap_setCell_same _ _ _ _ (heap_setCell_same _ _ _ _ (heap_setCell_same _ _ _ _ h)))))).trans ?_
  kernel_rfl
theorem drew_heap (A : World) : A.drew.heap = A.heap := rfl
/-- Both at once: an operation with other anchors. -/
theorem ends_X {W W' : World} {X : Nat} {o : O} (h : W.heap[X]? = some (opO o)) (ac ak : Int) (af : Bool) (bc bk : Int) (bf : Bool) (hW : W' = ((((((W.setCell ⟨X, 16, none⟩ (.int .u64 ac)).setCell ⟨X, 17, none⟩ (.int .u64 ak)).setCell ⟨X, 18, none⟩ (.bool af)).setCell ⟨X, 19, none⟩ (.int .u64 bc)).setCell ⟨X, 20, none⟩ (.int .u64 bk)).setCell ⟨X, 21, none⟩ (.bool bf)).drew) :
    Touch (fun k => k = X) W W' ∧ W'.heap[X]? = some (opO { o with fc := ac, fk := ak, fa := af, tc := bc, tk := bk, ta := bf }) := by
  subst hW
  refine ⟨?_, ?_⟩
  · exact ((((((((Touch.refl (fun k => k = X) W).setCell ⟨X, 16, none⟩ (.int .u64 ac) fun _ => rfl).setCell ⟨X, 17, none⟩ (.int .u64 ak) fun _ => rfl).setCell ⟨X, 18, none⟩ (.bool af) fun _ => rfl).setCell ⟨X, 19, none⟩ (.int .u64 bc) fun _ => rfl).setCell ⟨X, 20, none⟩ (.int .u64 bk) fun _ => rfl).setCell ⟨X, 21, none⟩ (.bool bf) fun _ => rfl)).drew
  · rw [drew_heap]
    exact opO_ends h ac ak af bc bk bf
end Go.Proofs.YtdnhoicfolkbnaaGreat

/- Package seq: a sequence and the units that it is filled with; quirehelp.Place. -/
namespace Go.Proofs.YtdnhoicfolkbnaaGreat
open Go.RowKit
set_option linter.unusedVariables false
set_option linter.unusedSimpArgs false
set_option maxRecDepth 100000

/-- A sequence at p, and units. -/
def OneS (w W : World) (p : Nat) (S : SS) (v : Value) (us : List Un) : Prop := ∃ A, Sq1 w W p A S ∧ NewV w W v us
theorem OneS.touch {w W W' : World} {p : Nat} {S : SS} {v : Value} {us : List Un} (h : OneS w W p S v us) (t : Touch (fun _ => False) W W') : OneS w W' p S v us := by
  obtain ⟨A, a, d⟩ := h
  exact ⟨A, a.touch t, d.on t⟩
theorem OneS.touch0 {w W : World} {p : Nat} {S : SS} {v : Value} {us : List Un} (h : OneS w W p S v us) : Touch (fun _ => False) w W := by
  obtain ⟨A, a, d⟩ := h
  exact d.touch
theorem OneS.ins {w W : World} {p : Nat} {S : SS} {v : Value} {us : List Un} (h : OneS w W p S v us) (u : Un) (hu : u.ok) {n : Nat} (hz : Size S n) (hn : n ≤ 1000000) :
    Calls Tryz.prog 32 #[.pointer (some ⟨p, 0, none⟩), .agg #[.int .u64 u.c, .int .u64 u.k, .int .u64 u.lc, .int .u64 u.lk, .int .u64 u.rc, .int .u64 u.rk]] W fun e w' => e = .returned (.bool (S.may u 1)) ∧ OneS w w' p (S.run u 1) v us := by
  obtain ⟨A, a, d⟩ := h
  refine (a.ins u hu hz hn).mono ?_
  rintro e w' ⟨rfl, A', h1, h2, t⟩
  exact ⟨rfl, A', h1, d.onB a t⟩
theorem OneS.cells {w W : World} {p : Nat} {S : SS} {g vcap : Nat} {us : List Un} (h : OneS w W p S (.slice (some ⟨g, 0, none⟩) us.length vcap) us) (j : Nat) (hlt : j < us.length) : W.cell? ⟨g, j * 6, none⟩ = some (.int .u64 us[j].c) ∧ W.cell? ⟨g, j * 6 + 1, none⟩ = some (.int .u64 us[j].k) ∧ W.cell? ⟨g, j * 6 + 2, none⟩ = some (.int .u64 us[j].lc) ∧ W.cell? ⟨g, j * 6 + 3, none⟩ = some (.int .u64 us[j].lk) ∧ W.cell? ⟨g, j * 6 + 4, none⟩ = some (.int .u64 us[j].rc) ∧ W.cell? ⟨g, j * 6 + 5, none⟩ = some (.int .u64 us[j].rk) := by
  obtain ⟨_, _, hn⟩ := h
  obtain ⟨b, o, cap, e, _, _, _, hx⟩ := hn.sl.row (fun e => by rw [e] at hlt; exact absurd hlt (Nat.not_lt_zero _))
  simp only [Value.slice.injEq, Option.some.injEq, Addr.mk.injEq] at e
  obtain ⟨⟨rfl, rfl, -⟩, -, -⟩ := e
  have := hx j hlt
  simp only [Nat.zero_add] at this
  exact this
set_option maxHeartbeats 800000 in
theorem placeG_any (k : Int) (m : Nat) (hm : 1 ≤ m ∧ m ≤ 1000000) (w : World) (h0 : -9223372036854775808 ≤ k) (h1 : k ≤ 9223372036854775807) : Calls Tryz.prog 11 #[.int .i64 k, .int .i64 (m : Int)] w fun e w' => ∃ p : Nat, e = .returned (.int .i64 (p : Int)) ∧ p < m ∧ w' = w := by
  have ha := Int.tmod_lt_of_pos k (b := (m : Int)) (by omega)
  have hb : -(m : Int) < k.tmod (m : Int) := by
    have := Int.lt_tmod_of_pos k (b := (m : Int)) (by omega)
    omega
  generalize ht : k.tmod (m : Int) = t at *
  have e0 : ((m : Int) == 0) = false := by simp; omega
  have e1 : ¬ ((m : Int) = 0) := by omega
  have e2 : ¬ ((m : Int) = -1) := by omega
  by_cases hn : t < 0
  · obtain ⟨p, hp⟩ : ∃ p : Nat, (p : Int) = t + (m : Int) := ⟨(t + (m : Int)).toNat, by omega⟩
    have HP : Hid ((p : Int) = t + (m : Int)) := hp
    have ew : IntKind.i64.wrap (t + (m : Int)) = t + (m : Int) := by rw [IntKind.wrap_i64]; omega
    clear hp
    go_enter Tryz.func11, Tryz.ntmps11
    go_wp2_with fail
    go_ret
    exact ⟨p, by rw [HP.out]; rfl, by have := HP.out; omega, rfl⟩
  · obtain ⟨p, hp⟩ : ∃ p : Nat, (p : Int) = t := ⟨t.toNat, by omega⟩
    have HP : Hid ((p : Int) = t) := hp
    clear hp
    go_enter Tryz.func11, Tryz.ntmps11
    go_wp2_with fail
    go_ret
    exact ⟨p, by rw [HP.out]; rfl, by have := HP.out; omega, rfl⟩
end Go.Proofs.YtdnhoicfolkbnaaGreat

/- For every number, anchors and operation quirelaw11.MarksPlace answers true: the walk. -/
namespace Go.Proofs.YtdnhoicfolkbnaaGreat
open Go.RowKit
set_option linter.unusedVariables false
set_option linter.unusedSimpArgs false
set_option maxRecDepth 100000

set_option maxHeartbeats 16000000 in
theorem marksPlace_any (n : Int) (hn : -9223372036854775808 ≤ n ∧ n ≤ 9223372036854775807) (ac ak : Int) (af : Bool) (bc bk : Int) (bf : Bool) (ha : 0 ≤ ac ∧ ac < 18446744073709551616) (hak : 0 ≤ ak ∧ ak < 18446744073709551616) (hb : 0 ≤ bc ∧ bc < 18446744073709551616) (hbk : 0 ≤ bk ∧ bk < 18446744073709551616) (o : O) (ho : o.fits) (w : World) :
    Calls Tryz.prog 3 #[.int .i64 n, .agg #[.int .u64 ac, .int .u64 ak, .bool af], .agg #[.int .u64 bc, .int .u64 bk, .bool bf], o.val] w fun e w' => e = .returned (.bool true) ∧ Touch (fun _ => False) w w' := by
  have HO : Hid (({ o with fc := ac, fk := ak, fa := af, tc := bc, tk := bk, ta := bf } : O).fits) := ⟨ho.c0, ho.k0, ho.kind, ho.st, ho.lc, ho.lk, ho.rc, ho.rk, ho.pc, ho.pk, ha, hak, hb, hbk, ho.vk, ho.vn, ho.vf⟩
  have HA : Hid ((0 ≤ ac) ∧ (0 ≤ ak ∧ ak < 18446744073709551616)) := ⟨ha.1, hak⟩
  have HN : Hid (-9223372036854775808 ≤ n ∧ n ≤ 9223372036854775807) := hn
  clear ha hak hb hbk ho hn
  obtain ⟨W0, hW0⟩ : ∃ W0, Hid (W0 = ((w.alloc (anO ac ak af)).alloc (anO bc bk bf)).alloc (opO o)) := ⟨_, Eq.refl _⟩
  have HW0 : Hid (MpB w W0 ac ak af bc bk bf o) := by
    rw [hW0.out]
    refine ⟨(((Touch.refl _ _).alloc _).alloc _).alloc _, heap_keep (((Touch.refl _ _).alloc _).alloc _) (heap_alloc_new _ _), ?_, ?_⟩
    · have := heap_alloc_new (w.alloc (anO ac ak af)) (anO bc bk bf)
      rw [show (w.alloc (anO ac ak af)).heap.size = w.heap.size + 1 from Array.size_push _] at this
      exact heap_keep ((Touch.refl _ _).alloc _) this
    · have := heap_alloc_new ((w.alloc (anO ac ak af)).alloc (anO bc bk bf)) (opO o)
      rw [show ((w.alloc (anO ac ak af)).alloc (anO bc bk bf)).heap.size = w.heap.size + 1 + 1 from by simp] at this
      exact this
  obtain ⟨vo, hvo⟩ : ∃ v, Hid (v = o.val) := ⟨_, Eq.refl _⟩
  have HE : Hid (∀ P, Calls Tryz.prog 9 #[] W0 P → Calls Tryz.prog 9 #[] W0 P) := fun P h => h
  go_enter Tryz.func3, Tryz.ntmps3
  go_upto_region 1 with fail
  rw [← hW0.out, ← hvo.out]
  clear hW0 hvo HE
  go_wp2_with fail
  refine (known_any W0).mono ?_
  rintro e W1 ⟨rfl, t1⟩
  have HW1 : Hid (MpB w W1 ac ak af bc bk bf o) := HW0.out.keep t1
  clear t1 HW0
  go_wp2_with fail
  refine (placeG_any n 20 (by omega) _ HN.out.1 HN.out.2).mono ?_
  rintro e W2 ⟨pp, rfl, hpp, hW2⟩
  rw [hW2]
  clear hW2
  have HP : Hid ((0 : Int) ≤ (pp : Int) ∧ (pp : Int) ≤ 20) := by rw [Hid]; omega
  clear hpp HN
  generalize (pp : Int) = pi at *
  go_wp2_with fail
  refine (units_any pi HP.out W1).mono ?_
  rintro e W3 ⟨pa, b, S, r, rfl, hP⟩
  have HW3 : Hid (MpB w W3 ac ak af bc bk bf o) := HW1.out.keep hP.h.t
  have HR3 : Hid (PlW W1 W3 pa b S r 100) := hP
  have HX : Hid (w.heap.size + 1 + 1 < W1.heap.size) := lt_of_heap HW1.out.o
  clear hP HW1 HP
  obtain ⟨a0, a1, a2⟩ := anO_cells HW3.out.a
  go_wp2_with fail
  clear a0 a1 a2
  refine (gap_any (HR3.out.rd (by omega)).1 ac ak af HA.out.1 HA.out.2).mono ?_
  rintro e W4 ⟨rfl, t4⟩
  have HW4 : Hid (MpB w W4 ac ak af bc bk bf o) := HW3.out.keep t4
  have HR4 : Hid (PlW W1 W4 pa b S r 100) := HR3.out.touch t4
  clear t4 HW3 HR3
  have HG : Hid (∀ W, SeqRq W b S → Calls Tryz.prog 13 #[qP b, .agg #[.int .u64 ac, .int .u64 ak, .bool af]] W fun e w' => e = .returned (.tuple #[.int .i64 (gapM S ac ak af).1, .bool (gapM S ac ak af).2]) ∧ Touch (fun _ => False) W w') := fun W h => qgap_any h ac ak af HA.out.1 HA.out.2
  generalize (gapM S ac ak af).1 = g1 at *
  generalize (gapM S ac ak af).2 = g2 at *
  obtain ⟨a0, a1, a2⟩ := anO_cells HW4.out.a
  go_wp2_with fail
  clear a0 a1 a2
  refine (HG.out _ (HR4.out.rd (by omega)).2).mono ?_
  rintro e W5 ⟨rfl, t5⟩
  have HW5 : Hid (MpB w W5 ac ak af bc bk bf o) := HW4.out.keep t5
  have HR5 : Hid (PlW W1 W5 pa b S r 100) := HR4.out.touch t5
  clear t5 HW4 HR4 HG
  obtain ⟨⟨o0, o1, o2⟩, o3, o4, o5⟩ := opO_from HW5.out.o
  have of : ∀ i, W5.frozen? ⟨w.heap.size + 1 + 1, i, none⟩ = false := fun i => free_of_block HW5.out.o
  obtain ⟨a0, a1, a2⟩ := anO_cells HW5.out.a
  obtain ⟨b0, b1, b2⟩ := anO_cells HW5.out.b
  go_upto_region 6 with fail
  go_region
  obtain ⟨x, hx⟩ : ∃ x : O, Hid (x = { o with fc := ac, fk := ak, fa := af, tc := bc, tk := bk, ta := bf }) := ⟨_, Eq.refl _⟩
  obtain ⟨X, hX⟩ : ∃ X, Hid (X = w.heap.size + 1 + 1) := ⟨_, Eq.refl _⟩
  rw [← hX.out]
  rw [← hX.out] at HX
  obtain ⟨W6, hW6⟩ : ∃ W, Hid (W = ((((((W5.setCell ⟨X, 16, none⟩ (.int .u64 ac)).setCell ⟨X, 17, none⟩ (.int .u64 ak)).setCell ⟨X, 18, none⟩ (.bool af)).setCell ⟨X, 19, none⟩ (.int .u64 bc)).setCell ⟨X, 20, none⟩ (.int .u64 bk)).setCell ⟨X, 21, none⟩ (.bool bf)).drew) := ⟨_, Eq.refl _⟩
  have HW6 : Hid (Touch (fun _ => False) w W6 ∧ W6.heap[X]? = some (opO x) ∧ SeqRd W6 pa S ∧ SeqRq W6 b S) := by
    have hX5 : W5.heap[X]? = some (opO o) := by rw [hX.out]; exact HW5.out.o
    obtain ⟨t6, h6⟩ := ends_X hX5 ac ak af bc bk bf hW6.out
    have e6 : W6.heap[X]? = some (opO x) := by rw [hx.out]; exact h6
    have hle : w.heap.size ≤ X := by have := hX.out; omega
    exact ⟨HW5.out.t.then t6 fun k hk e => by omega, e6, HR5.out.rdX HX.out hX5 t6⟩
  have HOx : Hid (x.fits) := by rw [hx.out]; exact HO.out
  have HOv : Hid (∀ W, SeqRd W pa S → Calls Tryz.prog 14 #[.pointer (some ⟨pa, 0, none⟩), x.val] W fun e w' => e = .returned (.tuple #[.int .i64 (overM S x).1, .int .i64 (overM S x).2]) ∧ Touch (fun _ => False) W w') := fun W h => over_any h x HOx.out
  have HQv : Hid (∀ W, SeqRq W b S → Calls Tryz.prog 15 #[.pointer (some ⟨b, 0, none⟩), x.val] W fun e w' => e = .returned (.tuple #[.int .i64 (overM S x).1, .int .i64 (overM S x).2]) ∧ Touch (fun _ => False) W w') := fun W h => qover_any h x HOx.out
  rw [← hW6.out]
  clear hW6 hX hx o0 o1 o2 o3 o4 o5 of a0 a1 a2 b0 b1 b2 HW5 HR5 HX HO HA HOx
  generalize (overM S x).1 = v1 at *
  generalize (overM S x).2 = v2 at *
  go_upto_region 7 with fail
  refine wp_region_lit ?_
  refine wpList_plain rfl fun K hK => ?_
  go_simp
  refine hK _ _ ?_
  clear hK K
  refine wpList_load_mid rfl 31 (.tmp 7) rfl X 0 rfl x.vals.toList _ (rangeAt_ofS HW6.out.2.1) Tryz.underlying31 rfl (by kernel_rfl) ?_
  simp only [Act.put, List.setIfInBounds_toArray, List.set_cons_succ, List.set_cons_zero]
  refine wpList_plain rfl fun K hK => ?_
  go_simp
  refine (HOv.out _ HW6.out.2.2.1).mono ?_
  rintro e W7 ⟨rfl, t7⟩
  have HW7 : Hid (Touch (fun _ => False) w W7 ∧ W7.heap[X]? = some (opO x) ∧ SeqRq W7 b S) := ⟨HW6.out.1.trans t7, heap_keep t7 HW6.out.2.1, HW6.out.2.2.2.touch t7⟩
  clear t7 HW6 HOv
  refine hK _ _ ?_
  clear hK K
  refine wpList_plain rfl fun K hK => ?_
  go_simp
  refine hK _ _ ?_
  clear hK K
  refine wpList_plain rfl fun K hK => ?_
  go_simp
  refine hK _ _ ?_
  clear hK K
  refine wpList_plain rfl fun K hK => ?_
  go_simp
  refine hK _ _ ?_
  clear hK K
  refine wpList_plain rfl fun K hK => ?_
  go_simp
  refine hK _ _ ?_
  clear hK K
  refine wpList_plain rfl fun K hK => ?_
  go_simp
  refine hK _ _ ?_
  clear hK K
  go_upto_region 8 with fail
  refine wp_region_lit ?_
  refine wpList_plain rfl fun K hK => ?_
  go_simp
  refine hK _ _ ?_
  clear hK K
  refine wpList_load_mid rfl 31 (.tmp 7) rfl X 0 rfl x.vals.toList _ (rangeAt_ofS HW7.out.2.1) Tryz.underlying31 rfl (by kernel_rfl) ?_
  simp only [Act.put, List.setIfInBounds_toArray, List.set_cons_succ, List.set_cons_zero]
  refine wpList_plain rfl fun K hK => ?_
  go_simp
  refine (HQv.out _ HW7.out.2.2).mono ?_
  rintro e W8 ⟨rfl, t8⟩
  have HT8 : Hid (Touch (fun _ => False) w W8) := HW7.out.1.trans t8
  clear t8 HW7 HQv
  refine hK _ _ ?_
  clear hK K
  refine wpList_plain rfl fun K hK => ?_
  go_simp
  refine hK _ _ ?_
  clear hK K
  refine wpList_plain rfl fun K hK => ?_
  go_simp
  refine hK _ _ ?_
  clear hK K
  refine wpList_plain rfl fun K hK => ?_
  go_simp
  refine hK _ _ ?_
  clear hK K
  refine wpList_plain rfl fun K hK => ?_
  go_simp
  refine hK _ _ ?_
  clear hK K
  refine wpList_plain rfl fun K hK => ?_
  go_simp
  refine hK _ _ ?_
  clear hK K
  have e1 : (g1 == g1) = true := by simp
  have e2 : (g2 == g2) = true := by simp
  have e3 : (v1 == v1) = true := by simp
  have e4 : (v2 == v2) = true := by simp
  generalize Value.agg #[.int .u64 x.c, .int .u64 x.k, .int .i64 x.kind, .int .u64 x.st, .int .u64 x.lc, .int .u64 x.lk, .int .u64 x.rc, .int .u64 x.rk, .string x.tx, .int .i64 x.vk, .int .i64 x.vn, .float .f64 x.vf, .string x.vs, .string x.ky, .int .u64 x.pc, .int .u64 x.pk, .int .u64 x.fc, .int .u64 x.fk, .bool x.fa, .int .u64 x.tc, .int .u64 x.tk, .bool x.ta] = v9
  go_wp2_with fail
  go_ret
  exact ⟨rfl, HT8.out⟩
end Go.Proofs.YtdnhoicfolkbnaaGreat

/- Arguments that are values (api.Value): from their reading to what they hold. -/
namespace Go.Proofs.YtdnhoicfolkbnaaGreat
open Go.ChangeShapes Go.WideShapes Go.ChangeAt Go.RowKit Go.Joins
set_option linter.unusedVariables false

theorem trod_f64 {H : Type} {enc : TypeId × Value → H} {P : Program} {w : World} {base : Nat} {spare : Nat → Bool} {held : Bool} {fuel : Nat} {t : TypeId} {cs : List Value} {x : DataW H × List MemPlace} (ht : P.underlying t = some (.float .f64)) (h : DataW.trod enc P w base spare held fuel t cs = some x) :
    ∃ b : Nat, cs = [.float .f64 b] ∧ b < 18446744073709551616 := by
  cases fuel with
  | zero => simp [DataW.trod] at h
  | succ n =>
    unfold DataW.trod at h
    rw [ht] at h
    match cs, h with
    | [.float k b], h =>
      simp only at h
      split at h
      · rename_i hc
        obtain ⟨e, hw⟩ := hc
        subst e
        exact ⟨b, rfl, of_decide_eq_true hw⟩
      · cases h

/-- A value that fits. -/
structure V.fits (v : V) : Prop where
  k0 : -9223372036854775808 ≤ v.k
  k1 : v.k < 9223372036854775808
  n0 : -9223372036854775808 ≤ v.n
  n1 : v.n < 9223372036854775808
  f1 : v.f < 18446744073709551616
  s1 : v.s.size ≤ 9223372036854775807

set_option maxRecDepth 100000 in
theorem cellsVal : Tryz.prog.cellsOf 29 = 4 := by kernel_rfl

set_option maxRecDepth 100000 in
theorem isVal_of {H : Type} {enc : TypeId × Value → H} {w : World} {base b0 : Nat} {spare : Nat → Bool} {held : Bool} {v : Value} {d : DataW H} {p : List MemPlace}
    (hv : Value.okWide Tryz.prog w .any b0 29 v) (h : DataW.Trod enc Tryz.prog w base spare held 29 v d p) : ∃ x : V, v = x.val ∧ x.fits := by
  obtain ⟨v0, v1, v2, v3, y0, y1, y2, y3, m, rfl, rfl, rfl, h0, h1, h2, h3⟩ := open_agg4 Tryz.underlying29 (by kernel_rfl) cellsVal hv h
  obtain ⟨k, e0, _, w0⟩ := DataW.trod_int Tryz.underlying3 h0
  obtain ⟨n, e1, _, w1⟩ := DataW.trod_int Tryz.underlying2 h1
  obtain ⟨f, e2, w2⟩ := trod_f64 Tryz.underlying27 h2
  obtain ⟨s, e3, _, w3⟩ := DataW.trod_string Tryz.underlying9 h3
  simp at e0 e1 e2 e3
  subst e0 e1 e2 e3
  simp [Lit.wf, IntKind.min, IntKind.max, IntKind.signed, IntKind.bits] at w0 w1
  exact ⟨⟨k, n, f, s⟩, rfl, ⟨by simp only; omega, by simp only; omega, by simp only; omega, by simp only; omega, w2, by simp only [maxLen] at w3; simp only; omega⟩⟩
end Go.Proofs.YtdnhoicfolkbnaaGreat
