/- Views: withoutText. -/
import Derived.Test.YtijkekkjiboomaaGreatDoorPart15
import Derived.Deep.RegionWith
import Derived.Deep.RegionLaw
namespace Go.Proofs.YtijkekkjiboomaaGreatDoor
open Go.RowKit Go.Maps
set_option linter.unusedVariables false
set_option linter.unusedSimpArgs false
set_option maxRecDepth 100000

theorem step_append_runY {w w' : World} {ops : Array Oper} {o : Oper} {a : Act} {K : Act → World → Prop} {Q : Exit → Act → World → Prop} {E : Prop} (hw : Region.wanted o (yielded ops a.tmps) = true) (s x : Operand)
    (ho : o.op = .call { callee := .builtin .append, args := #[s, x], argTypes := #[46, 46] }) (v y v' : Value) (hs : a.eval s = v) (hx : a.eval x = y)
    (hrun : (Builtin.append_ #[46, 46] o.type #[v, y]).run Tryz.prog w = .ok v' w') (h : K (a.put o.dst v') w') :
    if Region.wanted o (yielded ops a.tmps) = true then Oper.wp Tryz.prog o a w K Q else E := by
  rw [if_pos hw]
  unfold Oper.wp
  simp [execOp, ho, resolve, invoke, builtin, hs, hx, hrun, Result.andThen]
  exact h
abbrev bareW (em : Bool) (b : V) (s : Sw) : Rw := ⟨⟨#[]⟩, em, b.k, b.n, b.f, b.s, s⟩
/-- What is so behind i marks. -/
def WtI (w : World) (m1 X : Nat) (em : Bool) (b : V) (l : List Mk) (i : Nat) (s : Sw) (W : World) : Prop := W.heap[X]? = some (rwO (bareW em b s)) ∧ W.heap[m1]? = some (rwO rz) ∧ NewY w W s.val ((l.take i).map mkN)
theorem cells_rw {W : World} {X : Nat} {r : Rw} {n c : Nat} {a : Option Addr} (h : W.heap[X]? = some (rwO r)) : (W.setCell ⟨X, 6, none⟩ (.slice a n c)).heap[X]? = some (rwO ⟨r.tx, r.em, r.vk, r.vn, r.vf, r.vs, ⟨a, n, c⟩⟩) := by
  have h1 := heap_setCell_same W X 6 (.slice a n c) h
  simp only [List.setIfInBounds_toArray, List.set_cons_zero, List.set_cons_succ] at h1
  exact h1
theorem notY {W : World} {w : World} {v : Value} {n : Nat} {xs : List Value} {X : Nat} {r : Rw} (h : OwnY w W v n xs) (hX : W.heap[X]? = some (rwO r)) : v.ownBlock ≠ some X := by
  rcases h.owns.2 with ⟨e, _⟩ | ⟨g, cap, cur, e, hb, hg, _⟩
  · rw [e]; simp [Value.ownBlock]
  · intro e2
    rw [e] at e2
    simp only [Value.ownBlock, Option.some.injEq] at e2
    subst e2
    rw [hX] at hg
    simp at hg
theorem OwnY.setOther {w W : World} {v : Value} {n : Nat} {xs : List Value} {X i : Nat} {y : Value} (h : OwnY w W v n xs) (hX : v.ownBlock ≠ some X) (hf : w.heap.size ≤ X) : OwnY w (W.setCell ⟨X, i, none⟩ y) v n xs := by
  refine ⟨ownY_touch (S := fun k => k = X) h.owns ((Touch.refl _ _).setCell _ _ fun _ => rfl) (fun k hk e => hX (by rw [hk, e])), h.touch.setCell _ _ (fun q => absurd q (Nat.not_lt.2 hf)), h.fresh⟩
theorem WtI.next {w wr w1 : World} {m1 X : Nat} {em : Bool} {b : V} {l : List Mk} {i : Nat} {s : Sw} (h : WtI w m1 X em b l i s wr) (hi : i < l.length) (hl : l.length ≤ 1048576) (hX : w.heap.size ≤ X) (hne : m1 ≠ X) (t : Touch (fun _ => False) wr w1) :
    ∃ a5 n5 c5 w5, (Builtin.append_ #[46, 46] 46 #[.slice s.a s.n s.c, .slice (some ⟨w1.heap.size, 0, none⟩) 1 1]).run Tryz.prog (w1.alloc (.cells #[.string l[i].ky, .int .i64 l[i].vk, .int .i64 l[i].vn, .float .f64 (refBits l[i].vf), .string l[i].vs] 45)) = .ok (.slice a5 n5 c5) w5 ∧ w5.cell? ⟨X, 6, none⟩ = some (.slice s.a s.n s.c) ∧ w5.frozen? ⟨X, 6, none⟩ = false ∧ WtI w m1 X em b l (i + 1) ⟨a5, n5, c5⟩ (w5.setCell ⟨X, 6, none⟩ (.slice a5 n5 c5)) := by
  obtain ⟨h1, h2, h3⟩ := h
  have k1 := hkY t h1
  have k2 := hkY t h2
  have hN := h3.on t
  obtain ⟨v5, w5, hrun, hN5, hg⟩ := NewY.app1 hN (mkN l[i]) (by rw [List.length_map, List.length_take]; omega)
  obtain ⟨a5, c5, e5, -⟩ := hN5.shape
  have hx := notY hN k1
  have hm := notY hN k2
  have ha : ∀ k, k < w1.heap.size → s.val.ownBlock ≠ some k → w5.heap[k]? = w1.heap[k]? := fun k hk hne => by
    rw [hg.block k (by simp; omega) (fun e => hne e.symm)]
    exact Below.heap_alloc _ _ _ hk
  have q1 : w5.heap[X]? = some (rwO (bareW em b s)) := (ha X (lt_of_heap k1) hx).trans k1
  have q2 : w5.heap[m1]? = some (rwO rz) := (ha m1 (lt_of_heap k2) hm).trans k2
  have el : (l.take i).map mkN ++ [mkN l[i]] = (l.take (i + 1)).map mkN := by rw [List.take_succ_eq_append_getElem hi, List.map_append]; rfl
  have hX5 := notY hN5 q1
  rw [el] at hN5 e5
  have hN6 : NewY w (w5.setCell ⟨X, 6, none⟩ v5) v5 ((l.take (i + 1)).map mkN) := hN5.setOther hX5 hX
  subst e5
  refine ⟨_, _, _, w5, hrun, by rw [cell_of_block q1]; rfl, free_of_block q1, cells_rw q1, ?_, hN6⟩
  rw [heap_setCell_other _ _ _ _ (show (⟨X, 6, none⟩ : Addr).block ≠ m1 from fun e => hne e.symm)]
  exact q2
theorem rwV_steps {W : World} {m : Nat} {z : Rw} (h : W.heap[m]? = some (rwO z)) (k n : Int) (f : Nat) (s : ByteArray) : W.cell? ⟨m, 2, none⟩ = some (.int .i64 z.vk) ∧ W.frozen? ⟨m, 2, none⟩ = false ∧ (W.setCell ⟨m, 2, none⟩ (.int .i64 k)).cell? ⟨m, 3, none⟩ = some (.int .i64 z.vn) ∧ (W.setCell ⟨m, 2, none⟩ (.int .i64 k)).frozen? ⟨m, 3, none⟩ = false ∧ ((W.setCell ⟨m, 2, none⟩ (.int .i64 k)).setCell ⟨m, 3, none⟩ (.int .i64 n)).cell? ⟨m, 4, none⟩ = some (.float .f64 z.vf) ∧ ((W.setCell ⟨m, 2, none⟩ (.int .i64 k)).setCell ⟨m, 3, none⟩ (.int .i64 n)).frozen? ⟨m, 4, none⟩ = false ∧ (((W.setCell ⟨m, 2, none⟩ (.int .i64 k)).setCell ⟨m, 3, none⟩ (.int .i64 n)).setCell ⟨m, 4, none⟩ (.float .f64 f)).cell? ⟨m, 5, none⟩ = some (.string z.vs) ∧ (((W.setCell ⟨m, 2, none⟩ (.int .i64 k)).setCell ⟨m, 3, none⟩ (.int .i64 n)).setCell ⟨m, 4, none⟩ (.float .f64 f)).frozen? ⟨m, 5, none⟩ = false := by
  have h1 := heap_setCell_same _ m 2 (.int .i64 k) h
  have h2 := heap_setCell_same _ m 3 (.int .i64 n) h1
  have h3 := heap_setCell_same _ m 4 (.float .f64 f) h2
  exact ⟨by rw [cell_of_block h]; rfl, free_of_block h, by rw [cell_of_block h1]; rfl, free_of_block h1, by rw [cell_of_block h2]; rfl, free_of_block h2, by rw [cell_of_block h3]; rfl, free_of_block h3⟩
abbrev rwV (W : World) (m : Nat) (k n : Int) (f : Nat) (s : ByteArray) : World := (((W.setCell ⟨m, 2, none⟩ (.int .i64 k)).setCell ⟨m, 3, none⟩ (.int .i64 n)).setCell ⟨m, 4, none⟩ (.float .f64 f)).setCell ⟨m, 5, none⟩ (.string s)
theorem rwV_set {W : World} {m : Nat} {z : Rw} (h : W.heap[m]? = some (rwO z)) (k n : Int) (f : Nat) (s : ByteArray) : (rwV W m k n f s).heap[m]? = some (rwO ⟨z.tx, z.em, k, n, f, s, z.ms⟩) := by
  have h1 := heap_setCell_same _ m 2 (.int .i64 k) h
  have h2 := heap_setCell_same _ m 3 (.int .i64 n) h1
  have h3 := heap_setCell_same _ m 4 (.float .f64 f) h2
  have h4 := heap_setCell_same _ m 5 (.string s) h3
  simp only [List.setIfInBounds_toArray, List.set_cons_zero, List.set_cons_succ] at h4
  exact h4
theorem rwV_touch {w W : World} {m : Nat} (t : Touch (fun _ => False) w W) (hm : w.heap.size ≤ m) (k n : Int) (f : Nat) (s : ByteArray) : Touch (fun _ => False) w (rwV W m k n f s) := by
  have k : ∀ {V : World} (i : Nat) (v : Value), Touch (fun _ => False) w V → Touch (fun _ => False) w (V.setCell ⟨m, i, none⟩ v) := fun i v t => t.setCell _ _ (fun h => absurd h (Nat.not_lt.2 hm))
  exact k 5 _ (k 4 _ (k 3 _ (k 2 _ t)))
theorem rwV_other {W : World} {m j : Nat} (h : m ≠ j) (k n : Int) (f : Nat) (s : ByteArray) : (rwV W m k n f s).heap[j]? = W.heap[j]? := by
  have e : ∀ (V : World) (i : Nat) (v : Value), (V.setCell ⟨m, i, none⟩ v).heap[j]? = V.heap[j]? := fun V i v => heap_setCell_other V ⟨m, i, none⟩ v j h
  show (World.setCell _ ⟨m, 5, none⟩ _).heap[j]? = _
  rw [e, e, e, e]
theorem WtI.touch {w wr w1 : World} {m1 X : Nat} {em : Bool} {b : V} {l : List Mk} {i : Nat} {s : Sw} (h : WtI w m1 X em b l i s wr) (t : Touch (fun _ => False) wr w1) : WtI w m1 X em b l i s w1 := ⟨hkY t h.1, hkY t h.2.1, h.2.2.on t⟩
def bareV (r : Rw) : V := if r.em = true then vClean r.vv else vz
set_option maxHeartbeats 16000000 in
theorem bare_any {w : World} {r : Rw} {x : Rn} (hm : MtR w r x) (hl : x.ml.length ≤ 1048576) : Calls Tryz.prog 45 #[r.val] w fun e w' => ∃ s : Sw, e = .returned (bareW r.em (bareV r) s).val ∧ NewY w w' s.val (x.ml.map mkN) := by
  obtain ⟨ao, cap, esl, a1, a2, a3⟩ := hm.ml.shape
  have HA : Hid (x.ml ≠ [] → _) := (by have := hm.ml; rw [esl] at this; exact this.at)
  obtain ⟨E, hE⟩ : ∃ E, Hid (E = ((w.alloc (rwO r)).alloc (rwO rz)).alloc (rwO ⟨⟨#[]⟩, r.em, 0, 0, 0, ⟨#[]⟩, ⟨none, 0, 0⟩⟩)) := ⟨_, Eq.refl _⟩
  obtain ⟨m, hmm⟩ : ∃ m, Hid (m = w.heap.size) := ⟨_, Eq.refl _⟩
  have HTE : Hid (Touch (fun _ => False) w E) := by rw [hE.out]; exact (((Touch.refl _ _).alloc _).alloc _).alloc _
  have HQ : Hid (E.heap[m]? = some (rwO r) ∧ E.heap[m + 1]? = some (rwO rz) ∧ E.heap[m + 1 + 1]? = some (rwO ⟨⟨#[]⟩, r.em, 0, 0, 0, ⟨#[]⟩, ⟨none, 0, 0⟩⟩)) := by
    obtain ⟨k1, k2⟩ := heap_alloc2 w (rwO r) (rwO rz)
    have k3 := heap_alloc_new ((w.alloc (rwO r)).alloc (rwO rz)) (rwO ⟨⟨#[]⟩, r.em, 0, 0, 0, ⟨#[]⟩, ⟨none, 0, 0⟩⟩)
    rw [hE.out, hmm.out]
    refine ⟨hkY ((Touch.refl _ _).alloc _) k1, hkY ((Touch.refl _ _).alloc _) k2, ?_⟩
    have : ((w.alloc (rwO r)).alloc (rwO rz)).heap.size = w.heap.size + 1 + 1 := by simp
    rwa [this] at k3
  have HN : Hid (w.heap.size ≤ m + 1 + 1 ∧ w.heap.size ≤ m + 1) := by rw [hmm.out]; exact ⟨by omega, by omega⟩
  have HCV : Hid (∀ W, Calls Tryz.prog 67 #[.agg #[.int .i64 r.vk, .int .i64 r.vn, .float .f64 r.vf, .string r.vs]] W fun e w' => e = .returned (.agg #[.int .i64 r.vk, .int .i64 r.vn, .float .f64 (refBits r.vf), .string r.vs]) ∧ Touch (fun _ => False) W w') := fun W => v_clean ⟨r.vk, r.vn, r.vf, r.vs⟩ W
  have HCM : Hid (∀ i (h : i < x.ml.length) W, Calls Tryz.prog 67 #[.agg #[.int .i64 x.ml[i].vk, .int .i64 x.ml[i].vn, .float .f64 x.ml[i].vf, .string x.ml[i].vs]] W fun e w' => e = .returned (.agg #[.int .i64 x.ml[i].vk, .int .i64 x.ml[i].vn, .float .f64 (refBits x.ml[i].vf), .string x.ml[i].vs]) ∧ Touch (fun _ => False) W w') := fun i h W => v_clean x.ml[i].v W
  have HBV : Hid (bareV r = if r.em = true then ⟨r.vk, r.vn, refBits r.vf, r.vs⟩ else vz) := Eq.refl _
  obtain ⟨bv, hbv⟩ : ∃ bv, Hid (bv = bareV r) := ⟨_, Eq.refl _⟩
  rw [← hbv.out] at HBV ⊢
  have esl2 : (Value.slice r.ms.a r.ms.n r.ms.c) = .slice ao x.ml.length cap := esl
  clear hm hbv esl
  generalize x.ml = l at *
  obtain ⟨tx, em, vk, vn, vf, vs, ⟨ma, mn, mc⟩⟩ := r
  simp only [Value.slice.injEq] at HQ HCV HBV esl2 hE ⊢
  obtain ⟨rfl, rfl, rfl⟩ := esl2
  obtain ⟨c0, c1, c2, c3, c4, c5, c6⟩ := rwO_cells HQ.out.1
  have h2 := run_store_f64 Tryz.prog
  go_enter Tryz.func45, Tryz.ntmps45
  go_upto_region 2 with fail
  rw [← hE.out, ← hmm.out]
  clear hE hmm
  go_upto_if 10 with fail
  go_cut [9] (fun t wx => Hid (Touch (fun _ => False) w wx ∧ wx.heap[m]? = some (rwO ⟨tx, em, vk, vn, vf, vs, ⟨ma, l.length, mc⟩⟩) ∧ WtI w (m + 1) (m + 1 + 1) em bv l 0 ⟨none, 0, 0⟩ wx))
  case first =>
    clear HA HCM a1 a2 a3 hl
    cases em with
    | false =>
      have hb : Hid (bv = vz) := HBV.out
      have hQ : Hid (Touch (fun _ => False) w E ∧ E.heap[m]? = some (rwO ⟨tx, false, vk, vn, vf, vs, ⟨ma, l.length, mc⟩⟩) ∧ WtI w (m + 1) (m + 1 + 1) false bv l 0 ⟨none, 0, 0⟩ E) := ⟨HTE.out, HQ.out.1, by rw [hb.out]; exact HQ.out.2.2, HQ.out.2.1, NewY.nil _ _ HTE.out⟩
      clear hb HBV
      go_wp2_with fail
      go_meet
      case rel => exact hQ.out
    | true =>
      have hb : Hid (bv = ⟨vk, vn, refBits vf, vs⟩) := HBV.out
      clear HBV
      generalize refBits vf = g at *
      go_wp2_with fail
      refine (HCV.out _).mono ?_
      rintro e W1 ⟨rfl, t1⟩
      have k1 := hkY t1 HQ.out.1
      have k2 := hkY t1 HQ.out.2.1
      have k3 := hkY t1 HQ.out.2.2
      obtain ⟨s0, s1, s2, s3, s4, s5, s6, s7⟩ := rwV_steps k3 vk vn g vs
      have hQ : Hid (Touch (fun _ => False) w (rwV W1 (m + 1 + 1) vk vn g vs) ∧ (rwV W1 (m + 1 + 1) vk vn g vs).heap[m]? = some (rwO ⟨tx, true, vk, vn, vf, vs, ⟨ma, l.length, mc⟩⟩) ∧ WtI w (m + 1) (m + 1 + 1) true bv l 0 ⟨none, 0, 0⟩ (rwV W1 (m + 1 + 1) vk vn g vs)) := by
        have t2 := rwV_touch (HTE.out.trans t1) HN.out.1 vk vn g vs
        refine ⟨t2, ?_, ?_, ?_, NewY.nil _ _ t2⟩
        · rw [rwV_other (by omega)]; exact k1
        · rw [hb.out]; exact rwV_set k3 vk vn g vs
        · rw [rwV_other (by omega)]; exact k2
      clear c0 c1 c2 c3 c4 c5 c6 k1 k2 k3 t1 hb
      go_wp2_with fail
      go_meet
      case rel => exact hQ.out
  case rest =>
    obtain ⟨V, hV⟩ : ∃ V, V = wc := ⟨_, rfl⟩
    subst hV
    have H := hcut
    clear HQ HTE c0 c1 c2 c3 c4 c5 c6 HCV HBV
    obtain ⟨-, -, -, -, -, -, c6⟩ := rwO_cells H.out.2.1
    have H0 : Hid (WtI w (m + 1) (m + 1 + 1) em bv l 0 ⟨none, 0, 0⟩ V) := H.out.2.2
    clear H hcut
    go_wp2_with fail
    clear c6
    go_loopg [18] l.length (fun gk s18 wr => ∃ i : Nat, i + gk = l.length ∧ s18 = .int .i64 (i : Int) ∧ Hid (∃ s, WtI w (m + 1) (m + 1 + 1) em bv l i s wr))
    case atStart => exact ⟨0, by omega, rfl, _, H0.out⟩
    case round =>
      obtain ⟨i, hig, rfl, HI⟩ := hrel
      by_cases hil : i < l.length
      · obtain ⟨b, o, rfl, hca⟩ := HA.out (by intro e; subst e; simp at hil)
        obtain ⟨s, hs⟩ := HI.out
        have hTw : Touch (fun _ => False) w wr := hs.2.2.touch
        obtain ⟨x0, x1, x2, x3, x4⟩ := hca wr hTw i hil
        have hi1 : (0 : Int) ≤ (i : Int) := by omega
        have hi2 : (i : Int) < (l.length : Int) := by omega
        have HCi : Hid (∀ W, Calls Tryz.prog 67 #[.agg #[.int .i64 l[i].vk, .int .i64 l[i].vn, .float .f64 l[i].vf, .string l[i].vs]] W fun e w' => e = .returned (.agg #[.int .i64 l[i].vk, .int .i64 l[i].vn, .float .f64 (refBits l[i].vf), .string l[i].vs]) ∧ Touch (fun _ => False) W w') := HCM.out i hil
        have hbx := heap_alloc_new wr (myO l[i])
        have HK : Hid (∀ w1, Touch (fun _ => False) (wr.alloc (myO l[i])) w1 → (w1.cell? ⟨wr.heap.size, 0, none⟩ = some (.string l[i].ky) ∧ w1.cell? ⟨wr.heap.size, 1, none⟩ = some (.int .i64 l[i].vk) ∧ w1.cell? ⟨wr.heap.size, 2, none⟩ = some (.int .i64 l[i].vn) ∧ w1.cell? ⟨wr.heap.size, 3, none⟩ = some (.float .f64 l[i].vf) ∧ w1.cell? ⟨wr.heap.size, 4, none⟩ = some (.string l[i].vs)) ∧ w1.cell? ⟨m + 1 + 1, 6, none⟩ = some (.slice s.a s.n s.c) ∧ (w1.alloc (.cells #[.string l[i].ky, .int .i64 l[i].vk, .int .i64 l[i].vn, .float .f64 (refBits l[i].vf), .string l[i].vs] 45)).cell? ⟨m + 1 + 1, 6, none⟩ = some (.slice s.a s.n s.c) ∧
            ∃ a5 n5 c5 w5, (Builtin.append_ #[46, 46] 46 #[.slice s.a s.n s.c, .slice (some ⟨w1.heap.size, 0, none⟩) 1 1]).run Tryz.prog (w1.alloc (.cells #[.string l[i].ky, .int .i64 l[i].vk, .int .i64 l[i].vn, .float .f64 (refBits l[i].vf), .string l[i].vs] 45)) = .ok (.slice a5 n5 c5) w5 ∧ w5.cell? ⟨m + 1 + 1, 6, none⟩ = some (.slice s.a s.n s.c) ∧ w5.frozen? ⟨m + 1 + 1, 6, none⟩ = false ∧ Hid (WtI w (m + 1) (m + 1 + 1) em bv l (i + 1) ⟨a5, n5, c5⟩ (w5.setCell ⟨m + 1 + 1, 6, none⟩ (.slice a5 n5 c5)))) := fun w1 t => by
          have k := (hs.touch ((Touch.refl _ wr).alloc (myO l[i]))).touch t
          refine ⟨myO_cells (hkY t hbx), (rwO_cells k.1).2.2.2.2.2.2, (rwO_cells (hkY ((Touch.refl _ _).alloc _) k.1)).2.2.2.2.2.2, ?_⟩
          exact k.next hil hl HN.out.1 (by omega) (Touch.refl _ _)
        obtain ⟨⟨p0, p1, p2, p3, p4⟩, p5, -, -⟩ := HK.out _ (Touch.refl _ _)
        clear hs hTw hca HA HCM HI hbx a1 a2 a3 H0
        generalize l[i] = a at *
        obtain ⟨ky, vk', vn', vf', vs'⟩ := a
        simp only at x0 x1 x2 x3 x4 HK HCi p0 p1 p2 p3 p4
        generalize refBits vf' = g at *
        obtain ⟨sa, sn, sc⟩ := s
        simp only at HK p5
        go_upto_region 7 with fail
        obtain ⟨U, hU⟩ : ∃ U, Hid (U = wr.alloc (.cells #[.string ky, .int .i64 vk', .int .i64 vn', .float .f64 vf', .string vs'] 45)) := ⟨_, Eq.refl _⟩
        rw [← hU.out] at HK p0 p1 p2 p3 p4 p5 ⊢
        clear hU x0 x1 x2 x3 x4
        obtain ⟨⟨d0, d1, d2, d3, d4⟩, d5, -, -⟩ := HK.out _ (Touch.refl _ U).drew
        go_region_law (first
          | (refine step_append_runY (by rfl) _ _ rfl _ _ _ rfl rfl hrun ?_)
          | (go_simp; go_at_call 67; (with_reducible refine (HCi.out _).mono ?_); rintro e w1 ⟨rfl, t1⟩; obtain ⟨⟨g0, g1, g2, g3, g4⟩, g5, g6, a5, n5, c5, w5, hrun, f5, z5, HQ9⟩ := HK.out w1 ((Touch.refl _ U).drew.trans t1); clear t1))
        all_goals (try go_wp2_with fail)
        all_goals (go_roundg (l.length - (i + 1)))
        all_goals (first | (case measure => omega) | skip)
        all_goals exact ⟨i + 1, by omega, by go_num, _, HQ9.out⟩
      · have : i = l.length := by omega
        subst this
        obtain ⟨s, hs⟩ := HI.out
        obtain ⟨q0, q1, q2, q3, q4, q5, q6⟩ := rwO_cells hs.1
        obtain ⟨s0, s1, s2, s3, s4, s5, s6, s7, s8, s9, s10, s11, s12, s13⟩ := rwO_steps hs.2.1 (bareW em bv s)
        obtain ⟨u0, u1, u2, u3, u4, u5, u6⟩ := rwO_cells (rwO_set hs.2.1 (bareW em bv s))
        have HR : Hid (NewY w (rwW wr (m + 1) (bareW em bv s)) s.val (l.map mkN)) := by
          have k := hs.2.2
          rw [List.take_length] at k
          have hn := notY k hs.2.1
          exact ((((((k.setOther hn HN.out.2).setOther hn HN.out.2).setOther hn HN.out.2).setOther hn HN.out.2).setOther hn HN.out.2).setOther hn HN.out.2).setOther hn HN.out.2
        clear hs hil hig HI HA HCM H0 a1 a2 a3
        obtain ⟨bk, bn, bf, bs⟩ := bv
        obtain ⟨sa, sn, sc⟩ := s
        simp only [bareW] at q0 q1 q2 q3 q4 q5 q6 s0 s1 s2 s3 s4 s5 s6 s7 s8 s9 s10 s11 s12 s13 u0 u1 u2 u3 u4 u5 u6
        go_wp2_with fail
        refine bodyPost_ret (v := .agg #[.string ⟨#[]⟩, .bool em, .int .i64 bk, .int .i64 bn, .float .f64 bf, .string bs, .slice sa sn sc]) (by simp [results, Tryz.results45, go_sem, u0, u1, u2, u3, u4, u5, u6]) rfl ?_
        exact ⟨⟨sa, sn, sc⟩, rfl, HR.out⟩
end Go.Proofs.YtijkekkjiboomaaGreatDoor
