/- The contract of the document's Above. -/
import Derived.Test.YtccgiabihagjoaaRtM
import Derived.Test.YtccgiabihagjoaaRfTof
import Derived.Deep.LoopGhost
import Derived.Deep.RegionHeld3
import Derived.Deep.DeepCutAuto
import Derived.BigQuiet
namespace Go.Proofs.Ytccgiabihagjoaa
open Go.RowKit Go.Maps
set_option linter.unusedVariables false
set_option linter.unusedSimpArgs false
set_option maxRecDepth 100000

theorem step_append_runT {w w' : World} {ops : Array Oper} {o : Oper} {a : Act} {K : Act → World → Prop} {Q : Exit → Act → World → Prop} {E : Prop} (hw : Region.wanted o (yielded ops a.tmps) = true) (s x : Operand)
    (ho : o.op = .call { callee := .builtin .append, args := #[s, x], argTypes := #[22, 22] }) (v y v' : Value) (hs : a.eval s = v) (hx : a.eval x = y)
    (hrun : (Builtin.append_ #[22, 22] o.type #[v, y]).run Try.prog w = .ok v' w') (h : K (a.put o.dst v') w') :
    if Region.wanted o (yielded ops a.tmps) = true then Oper.wp Try.prog o a w K Q else E := by
  rw [if_pos hw]
  unfold Oper.wp
  simp [execOp, ho, resolve, invoke, builtin, hs, hx, hrun, Result.andThen]
  exact h
theorem SlT.lies {w : World} {ao : Option Addr} {n cap : Nat} {l : List Tn} (h : SlT w (.slice ao n cap) l) : (ao = none → cap = 0) ∧ LiesT w ao l := by
  obtain ⟨ao', cap', e, h1, _, _, h4⟩ := h
  simp only [Value.slice.injEq] at e
  obtain ⟨rfl, _, rfl⟩ := e
  exact ⟨h1, h4⟩
theorem ownU_sl {w : World} {v : Value} {l : List Int} (h : w.ownsRow 0 23 1 v l.length (cellsU l)) : SlU w v l := by
  rcases h.2 with ⟨e, h0⟩ | ⟨g, cap, cur, e, hb, hg, q1, q2, q3, q4⟩
  · have : l = [] := List.length_eq_zero_iff.1 (by omega)
    subst this
    rw [e]; exact SlU.nil w
  · refine ⟨_, cap, e, (fun h => by cases h), q1, q2, .inr ⟨g, 0, rfl, fun j u hu => ?_⟩⟩
    rw [← q4, List.getElem?_take] at hu
    split at hu
    · rw [cell_of_block hg, Nat.zero_add, ← Array.getElem?_toList]; exact hu
    · cases hu
/-- Turns and numbers do not lie in one block. -/
theorem own_apart {W w : World} {v u : Value} {n m : Nat} {xs ys : List Value} (h : OwnT W w v n xs) (k : w.ownsRow 0 23 1 u m ys) : ∀ g, u.ownBlock = some g → ¬ v.ownBlock = some g := by
  intro g hu hv
  rcases h.owns.2 with ⟨e, _⟩ | ⟨g1, cap, cur, e, hb, hg, _⟩
  · rw [e] at hv; simp [Value.ownBlock] at hv
  · rcases k.2 with ⟨e2, _⟩ | ⟨g2, cap2, cur2, e2, hb2, hg2, _⟩
    · rw [e2] at hu; simp [Value.ownBlock] at hu
    · rw [e] at hv; rw [e2] at hu
      simp only [Value.ownBlock, Option.some.injEq] at hv hu
      subst hv hu
      rw [hg] at hg2
      simp only [Option.some.injEq, Obj.cells.injEq] at hg2
      have := hg2.2.1
      revert this
      decide
theorem last_ofT (l : List Tn) (h : l ≠ []) : ∃ p x, l = p ++ [x] := ⟨l.dropLast, l.getLast h, (List.dropLast_concat_getLast h).symm⟩
/-- Does t go on with the last of out? -/
def goesOn (out : List Tn) (t : Tn) : Bool := match out.getLast? with
  | none => false
  | some x => !(follows x t)
theorem lay_new {out : List Tn} {t : Tn} (hn : t.n ≠ 0) (h : goesOn out t = false) : lay out t = out ++ [t] := by
  by_cases hne : out = []
  · subst hne; simp [lay, hn]
  · obtain ⟨p, x, rfl⟩ := last_ofT out hne
    have hf : follows x t = true := by simpa [goesOn] using h
    rw [lay_last, lay, if_neg hn, if_pos hf, List.append_assoc]; rfl
theorem lay_on {p : List Tn} {x t : Tn} (hn : t.n ≠ 0) (h : goesOn (p ++ [x]) t = true) : lay (p ++ [x]) t = p ++ [⟨x.c, x.f, t.t, x.n⟩] := by
  have hf : follows x t = false := by simpa [goesOn] using h
  rw [lay_last, lay, if_neg hn, hf]; rfl
theorem goesOn_nil (t : Tn) : goesOn [] t = false := rfl
theorem goesOn_last {p : List Tn} {x t : Tn} (h : Bef x t) : goesOn (p ++ [x]) t = true ↔ x.c = t.c ∧ x.t = t.f ∧ x.n = t.n := by
  have e : goesOn (p ++ [x]) t = !(follows x t) := by simp [goesOn]
  rw [e, Bool.not_eq_true', follows_not h]

set_option maxHeartbeats 8000000 in
theorem above_any (a b : List Tn) (va vb : Value) (w : World) (ha : SlT w va a) (hb : SlT w vb b) (hla : a.length ≤ 1000) (hlb : b.length ≤ 1000) :
    Calls Try.prog 19 #[va, vb] w fun e w' => ∃ v' out, e = .returned v' ∧ NewT w w' v' out ∧ Form out (fAb a b) ∧ out.length ≤ 4000000 := by
  have HC := clients_any a va w ha (by omega)
  have HA : Hid (SlT w va a) := ha
  have HB : Hid (SlT w vb b) := hb
  obtain ⟨aoa, capa, rfl, na, _⟩ := ha
  obtain ⟨aob, capb, rfl, nb, _⟩ := hb
  have HNN : Hid ((aoa = none → capa = 0) ∧ (aob = none → capb = 0)) := ⟨na, nb⟩
  clear na nb
  go_enter Try.func19, Try.ntmps19
  go_wp2_with fail
  refine HC.mono ?_
  rintro e w1 ⟨v1, cs, rfl, n1, hcl⟩
  have HT1 : Hid (Touch (fun _ => False) w w1) := n1.touch
  have HCl : Hid (CliU a cs) := hcl
  have hcn : cs.length ≤ 1000 := by have := hcl.len; omega
  have HSc : Hid (SlU w1 v1 cs) := n1.sl
  obtain ⟨ao1, cap1, rfl, _⟩ := n1.shape
  clear n1 hcl HC
  go_wp2_with fail
  go_loopg [5, 7] cs.length (fun g s5 s7 wx => ∃ (i : Nat) (out : List Tn), i + g = cs.length ∧ s7 = .int .i64 (i : Int) ∧ Hid (NewT w1 wx s5 out ∧ AtC (fAb a b) cs i out) ∧ out.length ≤ i * 4000 ∧ ∃ ao cap, s5 = .slice ao out.length cap)
  case atStart => exact ⟨0, [], by omega, rfl, ⟨NewT.nil w1 w1 (Touch.refl _ _), AtC.start HCl.out⟩, Nat.le_refl _, ⟨_, _, rfl⟩⟩
  case round =>
    obtain ⟨i, out, hig, rfl, H, hol, ⟨ao5, cap5, rfl⟩⟩ := hrel
    obtain ⟨wx, hwx⟩ : ∃ wx, wx = wr := ⟨_, rfl⟩
    subst hwx
    by_cases hlt : i < cs.length
    · have hne : cs ≠ [] := by rintro rfl; simp at hlt
      obtain ⟨gc, oc, cp, e, _, _, hb1, hrow⟩ := HSc.out.row hne
      obtain ⟨rfl, _, rfl⟩ : ao1 = some ⟨gc, oc, none⟩ ∧ True ∧ cap1 = cp := by simpa using e
      have HKc : Hid (∀ W, Touch (fun _ => False) w1 W → W.cell? ⟨gc, oc + i, none⟩ = some (.int .u64 cs[i])) := fun W t => by
        have := hrow i hlt
        rw [Nat.mul_one] at this
        rw [World.cell?_of_block (t.block _ hb1 id)]; exact this
      have HNx : Hid (∀ es, EdgU (a ++ b) cs[i] es → EdgF a b cs[i] es) := fun es he => EdgF.of HCl.out (List.getElem_mem hlt) he
      have HUp : Hid (Upto (fAb a b) out cs[i] 0) := H.out.2.1 hlt
      have HNext : Hid (∀ out' p, Upto (fAb a b) out' cs[i] p → (∀ k, p ≤ k → fAb a b cs[i] k = 0) → AtC (fAb a b) cs (i + 1) out') := fun out' p h he => AtC.next HCl.out hlt h he
      have HN0 : Hid (NewT w1 wx (.slice ao5 out.length cap5) out) := H.out.1
      clear hrow e hne H hb1
      generalize cs[i] = c at *
      have i1 : (i : Int) < (cs.length : Int) := by omega
      have i2 : (0 : Int) ≤ (i : Int) := by omega
      -- the edges
      have la := (HA.out.touch (HT1.out.trans HN0.out.touch.drew)).lies
      obtain ⟨v2, w2, hrun2, hN2, _⟩ := (NewT.nil wx wx.drew (Touch.refl _ _).drew).app aoa a.length capa a rfl HNN.out.1 la.2 (by simp; omega)
      rw [List.nil_append] at hN2
      have lb := (HB.out.touch (HT1.out.trans (HN0.out.touch.trans hN2.touch))).lies
      obtain ⟨v3, w3, hrun3, hN3, _⟩ := hN2.app aob b.length capb b rfl HNN.out.2 lb.2 (by omega)
      obtain ⟨ab, hab⟩ : ∃ ab, Hid (ab = a ++ b) := ⟨_, rfl⟩
      rw [← hab.out] at hN3 HNx
      have habl : ab.length ≤ 2000 := by rw [hab.out]; simp; omega
      have KE := edges_any ab v3 c w3 hN3.sl (by omega)
      have S1 := HKc.out wx.drew HN0.out.touch.drew
      have S2 := HKc.out w2 (HN0.out.touch.trans hN2.touch)
      have S3 := HKc.out w3 (HN0.out.touch.trans hN3.touch)
      have HT3 : Hid (Touch (fun _ => False) wx w3) := hN3.touch
      obtain ⟨ao2, cap2, rfl, _⟩ := hN2.shape
      obtain ⟨ao3, cap3, rfl, _⟩ := hN3.shape
      clear hN2 hN3 la lb
      go_upto_region 6 with fail
      go_cut [8] (fun t wz => ∃ es, Hid (NewU w3 wz t es ∧ EdgU ab c es) ∧ ∃ ao cap, t = .slice ao es.length cap)
      case first =>
        go_wp2_with fail
        go_region_held3 (fun W => W.cell? ⟨gc, oc + i, none⟩ = some (.int .u64 c)) (first | assumption)
          (first | (refine step_append_runT (by rfl) _ _ rfl _ _ _ rfl rfl hrun2 ?_) | (refine step_append_runT (by rfl) _ _ rfl _ _ _ rfl rfl hrun3 ?_) | (go_at_call 37; (with_reducible refine KE.mono ?_); rintro e w4 ⟨v4, es, rfl, n4, e4⟩; (obtain ⟨ao4, cap4, rfl, _⟩ := n4.shape); (have S4 := HKc.out w4 (HN0.out.touch.trans (HT3.out.trans n4.touch))); (have N4 : Hid (NewU w3 w4 (.slice ao4 es.length cap4) es ∧ EdgU ab c es) := ⟨n4, e4⟩); clear n4 e4))
        all_goals (try go_wp2_with fail)
        all_goals go_meet
        all_goals (case rel => exact ⟨es, N4, ⟨_, _, rfl⟩⟩)
      case rest =>
        obtain ⟨es, N4, ⟨ao4, cap4, rfl⟩⟩ := hcut
        obtain ⟨w4, hw4⟩ : ∃ w4, w4 = wc := ⟨_, rfl⟩
        subst hw4
        have HE : Hid (EdgF a b c es) := HNx.out es N4.out.2
        have hel : es.length ≤ 4000 := by have := N4.out.2.len; omega
        have he2 : 2 ≤ es.length := HE.out.two
        have HT4 : Hid (Touch (fun _ => False) w3 w4) := N4.out.1.touch
        have HOe : Hid (w4.ownsRow 0 23 1 (.slice ao4 es.length cap4) es.length (cellsU es)) := N4.out.1.owns
        have HAs : Hid (es.Pairwise (fun a b => a < b)) := N4.out.2.asc
        have HPos : Hid (∀ y ∈ es, 0 ≤ y) := fun y hy => by
          obtain ⟨x, hx, h1, h2, h3⟩ := (N4.out.2.mem y).1 hy
          have := Tn.ok_iff.1 h1
          omega
        have HN4 : Hid (NewT w1 w4 (.slice ao5 out.length cap5) out) := HN0.out.on (HT3.out.trans HT4.out)
        have HU0 : Hid (∀ h : 0 < es.length, Upto (fAb a b) out c es[0]) := fun h => HUp.out.first HE.out h (HPos.out _ (List.getElem_mem h))
        clear S1 S2 S3 KE hrun2 hrun3 HNx HUp HN0 HT3 N4 HPos
        go_wp2_with fail
        go_loopg [5, 9] (es.length - 1) (fun g s5 s9 wy => ∃ (k : Nat) (ou : List Tn), k + 1 + g = es.length ∧ s9 = .int .i64 (k : Int) ∧ Hid (NewT w1 wy s5 ou ∧ wy.ownsRow 0 23 1 (.slice ao4 es.length cap4) es.length (cellsU es) ∧ ∀ h : k < es.length, Upto (fAb a b) ou c es[k]) ∧ ou.length ≤ i * 4000 + k ∧ ∃ ao cap, s5 = .slice ao ou.length cap)
        case atStart => exact ⟨0, out, by omega, rfl, ⟨HN4.out, HOe.out, HU0.out⟩, by omega, ⟨_, _, rfl⟩⟩
        case round =>
          obtain ⟨k, ou, hkg, rfl, HI, hoy, ⟨ao6, cap6, rfl⟩⟩ := hrel
          obtain ⟨wy, hwy⟩ : ∃ wy, wy = wr := ⟨_, rfl⟩
          subst hwy
          by_cases hk : k + 1 < es.length
          · have hk0 : k < es.length := by omega
            have HU : Hid (Upto (fAb a b) ou c es[k]) := HI.out.2.2 hk0
            have HStep : Hid (Upto (fAb a b) (lay ou ⟨c, es[k], es[k + 1], fAb a b c es[k]⟩) c es[k + 1]) := Upto.edge hk HU.out HE.out (List.pairwise_iff_getElem.1 HAs.out k (k + 1) hk0 hk (by omega))
            have HBef : Hid (∀ n, ∀ x ∈ ou, Bef x ⟨c, es[k], es[k + 1], n⟩) := fun n x hx => HU.out.bef x hx
            have hnee : es ≠ [] := by rintro rfl; simp at hk
            have HOy : Hid (wy.ownsRow 0 23 1 (.slice ao4 es.length cap4) es.length (cellsU es)) := HI.out.2.1
            obtain ⟨ge, oe, cpe, ee, _, _, hbe, hrowe⟩ := (ownU_sl HOy.out).row hnee
            obtain ⟨rfl, _, rfl⟩ : ao4 = some ⟨ge, oe, none⟩ ∧ True ∧ cap4 = cpe := by simpa using ee
            have HKe : Hid (∀ W, Touch (fun _ => False) wy W → W.cell? ⟨ge, oe + k, none⟩ = some (.int .u64 es[k]) ∧ W.cell? ⟨ge, oe + (k + 1), none⟩ = some (.int .u64 es[k + 1])) := fun W t => by
              have h1 := hrowe k hk0
              have h2 := hrowe (k + 1) hk
              rw [Nat.mul_one] at h1 h2
              exact ⟨by rw [World.cell?_of_block (t.block _ hbe id)]; exact h1, by rw [World.cell?_of_block (t.block _ hbe id)]; exact h2⟩
            have HUn : Hid (∀ ou', Upto (fAb a b) ou' c es[k + 1] → ∀ h : k + 1 < es.length, Upto (fAb a b) ou' c es[k + 1]) := fun ou' h _ => h
            have HNy : Hid (NewT w1 wy (.slice ao6 ou.length cap6) ou) := HI.out.1
            have HTA : Hid (∀ W, Touch (fun _ => False) w1 W → Calls Try.prog 11 #[.slice aoa a.length capa, .agg #[.int .u64 c, .int .u64 es[k]]] W fun e w' => e = .returned (.int .u64 (turnOf a c es[k])) ∧ Touch (fun _ => False) W w') := fun W t => rturnOf_any a _ c es[k] W (HA.out.touch (HT1.out.trans t)) (by omega)
            have HTB : Hid (∀ W, Touch (fun _ => False) w1 W → Calls Try.prog 11 #[.slice aob b.length capb, .agg #[.int .u64 c, .int .u64 es[k]]] W fun e w' => e = .returned (.int .u64 (turnOf b c es[k])) ∧ Touch (fun _ => False) W w') := fun W t => rturnOf_any b _ c es[k] W (HB.out.touch (HT1.out.trans t)) (by omega)
            have HF : Hid (fAb a b c es[k] = if turnOf b c es[k] < turnOf a c es[k] then turnOf a c es[k] else 0) := rfl
            have hm0 := (turnOf_pos b c es[k]).1
            clear hrowe ee hnee HI HU hbe
            generalize turnOf a c es[k] = n at *
            generalize turnOf b c es[k] = m at *
            generalize fAb a b c es[k] = f at *
            generalize hqq : es[k + 1] = q at *
            have HQe : Hid (es[k + 1] = q) := hqq
            clear hqq
            generalize es[k] = pp at *
            have i3 : (k : Int) + 1 < (es.length : Int) := by omega
            have i4 : (0 : Int) ≤ (k : Int) := by omega
            have i5 : (k : Int) < (es.length : Int) := by omega
            have HW : Hid (Touch (fun _ => False) wy ((wy.alloc (idO c pp)).drew) ∧ ((wy.alloc (idO c pp)).drew).heap[wy.heap.size]? = some (idO c pp)) := ⟨((Touch.refl _ wy).alloc _).drew, heap_alloc_new wy _⟩
            have c0 := HKc.out wy HNy.out.touch
            have c1 := (HKe.out wy (Touch.refl _ _)).1
            have c2 := HKc.out (wy.alloc (idO 0 0)) (HNy.out.touch.alloc _)
            have c3 := (HKe.out (wy.alloc (idO 0 0)) ((Touch.refl _ _).alloc _)).1
            go_upto_region 10 with fail
            go_cut [10] (fun t wz => t = .pointer (some ⟨wy.heap.size, 0, none⟩) ∧ Hid (Touch (fun _ => False) wy wz ∧ wz.heap[wy.heap.size]? = some (idO c pp)))
            case first =>
              go_wp2_with fail
              go_region
              all_goals (try go_wp2_with fail)
              all_goals go_meet
              all_goals (case rel => exact ⟨rfl, HW⟩)
            case rest =>
              obtain ⟨rfl, HZ⟩ := hcut
              obtain ⟨w5, hw5⟩ : ∃ w5, w5 = wc := ⟨_, rfl⟩
              subst hw5
              have j0 : w5.cell? ⟨wy.heap.size, 0, none⟩ = some (.int .u64 c) := by rw [cell_of_block HZ.out.2]; rfl
              have j1 : w5.cell? ⟨wy.heap.size, 1, none⟩ = some (.int .u64 pp) := by rw [cell_of_block HZ.out.2]; rfl
              have KA := HTA.out w5 (HNy.out.touch.trans HZ.out.1)
              clear c0 c1 c2 c3 HTA
              go_wp2_with fail
              refine KA.mono ?_
              rintro e w6 ⟨rfl, t6⟩
              have j2 : w6.cell? ⟨wy.heap.size, 0, none⟩ = some (.int .u64 c) := (t6.cell (World.block_lt_of_cell? _ _ j0) id 0).trans j0
              have j3 : w6.cell? ⟨wy.heap.size, 1, none⟩ = some (.int .u64 pp) := (t6.cell (World.block_lt_of_cell? _ _ j1) id 1).trans j1
              have KB := HTB.out w6 (HNy.out.touch.trans (HZ.out.1.trans t6))
              have HT6 : Hid (Touch (fun _ => False) wy w6) := HZ.out.1.trans t6
              clear t6 KA j0 j1 HTB
              by_cases hnm : n ≤ m
              · have HQ : Hid (Upto (fAb a b) ou c q) := by
                  have := HStep.out
                  rw [HF.out, if_neg (by omega), lay_zero _ _ rfl] at this
                  exact this
                clear HStep HF HBef HW
                go_wp2_with fail
                refine KB.mono ?_
                rintro e w7 ⟨rfl, t7⟩
                have HQ2 : Hid (NewT w1 w7 (.slice ao6 ou.length cap6) ou ∧ w7.ownsRow 0 23 1 (.slice (some ⟨ge, oe, none⟩) es.length cap4) es.length (cellsU es)) := ⟨HNy.out.on (HT6.out.trans t7), ownU_touch HOy.out (HT6.out.trans t7) (fun _ _ => id)⟩
                clear t7 KB j2 j3
                go_wp2_with fail
                go_roundg (es.length - 1 - (k + 1))
                case measure => omega
                case rel => exact ⟨k + 1, ou, by omega, by go_num, ⟨HQ2.out.1, HQ2.out.2, fun h => by rw [HQe.out]; exact HQ.out⟩, by omega, ⟨_, _, rfl⟩⟩
              · have HL : Hid (Upto (fAb a b) (lay ou ⟨c, pp, q, n⟩) c q) := by
                  have := HStep.out
                  rw [HF.out, if_pos (by omega)] at this
                  exact this
                have hn0 : n ≠ 0 := by omega
                have hnm2 : decide (n ≤ m) = false := by simpa using hnm
                obtain ⟨ext, hext⟩ : ∃ ext, Hid (goesOn ou ⟨c, pp, q, n⟩ = ext) := ⟨_, rfl⟩
                have HBf : Hid (∀ x ∈ ou, Bef x ⟨c, pp, q, n⟩) := HBef.out n
                clear HStep HF HBef HW
                go_wp2_with fail
                refine KB.mono ?_
                rintro e w7 ⟨rfl, t7⟩
                have HN7 : Hid (NewT w1 w7 (.slice ao6 ou.length cap6) ou ∧ Touch (fun _ => False) wy w7) := ⟨HNy.out.on (HT6.out.trans t7), HT6.out.trans t7⟩
                have c0 := HKc.out w7 HN7.out.1.touch
                obtain ⟨c1, c2⟩ := HKe.out w7 HN7.out.2
                clear t7 KB j2 j3 HT6 HNy
                obtain ⟨L, hL⟩ : ∃ L, Hid (ou.length = L) := ⟨_, rfl⟩
                rw [hL.out] at hoy HN7 ⊢
                go_upto_region 14 with fail
                go_cut [93] (fun t wz => t = .bool ext ∧ ∃ r, wz = w7.drewN r)
                case first =>
                  by_cases hne7 : ou = []
                  · subst hne7
                    obtain rfl : false = ext := by rw [← hext.out]; rfl
                    obtain rfl : 0 = L := hL.out
                    go_wp2_with fail
                    go_quiet (fail)
                    go_wp2_with fail
                    go_meet
                    case rel => exact ⟨rfl, _, rfl⟩
                  · obtain ⟨pre, x, rfl⟩ := last_ofT ou hne7
                    have hiff := goesOn_last (p := pre) (HBf.out x (by simp))
                    rw [hext.out] at hiff
                    obtain rfl : pre.length + 1 = L := by rw [← hL.out]; simp
                    obtain ⟨g7, o7, cp7, e7, _, _, hb7, hrow7⟩ := HN7.out.1.sl.row hne7
                    obtain ⟨rfl, _, rfl⟩ : ao6 = some ⟨g7, o7, none⟩ ∧ True ∧ cap6 = cp7 := by simp only [Value.slice.injEq] at e7; exact ⟨e7.1, trivial, e7.2.2⟩
                    obtain ⟨x0, x1, x2, x3⟩ := hrow7 pre.length (by simp)
                    simp only [List.getElem_concat_length] at x0 x1 x2 x3
                    have q1 : IntKind.i64.wrap (pre.length : Int) = (pre.length : Int) := by simp [IntKind.wrap, IntKind.bits, IntKind.signed]; omega
                    have q2 : (0 : Int) ≤ (pre.length : Int) := by omega
                    have q3 : (pre.length : Int) < (pre.length : Int) + 1 := by omega
                    clear hrow7 e7 hne7 hb7 HL HBf HN7
                    obtain ⟨xc, xf, xt, xn⟩ := x
                    simp only at hiff x0 x1 x2 x3
                    by_cases h1 : xc = c
                    · by_cases h2 : xt = pp
                      · by_cases h3 : xn = n
                        · obtain rfl : ext = true := hiff.2 ⟨h1, h2, h3⟩
                          subst h1 h2 h3
                          clear hiff
                          go_wp2_with fail
                          go_quiet (fail)
                          go_wp2_with fail
                          go_meet
                          case rel => exact ⟨rfl, _, rfl⟩
                        · obtain rfl : ext = false := by
                            cases ext with
                            | false => rfl
                            | true => exact absurd (hiff.1 rfl).2.2 h3
                          have h31 : (xn == n) = false := by simpa using h3
                          have h32 : decide (xn = n) = false := by simpa using h3
                          subst h1 h2
                          clear hiff h3
                          go_wp2_with fail
                          go_quiet (fail)
                          go_wp2_with fail
                          go_meet
                          case rel => exact ⟨rfl, _, rfl⟩
                      · obtain rfl : ext = false := by
                          cases ext with
                          | false => rfl
                          | true => exact absurd (hiff.1 rfl).2.1 h2
                        have h31 : (xt == pp) = false := by simpa using h2
                        have h32 : decide (xt = pp) = false := by simpa using h2
                        subst h1
                        clear hiff h2
                        go_wp2_with fail
                        go_quiet (fail)
                        go_wp2_with fail
                        go_meet
                        case rel => exact ⟨rfl, _, rfl⟩
                    · obtain rfl : ext = false := by
                        cases ext with
                        | false => rfl
                        | true => exact absurd (hiff.1 rfl).1 h1
                      have h31 : (xc == c) = false := by simpa using h1
                      have h32 : decide (xc = c) = false := by simpa using h1
                      clear hiff h1
                      go_wp2_with fail
                      go_quiet (fail)
                      go_wp2_with fail
                      go_meet
                      case rel => exact ⟨rfl, _, rfl⟩
                case rest =>
                  obtain ⟨rfl, r, hr⟩ := hcut
                  obtain ⟨w8, hw8⟩ : ∃ w8, w8 = wc := ⟨_, rfl⟩
                  subst hw8
                  have t8 : Touch (fun _ => False) w7 w8 := by rw [hr]; exact ⟨rfl, rfl, rfl, Nat.le_refl _, fun _ _ _ => rfl⟩
                  have HN8 : Hid (NewT w1 w8 (.slice ao6 L cap6) ou ∧ Touch (fun _ => False) wy w8) := ⟨HN7.out.1.on t8, HN7.out.2.trans t8⟩
                  have HO8 : Hid (w8.ownsRow 0 23 1 (.slice (some ⟨ge, oe, none⟩) es.length cap4) es.length (cellsU es)) := ownU_touch HOy.out HN8.out.2 (fun _ _ => id)
                  have HKc8 : Hid (∀ W, Touch (fun _ => False) w8 W → W.cell? ⟨gc, oc + i, none⟩ = some (.int .u64 c) ∧ W.cell? ⟨ge, oe + k, none⟩ = some (.int .u64 pp) ∧ W.cell? ⟨ge, oe + (k + 1), none⟩ = some (.int .u64 q)) := fun W t => ⟨HKc.out W (HN8.out.1.touch.trans t), (HKe.out W (HN8.out.2.trans t)).1, (HKe.out W (HN8.out.2.trans t)).2⟩
                  clear hr t8 HN7 c0 c1 c2
                  cases ext with
                  | true =>
                    have hne7 : ou ≠ [] := by rintro rfl; have := hext.out; cases this
                    obtain ⟨pre, x, rfl⟩ := last_ofT ou hne7
                    obtain rfl : pre.length + 1 = L := by rw [← hL.out]; simp
                    have HLy : Hid (Upto (fAb a b) (pre ++ [⟨x.c, x.f, q, x.n⟩]) c q) := by
                      have := HL.out
                      rw [lay_on hn0 hext.out] at this
                      exact this
                    have hl7 : (pre ++ [x]).length = pre.length + 1 := by simp
                    have HN9 : NewT w1 w8 (.slice ao6 (pre ++ [x]).length cap6) (pre ++ [x]) := by rw [hl7]; exact HN8.out.1
                    obtain ⟨ao', cap', e', hg7, _, _⟩ := HN9.shape
                    simp only [Value.slice.injEq] at e'
                    obtain ⟨rfl, _, rfl⟩ := e'
                    obtain ⟨g7, rfl⟩ := hg7 (by simp)
                    obtain ⟨b7, o7, cp7, e7, _, _, hb7, hrow7⟩ := HN9.sl.row hne7
                    simp only [Value.slice.injEq, Option.some.injEq, Addr.mk.injEq] at e7
                    obtain ⟨⟨rfl, rfl, _⟩, _, rfl⟩ := e7
                    obtain ⟨x0, x1, x2, x3⟩ := hrow7 pre.length (by simp)
                    simp only [List.getElem_concat_length, Nat.zero_add] at x0 x1 x2 x3
                    have hfz : w8.frozen? ⟨g7, pre.length * 4 + 2, none⟩ = false := HN9.free rfl (by simp) _
                    have HSt : Hid (NewT w1 (w8.setCell ⟨g7, pre.length * 4 + 2, none⟩ (.int .u64 q)) (.slice (some ⟨g7, 0, none⟩) (pre.length + 1) cap6) (pre ++ [⟨x.c, x.f, q, x.n⟩])) := by
                      have h1 := OwnT.set HN9 rfl (pre.length * 4 + 2) (by rw [hl7]; omega) (.int .u64 q) rfl
                      have hx := cellsT_to (pre ++ [x]) pre.length (by simp) q
                      simp only [List.getElem_concat_length] at hx
                      rw [hx] at h1
                      have e : (pre ++ [x]).set pre.length ⟨x.c, x.f, q, x.n⟩ = pre ++ [⟨x.c, x.f, q, x.n⟩] := by simp
                      rw [e, hl7] at h1
                      show OwnT _ _ _ _ _
                      rw [show (pre ++ [(⟨x.c, x.f, q, x.n⟩ : Tn)]).length = pre.length + 1 from by simp]
                      exact h1
                    have HTs : Hid ((w8.setCell ⟨g7, pre.length * 4 + 2, none⟩ (.int .u64 q)).ownsRow 0 23 1 (.slice (some ⟨ge, oe, none⟩) es.length cap4) es.length (cellsU es)) := ownU_touch HO8.out (S := fun k => k = g7) ((Touch.refl _ w8).setCell _ _ fun _ => rfl) (fun k hk e => by subst e; exact own_apart HN9 HO8.out k hk rfl)
                    have hl9 : (pre ++ [(⟨x.c, x.f, q, x.n⟩ : Tn)]).length = pre.length + 1 := by simp
                    have HL9 : Hid ((pre ++ [(⟨x.c, x.f, q, x.n⟩ : Tn)]).length = pre.length + 1) := hl9
                    obtain ⟨d0, d1, d2⟩ := HKc8.out w8 (Touch.refl _ _)
                    have q1 : IntKind.i64.wrap (pre.length : Int) = (pre.length : Int) := by simp [IntKind.wrap, IntKind.bits, IntKind.signed]; omega
                    have q2 : (0 : Int) ≤ (pre.length : Int) := by omega
                    have q3 : (pre.length : Int) < (pre.length : Int) + 1 := by omega
                    have q4 : IntKind.i64.wrap ((k : Int) + 1) = (k : Int) + 1 := by simp [IntKind.wrap, IntKind.bits, IntKind.signed]; omega
                    clear hrow7 hne7 hb7 HL HBf HN8 HN9 hl7 hl9 HKc8 hext hL
                    go_wp2_with fail
                    go_roundg (es.length - 1 - (k + 1))
                    case measure => omega
                    case rel => exact ⟨k + 1, _, by omega, by go_num, ⟨HSt.out, HTs.out, fun h => by rw [HQe.out]; exact HLy.out⟩, by rw [HL9.out]; omega, ⟨_, _, by rw [HL9.out]⟩⟩
                  | false =>
                    have HLy : Hid (Upto (fAb a b) (ou ++ [⟨c, pp, q, n⟩]) c q) := by
                      have := HL.out
                      rw [lay_new hn0 hext.out] at this
                      exact this
                    have HN9 : NewT w1 w8 (.slice ao6 ou.length cap6) ou := by rw [hL.out]; exact HN8.out.1
                    have hou : ou.length ≤ 1073741824 := by rw [hL.out]; omega
                    obtain ⟨v9, w9, hrun, hN10, hgr⟩ := NewT.app1 (HN9.on (Touch.refl _ w8).drew) ⟨c, pp, q, n⟩ hou
                    rw [hL.out] at hrun
                    have hrun2 : (Builtin.append_ #[22, 22] 22 #[.slice ao6 L cap6, .slice (some ⟨w8.heap.size, 0, none⟩) 1 1]).run Try.prog ((w8.alloc (tnO ⟨c, pp, q, n⟩)).drew) = .ok v9 w9 := hrun
                    have HO9 : Hid (w9.ownsRow 0 23 1 (.slice (some ⟨ge, oe, none⟩) es.length cap4) es.length (cellsU es)) := ownU_touch HO8.out (S := fun k => (Value.slice ao6 ou.length cap6).ownBlock = some k) ((((Touch.refl _ w8).drew).alloc _).grown hgr fun i e _ => e) (fun k hk => own_apart HN9 HO8.out k hk)
                    have hl9 : (ou ++ [(⟨c, pp, q, n⟩ : Tn)]).length = L + 1 := by simp [hL.out]
                    have HN11 : Hid (NewT w1 w9 v9 (ou ++ [⟨c, pp, q, n⟩])) := hN10
                    obtain ⟨ao9, cap9, hv9, _⟩ := hN10.shape
                    rw [hl9] at hv9
                    subst hv9
                    have HL9 : Hid ((ou ++ [(⟨c, pp, q, n⟩ : Tn)]).length = L + 1) := hl9
                    have S0 := HKc8.out w8 (Touch.refl _ _)
                    have S1 := HKc8.out w8.drew (Touch.refl _ _).drew
                    have S2 := HKc8.out (w8.alloc (tnO ⟨c, pp, q, n⟩)).drew ((Touch.refl _ _).alloc _).drew
                    have S3 : w9.cell? ⟨gc, oc + i, none⟩ = some (.int .u64 c) ∧ w9.cell? ⟨ge, oe + k, none⟩ = some (.int .u64 pp) ∧ w9.cell? ⟨ge, oe + (k + 1), none⟩ = some (.int .u64 q) := by
                      refine ⟨HKc.out w9 hN10.touch, ?_⟩
                      have hb9 : w9.heap[ge]? = w8.heap[ge]? := by
                        have t9 := ((((Touch.refl (fun k => (Value.slice ao6 ou.length cap6).ownBlock = some k) w8).drew).alloc (tnO ⟨c, pp, q, n⟩)).grown hgr fun i e _ => e)
                        exact t9.block ge (World.block_lt_of_cell? _ _ S0.2.1) (own_apart HN9 HO8.out ge rfl)
                      exact ⟨by rw [World.cell?_of_block hb9]; exact S0.2.1, by rw [World.cell?_of_block hb9]; exact S0.2.2⟩
                    have q4 : IntKind.i64.wrap ((k : Int) + 1) = (k : Int) + 1 := by simp [IntKind.wrap, IntKind.bits, IntKind.signed]; omega
                    have i6 : (0 : Int) ≤ (k : Int) + 1 := by omega
                    clear hrun hN10 hgr HN9 HL HBf HN8 hl9 HKc8 hext hou HO8
                    go_wp2_with fail
                    go_region_held3 (fun W => W.cell? ⟨gc, oc + i, none⟩ = some (.int .u64 c) ∧ W.cell? ⟨ge, oe + k, none⟩ = some (.int .u64 pp) ∧ W.cell? ⟨ge, oe + (k + 1), none⟩ = some (.int .u64 q)) (first | assumption)
                      (first | (refine step_append_runT (by rfl) _ _ rfl _ _ _ rfl rfl hrun2 ?_))
                    all_goals (try go_wp2_with fail)
                    all_goals (go_roundg (es.length - 1 - (k + 1)))
                    all_goals (first | (case measure => omega) | skip)
                    all_goals exact ⟨k + 1, _, by omega, by go_num, ⟨HN11.out, HO9.out, fun h => by rw [HQe.out]; exact HLy.out⟩, by rw [HL9.out]; omega, ⟨_, _, by rw [HL9.out]⟩⟩
          · have hke : k = es.length - 1 := by omega
            have HQ : Hid (AtC (fAb a b) cs (i + 1) ou) := by
              subst hke
              exact HNext.out ou _ (HI.out.2.2 (by omega)) fun j hj => HE.out.high (by omega) j hj
            have HNq : Hid (NewT w1 wy (.slice ao6 ou.length cap6) ou) := HI.out.1
            have hk1 : ¬ ((k : Int) + 1 < (es.length : Int)) := by omega
            have hoq : ou.length ≤ (i + 1) * 4000 := by omega
            clear HI HNext HE hke
            go_wp2_with fail
            go_roundg (cs.length - (i + 1))
            case measure => omega
            case rel => exact ⟨i + 1, ou, by omega, by go_num, ⟨HNq.out, HQ.out⟩, hoq, ⟨_, _, rfl⟩⟩
    · have hil : i = cs.length := by omega
      subst hil
      have HQ : Hid (NewT w wx (.slice ao5 out.length cap5) out ∧ Form out (fAb a b) ∧ out.length ≤ 4000000) := ⟨H.out.1.since HT1.out, H.out.2.2 rfl, by omega⟩
      clear H
      go_wp2_with fail
      refine bodyPost_ret (v := .slice ao5 out.length cap5) (by simp [results, Try.results19, go_sem]) rfl ?_
      first | exact ⟨_, _, rfl, HQ.out⟩ | exact ⟨_, rfl, _, HQ.out⟩
end Go.Proofs.Ytccgiabihagjoaa
