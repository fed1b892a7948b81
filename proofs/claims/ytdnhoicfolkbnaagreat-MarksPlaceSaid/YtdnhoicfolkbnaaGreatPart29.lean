/- The document's tree of units (quireref9): among. -/
import Derived.Test.YtdnhoicfolkbnaaGreatRqE
import Derived.Test.YtdnhoicfolkbnaaGreatPart26
namespace Go.Proofs.YtdnhoicfolkbnaaGreat
open Go.RowKit
set_option linter.unusedVariables false
set_option linter.unusedSimpArgs false
set_option maxRecDepth 100000

theorem take_while_lt {α : Type} (p : α → Bool) : ∀ (l : List α) (j : Nat) (h : j < l.length), j < (l.takeWhile p).length → p l[j] = true
  | x :: l, j, h, hj => by
    by_cases hb : p x = true
    · simp only [List.takeWhile_cons, hb, if_true] at hj
      cases j with
      | zero => exact hb
      | succ j => exact take_while_lt p l j (by simpa using h) (by simpa using hj)
    · simp [hb] at hj
theorem take_while_at {α : Type} (p : α → Bool) : ∀ (l : List α) (h : (l.takeWhile p).length < l.length), p l[(l.takeWhile p).length] = false
  | x :: l, h => by
    by_cases hb : p x = true
    · have e : ((x :: l).takeWhile p).length = (l.takeWhile p).length + 1 := by simp [hb]
      simp only [e]
      exact take_while_at p l (by rw [e] at h; simpa using h)
    · have e : ((x :: l).takeWhile p).length = 0 := by simp [hb]
      simp only [e]
      simpa using hb
theorem take_while_le {α : Type} (p : α → Bool) (l : List α) : (l.takeWhile p).length ≤ l.length := (List.takeWhile_sublist _).length_le
set_option maxHeartbeats 8000000 in
theorem qamong_any {w : World} {b : Nat} {r : RS} (h : RqAt w b r) (v : Value) (l : List Nat) (hv : SlJ w v (ints l)) (me : Nat) (hme : me < r.l.length) (hls : ∀ x ∈ l, x < r.l.length) (hl : r.l.length ≤ 1073741820) (hll : l.length ≤ 1073741820) (ho : r.order.length ≤ 1073741820) :
    Calls Tryz.prog 63 #[qP b, v, iV (me : Int)] w fun e w' => ∃ v', e = .returned v' ∧ NewJ w w' v' (ints (r.amongL l me)) := by
  obtain ⟨I, hI⟩ : ∃ I, Hid (I = (l.takeWhile fun x => r.farther x me).length) := ⟨_, Eq.refl _⟩
  have hIl : I ≤ l.length := by rw [hI.out]; exact take_while_le _ _
  have HA : Hid (ints (r.amongL l me) = (ints l).take I ++ (me : Int) :: (ints l).drop I) := by
    unfold RS.amongL withinL ints
    rw [← hI.out, List.map_append, List.map_cons, List.map_take, List.map_drop]; rfl
  have HW : Hid (∀ W, Touch (fun _ => False) w W → Calls Tryz.prog 62 #[v, iV (I : Int), iV (me : Int)] W fun e w' => ∃ v', e = .returned v' ∧ NewJ W w' v' ((ints l).take I ++ (me : Int) :: (ints l).drop I)) := fun W t => qwithin_any (hv.touch t) I (by simpa using hIl) _ (by simpa using hll)
  have HFa : Hid (∀ W, Touch (fun _ => False) w W → ∀ j (hj : j < l.length), Calls Tryz.prog 106 #[qP b, iV ((l[j] : Nat) : Int), iV (me : Int)] W fun e w' => e = .returned (.bool (r.farther l[j] me)) ∧ Touch (fun _ => False) W w') := fun W t j hj => qfarther_any (h.keep t) _ _ (hls _ (List.getElem_mem _)) hme (by omega) (by omega)
  have HLt : Hid (∀ j (hj : j < l.length), j < I → r.farther l[j] me = true) := fun j hj hji => take_while_lt _ l j hj (by rw [← hI.out]; exact hji)
  have HAt : Hid (∀ (hj : I < l.length), r.farther l[I] me = false) := fun hj => by
    have := take_while_at (fun x => r.farther x me) l (by rw [← hI.out]; exact hj)
    simpa only [← hI.out] using this
  have HC : Hid (∀ W, Touch (fun _ => False) w W → ∃ ao cap, v = .slice ao l.length cap ∧ (0 < l.length → ∃ g o, ao = some ⟨g, o, none⟩ ∧ ∀ i (hi : i < l.length), W.cell? ⟨g, o + i, none⟩ = some (iV (l[i] : Int)))) := fun W t => (hv.touch t).nums
  obtain ⟨ao, cap, rfl, -⟩ := HC.out w (Touch.refl _ _)
  rw [HA.out]
  generalize (ints l).take I ++ (me : Int) :: (ints l).drop I = out at *
  clear h hv hls HA hI
  go_enter Tryz.func63, Tryz.ntmps63
  go_wp2_with fail
  go_loopw [7] (fun i wr => ∃ j : Nat, i = .int .i64 (j : Int) ∧ j ≤ I ∧ Hid (Touch (fun _ => False) w wr)) (fun i _ => (I - intOf i).toNat)
  case atStart => exact ⟨0, rfl, Nat.zero_le _, Touch.refl _ _⟩
  case round =>
    obtain ⟨j, rfl, hj, HJ⟩ := hrel
    by_cases hlt : j < l.length
    · obtain ⟨ao', cap', e, q2⟩ := HC.out _ HJ.out
      obtain ⟨g, o, rfl, q3⟩ := q2 (by omega)
      obtain ⟨rfl, -, rfl⟩ : ao = some ⟨g, o, none⟩ ∧ _ ∧ cap = cap' := by simpa only [Value.slice.injEq] using e
      have c0 := q3 j hlt
      clear q2 q3 e
      have HF1 := HFa.out _ HJ.out j hlt
      have l0 : (j : Int) < (l.length : Int) := by omega
      by_cases hji : j < I
      · have HR := HLt.out j hlt hji
        rw [HR] at HF1
        clear HR HLt HAt HFa
        generalize l[j] = x at *
        have HF2 : Hid (Calls Tryz.prog 106 #[qP b, iV (x : Int), iV (me : Int)] wr fun e w' => e = .returned (.bool true) ∧ Touch (fun _ => False) wr w') := HF1
        clear HF1
        go_wp2_with fail
        refine HF2.out.mono ?_
        rintro e w3 ⟨rfl, t3⟩
        go_wp2_with fail
        exact ⟨⟨j + 1, by go_num, by omega, HJ.out.trans t3⟩, by simp [intOf]; omega⟩
      · have hjI : j = I := by omega
        subst hjI
        have HR := HAt.out hlt
        rw [HR] at HF1
        clear HR HLt HAt HFa
        generalize l[j] = x at *
        have HF2 : Hid (Calls Tryz.prog 106 #[qP b, iV (x : Int), iV (me : Int)] wr fun e w' => e = .returned (.bool false) ∧ Touch (fun _ => False) wr w') := HF1
        clear HF1
        go_wp2_with fail
        refine HF2.out.mono ?_
        rintro e w3 ⟨rfl, t3⟩
        have HT3 : Hid (Touch (fun _ => False) w w3) := HJ.out.trans t3
        clear t3
        go_wp2_with fail
        refine (HW.out _ HT3.out).mono ?_
        rintro e w4 ⟨v', rfl, n4⟩
        have HN : Hid (NewJ w w4 v' out) := n4.since HT3.out
        clear n4
        go_wp2_with fail
        go_ret
        exact ⟨_, rfl, HN.out⟩
    · have hjI : j = I := by omega
      subst hjI
      have hjl : j = l.length := by omega
      clear HLt HAt HFa HC
      generalize l.length = n at *
      subst hjl
      go_wp2_with fail
      refine (HW.out _ HJ.out).mono ?_
      rintro e w4 ⟨v', rfl, n4⟩
      have HN : Hid (NewJ w w4 v' out) := n4.since HJ.out
      clear n4
      go_wp2_with fail
      go_ret
      exact ⟨_, rfl, HN.out⟩
end Go.Proofs.YtdnhoicfolkbnaaGreat

/- The document's tree of units (quireref9), mathematics alone: what one more node does to the order. -/
namespace Go.Proofs.YtdnhoicfolkbnaaGreat
set_option linter.unusedVariables false
set_option linter.unusedSimpArgs false

/-- Children that are there, and so are theirs, to a depth. -/
def RS.Deep (r : RS) : Nat → List Nat → Prop
  | 0, l => l = []
  | f + 1, l => ∀ x ∈ l, x < r.l.length ∧ r.Deep f (r.nd x).lefts ∧ r.Deep f (r.nd x).more
theorem RS.walk_cons (r : RS) (f : Nat) (x : Nat) (l : List Nat) : r.walk (f + 1) (x :: l) = (r.walk f (r.nd x).lefts ++ x :: r.walk f (r.nd x).more) ++ r.walk (f + 1) l := by
  simp only [RS.walk]; rw [List.flatMap_cons]
theorem RS.walk_split (r : RS) (f : Nat) (l : List Nat) (j : Nat) (hj : j < l.length) : r.walk (f + 1) (l.take (j + 1)) = r.walk (f + 1) (l.take j) ++ r.walk f (r.nd l[j]).lefts ++ [l[j]] ++ r.walk f (r.nd l[j]).more := by
  simp only [RS.walk]
  rw [List.take_succ_eq_append_getElem hj, List.flatMap_append]
  simp
theorem RS.walk_all (r : RS) (f : Nat) (l : List Nat) (j : Nat) : r.walk (f + 1) l = r.walk (f + 1) (l.take j) ++ r.walk (f + 1) (l.drop j) := by
  simp only [RS.walk]
  rw [← List.flatMap_append, List.take_append_drop]
theorem RS.walk_nil (r : RS) : ∀ f, r.walk f [] = []
  | 0 => rfl
  | f + 1 => rfl
theorem RS.walk_fuel (r : RS) : ∀ (f : Nat) (l : List Nat), r.Deep f l → r.walk (f + 1) l = r.walk f l
  | 0, l, h => by
    have : l = [] := h
    subst this; rfl
  | f + 1, [], h => rfl
  | f + 1, x :: l, h => by
    obtain ⟨_, h1, h2⟩ := h x (by simp)
    rw [RS.walk_cons, RS.walk_cons, RS.walk_fuel r f _ h1, RS.walk_fuel r f _ h2, RS.walk_fuel r (f + 1) l fun y hy => h y (List.mem_cons_of_mem _ hy)]
theorem RS.deep_up (r : RS) : ∀ (f : Nat) (l : List Nat), r.Deep f l → r.Deep (f + 1) l
  | 0, l, h => by
    have : l = [] := h
    subst this; exact fun x hx => (List.not_mem_nil hx).elim
  | f + 1, l, h => fun x hx => ⟨(h x hx).1, RS.deep_up r f _ (h x hx).2.1, RS.deep_up r f _ (h x hx).2.2⟩
/-- A list without me. -/
abbrev offL (me : Nat) (l : List Nat) : List Nat := l.filter fun x => x != me
/-- s is r with one more node, me, which has no children. -/
structure More (r s : RS) (me : Nat) : Prop where
  num : me = r.l.length
  none : (s.nd me).lefts = [] ∧ (s.nd me).more = []
  lefts : ∀ x, x < r.l.length → offL me (s.nd x).lefts = (r.nd x).lefts
  more : ∀ x, x < r.l.length → offL me (s.nd x).more = (r.nd x).more
theorem More.walk {r s : RS} {me : Nat} (h : More r s me) : ∀ (f : Nat) (l : List Nat), r.Deep f (offL me l) → offL me (s.walk (f + 1) l) = r.walk f (offL me l)
  | f, [], _ => by rw [RS.walk_nil]; show [] = r.walk f []; rw [RS.walk_nil]
  | 0, x :: l, hd => by
    have hd' : offL me (x :: l) = [] := hd
    by_cases hx : x = me
    · subst hx
      have e : offL x (x :: l) = offL x l := by simp
      have ih := More.walk h 0 l (by rw [e] at hd'; exact hd')
      rw [RS.walk_cons, e, ← ih]
      simp [RS.walk]
    · simp [hx] at hd'
  | f + 1, x :: l, hd => by
    by_cases hx : x = me
    · subst hx
      have e : offL x (x :: l) = offL x l := by simp
      have ih := More.walk h (f + 1) l (by rw [e] at hd; exact hd)
      rw [RS.walk_cons, e, ← ih, h.none.1, h.none.2, RS.walk_nil]
      simp
    · have e : offL me (x :: l) = x :: offL me l := by simp [hx]
      rw [e] at hd ⊢
      obtain ⟨h0, h1, h2⟩ := hd x (by simp)
      have ih := More.walk h (f + 1) l fun y hy => hd y (List.mem_cons_of_mem _ hy)
      have a1 := More.walk h f (s.nd x).lefts (by rw [h.lefts x h0]; exact h1)
      have a2 := More.walk h f (s.nd x).more (by rw [h.more x h0]; exact h2)
      rw [h.lefts x h0] at a1
      rw [h.more x h0] at a2
      rw [RS.walk_cons, RS.walk_cons, ← a1, ← a2, ← ih]
      simp [hx]
  termination_by f l => (f, l.length)
/-- How often me stands among a node's children. -/
def cntC (s : RS) (me x : Nat) : Nat := (s.nd x).lefts.count me + (s.nd x).more.count me
theorem More.count {r s : RS} {me : Nat} (h : More r s me) : ∀ (f : Nat) (l : List Nat), r.Deep f (offL me l) → (s.walk (f + 1) l).count me = l.count me + ((r.walk f (offL me l)).map (cntC s me)).sum
  | f, [], _ => by rw [RS.walk_nil]; show _ = 0 + ((r.walk f []).map _).sum; rw [RS.walk_nil]; rfl
  | 0, x :: l, hd => by
    have hd' : offL me (x :: l) = [] := hd
    by_cases hx : x = me
    · subst hx
      have e : offL x (x :: l) = offL x l := by simp
      have ih := More.count h 0 l (by rw [e] at hd'; exact hd')
      rw [RS.walk_cons, e]
      simp only [RS.walk, List.nil_append, List.cons_append, List.count_cons_self]
      simp only [RS.walk, List.nil_append] at ih
      rw [ih]; omega
    · simp [hx] at hd'
  | f + 1, x :: l, hd => by
    by_cases hx : x = me
    · subst hx
      have e : offL x (x :: l) = offL x l := by simp
      have ih := More.count h (f + 1) l (by rw [e] at hd; exact hd)
      rw [RS.walk_cons, e, h.none.1, h.none.2, RS.walk_nil, List.nil_append, List.count_append, ih, List.count_cons_self, List.count_cons_self, List.count_nil]
      omega
    · have e : offL me (x :: l) = x :: offL me l := by simp [hx]
      rw [e] at hd ⊢
      obtain ⟨h0, h1, h2⟩ := hd x (by simp)
      have ih := More.count h (f + 1) l fun y hy => hd y (List.mem_cons_of_mem _ hy)
      have a1 := More.count h f (s.nd x).lefts (by rw [h.lefts x h0]; exact h1)
      have a2 := More.count h f (s.nd x).more (by rw [h.more x h0]; exact h2)
      rw [h.lefts x h0] at a1
      rw [h.more x h0] at a2
      rw [RS.walk_cons, RS.walk_cons, List.count_append, List.count_append, List.count_cons_of_ne hx, List.count_cons_of_ne hx, a1, a2, ih]
      simp only [List.map_append, List.map_cons, List.sum_append, List.sum_cons, cntC]
      omega
  termination_by f l => (f, l.length)
end Go.Proofs.YtdnhoicfolkbnaaGreat

/- The document's tree of units (quireref9): walk. -/
namespace Go.Proofs.YtdnhoicfolkbnaaGreat
open Go.RowKit
set_option linter.unusedVariables false
set_option linter.unusedSimpArgs false
set_option maxRecDepth 100000

theorem RS.walk_ge (r : RS) : ∀ (f : Nat) (l : List Nat), r.Deep f l → l.length ≤ (r.walk f l).length
  | 0, l, h => by
    have : l = [] := h
    subst this; exact Nat.zero_le _
  | f + 1, [], h => Nat.zero_le _
  | f + 1, x :: l, h => by
    have ih := RS.walk_ge r (f + 1) l fun y hy => h y (List.mem_cons_of_mem _ hy)
    have e : r.walk (f + 1) (x :: l) = (r.walk f (r.nd x).lefts ++ x :: r.walk f (r.nd x).more) ++ r.walk (f + 1) l := by simp only [RS.walk]; rw [List.flatMap_cons]
    rw [e, List.length_append, List.length_append, List.length_cons, List.length_cons]
    omega
theorem ints_app (a b : List Nat) : ints (a ++ b) = ints a ++ ints b := by simp
set_option maxHeartbeats 8000000 in
theorem qwalk_any {W0 : World} {b : Nat} {r : RS} (h : RqAt W0 b r) : ∀ (f : Nat) (w : World) (v vo : Value) (l out : List Nat), SlJ W0 v (ints l) → NewJ W0 w vo (ints out) → r.Deep f l → out.length + (r.walk f l).length ≤ 1073741820 →
    Calls Tryz.prog 64 #[qP b, v, vo] w fun e w' => ∃ v', e = .returned v' ∧ NewJ W0 w' v' (ints (out ++ r.walk f l)) := by
  intro f
  induction f with
  | zero =>
    intro w v vo l out hv hn hd hlen
    have hl : l = [] := hd
    subst hl
    obtain ⟨ao, cap, rfl, -⟩ := hv.shape
    have HN : Hid (NewJ W0 w vo (ints (out ++ r.walk 0 []))) := by
      have e : out ++ r.walk 0 [] = out := List.append_nil _
      rw [e]; exact hn
    have e0 : (ints []).length = 0 := rfl
    rw [e0]
    generalize ints (out ++ r.walk 0 []) = res at *
    clear hv hn hd hlen h
    go_enter Tryz.func64, Tryz.ntmps64
    go_wp2_with fail
    go_loopw [2, 7] (fun s i wr => s = vo ∧ i = .int .i64 0 ∧ wr = w) (fun _ _ _ => 0)
    case atStart => exact ⟨rfl, rfl, rfl⟩
    case round =>
      obtain ⟨rfl, rfl, hwr⟩ := hrel
      rw [hwr]
      go_wp2_with fail
      go_ret
      exact ⟨_, rfl, HN.out⟩
  | succ f ih =>
    intro w v vo l out hv hn hd hlen
    have hll := RS.walk_ge r (f + 1) l hd
    have HD : Hid (∀ j (hj : j < l.length), l[j] < r.l.length ∧ r.Deep f (r.nd l[j]).lefts ∧ r.Deep f (r.nd l[j]).more) := fun j hj => hd _ (List.getElem_mem _)
    have HB : Hid (∀ j (hj : j < l.length), (out ++ r.walk (f + 1) (l.take j)).length + (r.walk f (r.nd l[j]).lefts).length + 1 + (r.walk f (r.nd l[j]).more).length ≤ 1073741820) := fun j hj => by
      have e1 := RS.walk_all r f l (j + 1)
      have e2 := RS.walk_split r f l j hj
      have e3 := congrArg List.length e1
      have e4 := congrArg List.length e2
      simp only [List.length_append, List.length_cons, List.length_nil] at e3 e4 ⊢
      omega
    have HS : Hid (∀ j (hj : j < l.length), out ++ r.walk (f + 1) (l.take j) ++ r.walk f (r.nd l[j]).lefts ++ [l[j]] ++ r.walk f (r.nd l[j]).more = out ++ r.walk (f + 1) (l.take (j + 1))) := fun j hj => by
      rw [RS.walk_split r f l j hj]; simp
    have HE : Hid (out ++ r.walk (f + 1) (l.take l.length) = out ++ r.walk (f + 1) l) := congrArg (fun z => out ++ r.walk (f + 1) z) List.take_length
    have H0 : Hid (NewJ W0 w vo (ints (out ++ r.walk (f + 1) (l.take 0)))) := by
      have e : out ++ r.walk (f + 1) (l.take 0) = out := List.append_nil _
      rw [e]; exact hn
    have HC : Hid (∀ j (hj : j < l.length), ∃ gn cap g o ao capl lv mv, v = .slice ao l.length capl ∧ ao = some ⟨g, o, none⟩ ∧ SlJ W0 lv (ints (r.nd l[j]).lefts) ∧ SlJ W0 mv (ints (r.nd l[j]).more) ∧ ∀ W, Touch (fun _ => False) W0 W → W.cell? ⟨b, 0, none⟩ = some (.slice (some ⟨gn, 0, none⟩) r.l.length cap) ∧ W.cell? ⟨g, o + j, none⟩ = some (iV ((l[j] : Nat) : Int)) ∧ W.cell? ⟨gn, l[j] * 10 + 8, none⟩ = some lv ∧ W.cell? ⟨gn, l[j] * 10 + 9, none⟩ = some mv) := fun j hj => by
      have hx := (HD.out j hj).1
      obtain ⟨aon, cap, h1, h2⟩ := h.nodes
      obtain ⟨gn, rfl, h3⟩ := h2 (by omega)
      obtain ⟨ao, capl, e, q2⟩ := hv.nums
      obtain ⟨g, o, rfl, q3⟩ := q2 (by omega)
      obtain ⟨lv, k1, k2⟩ := (h3 _ hx).c8
      obtain ⟨mv, k3, k4⟩ := (h3 _ hx).c9
      have X : ∀ {W : World} {p : Addr} {y : Value}, Touch (fun _ => False) W0 W → W0.cell? p = some y → W.cell? p = some y := fun {W p y} t hc => by
        rw [World.cell?_of_block (t.block _ (World.block_lt_of_cell? _ _ hc) id)]; exact hc
      exact ⟨gn, cap, g, o, _, capl, lv, mv, e, rfl, k2, k4, fun W t => ⟨X t h1, X t (q3 j hj), X t k1, X t k3⟩⟩
    have HI : Hid (∀ (w : World) (v vo : Value) (l out : List Nat), SlJ W0 v (ints l) → NewJ W0 w vo (ints out) → r.Deep f l → out.length + (r.walk f l).length ≤ 1073741820 → Calls Tryz.prog 64 #[qP b, v, vo] w fun e w' => ∃ v', e = .returned v' ∧ NewJ W0 w' v' (ints (out ++ r.walk f l))) := ih
    have bz : ∀ (W : World) (m : Int), (Instr.buildSlice 73 1 #[(0, iV m)]).run Tryz.prog W = .ok (.slice (some ⟨W.heap.size, 0, none⟩) 1 1) (W.alloc (jO m)) := fun W m => by kernel_rfl
    have hv0 : ∃ ao cap, v = .slice ao l.length cap := by
      obtain ⟨ao, cap, e, -⟩ := hv.nums
      exact ⟨ao, cap, e⟩
    obtain ⟨ao0, cap0, rfl⟩ := hv0
    have hl2 : l.length ≤ 1073741820 := by omega
    clear h hv hn hd hlen hll ih
    go_enter Tryz.func64, Tryz.ntmps64
    go_wp2_with fail
    go_loopw [2, 7] (fun s i wr => ∃ j : Nat, i = .int .i64 (j : Int) ∧ j ≤ l.length ∧ Hid (NewJ W0 wr s (ints (out ++ r.walk (f + 1) (l.take j))))) (fun _ i _ => (l.length - intOf i).toNat)
    case atStart => exact ⟨0, rfl, Nat.zero_le _, H0.out⟩
    case round =>
      obtain ⟨j, rfl, hj, HJ⟩ := hrel
      by_cases hlt : j < l.length
      · obtain ⟨gn, capn, g, o, ao, capl, lv, mv, e, rfl, kl, km, kc⟩ := HC.out j hlt
        obtain ⟨rfl, -, rfl⟩ : ao0 = some ⟨g, o, none⟩ ∧ _ ∧ cap0 = capl := by simpa only [Value.slice.injEq] using e
        obtain ⟨hx, hd1, hd2⟩ := HD.out j hlt
        have hb := HB.out j hlt
        have hs := HS.out j hlt
        generalize out ++ r.walk (f + 1) (l.take j) = pre at *
        have HL : Hid (∀ W s, NewJ W0 W s (ints pre) → Calls Tryz.prog 64 #[qP b, lv, s] W fun e w' => ∃ v', e = .returned v' ∧ NewJ W0 w' v' (ints (pre ++ r.walk f (r.nd l[j]).lefts))) := fun W s n => HI.out W lv s _ pre kl n hd1 (by omega)
        have HM : Hid (∀ W s, NewJ W0 W s (ints (pre ++ r.walk f (r.nd l[j]).lefts ++ [l[j]])) → Calls Tryz.prog 64 #[qP b, mv, s] W fun e w' => ∃ v', e = .returned v' ∧ NewJ W0 w' v' (ints (out ++ r.walk (f + 1) (l.take (j + 1))))) := fun W s n => by
          have := HI.out W mv s _ _ km n hd2 (by simp only [List.length_append, List.length_cons, List.length_nil]; omega)
          rw [hs] at this
          exact this
        have HP : Hid (∀ W s, NewJ W0 W s (ints (pre ++ r.walk f (r.nd l[j]).lefts)) → ∃ v' w', (Builtin.append_ #[73, 73] 73 #[s, .slice (some ⟨W.heap.size, 0, none⟩) 1 1]).run Tryz.prog (W.alloc (jO ((l[j] : Nat) : Int))) = .ok v' w' ∧ NewJ W0 w' v' (ints (pre ++ r.walk f (r.nd l[j]).lefts ++ [l[j]]))) := fun W s n => by
          obtain ⟨v', w', h1, h2, -⟩ := n.app1 ((l[j] : Nat) : Int) (by simp only [ints, List.length_map, List.length_append]; omega)
          exact ⟨v', w', h1, by rw [ints_app (pre ++ r.walk f (r.nd l[j]).lefts) [l[j]]]; exact h2⟩
        have HK : Hid (∀ W, Touch (fun _ => False) W0 W → W.cell? ⟨b, 0, none⟩ = some (.slice (some ⟨gn, 0, none⟩) r.l.length capn) ∧ W.cell? ⟨g, o + j, none⟩ = some (iV ((l[j] : Nat) : Int)) ∧ W.cell? ⟨gn, l[j] * 10 + 8, none⟩ = some lv ∧ W.cell? ⟨gn, l[j] * 10 + 9, none⟩ = some mv) := kc
        have l0 : (j : Int) < (l.length : Int) := by omega
        have l1 : ((l[j] : Nat) : Int) < (r.l.length : Int) := by omega
        clear e kl km kc HC HD HB HS hd1 hd2 hb hs hx HI HE H0
        generalize ints (pre ++ r.walk f (r.nd l[j]).lefts ++ [l[j]]) = L2 at *
        generalize ints (pre ++ r.walk f (r.nd l[j]).lefts) = L1 at *
        generalize l[j] = x at *
        generalize r.l.length = nn at *
        obtain ⟨k1, k2, k3, k4⟩ := HK.out _ HJ.out.touch
        have bx := fun W => bz W (x : Int)
        clear bz
        go_upto_region 4 with fail
        go_cut [2] (fun s wx => ∃ v1, s = v1 ∧ Hid (NewJ W0 wx v1 L1))
        case first =>
          go_region_with (go_at_call 64; (with_reducible refine (HL.out _ _ (HJ.out.on ((Touch.refl _ _).drew))).mono ?_); rintro e w1 ⟨v1, rfl, n1⟩)
          all_goals (try go_wp2_with fail)
          all_goals go_meet
          all_goals (case rel => exact ⟨_, rfl, n1⟩)
        case rest =>
          obtain ⟨v1, ev1, H1⟩ := hcut
          rw [ev1]
          clear ev1
          obtain ⟨w1, hw1⟩ : ∃ we, we = wc := ⟨_, rfl⟩
          subst hw1
          clear HL k1 k2 k3 k4
          obtain ⟨k1, k2, k3, k4⟩ := HK.out _ H1.out.touch
          obtain ⟨v2, w2, hr2, n2⟩ := HP.out _ _ H1.out
          have HR2 : Hid ((Builtin.append_ #[73, 73] 73 #[v1, .slice (some ⟨w1.heap.size, 0, none⟩) 1 1]).run Tryz.prog (w1.alloc (jO (x : Int))) = .ok v2 w2) := hr2
          have H2 : Hid (NewJ W0 w2 v2 L2) := n2
          clear hr2 n2 HP
          go_upto_region 6 with (first | (at_builtin; refine wpList_append_runJ rfl _ _ rfl _ _ _ rfl rfl HR2.out ?_))
          clear k1 k2 k3 k4 HR2
          obtain ⟨k1, k2, k3, k4⟩ := HK.out _ H2.out.touch
          go_region_with (go_at_call 64; (with_reducible refine (HM.out _ _ (H2.out.on ((Touch.refl _ _).drew))).mono ?_); rintro e w3 ⟨v3, rfl, n3⟩)
          all_goals (try go_wp2_with fail)
          all_goals exact ⟨⟨j + 1, by go_num, by omega, n3⟩, by simp [intOf]; omega⟩
      · have hjl : j = l.length := by omega
        subst hjl
        rw [HE.out] at HJ
        clear HC HD HB HS HI HE H0 bz
        generalize l.length = n at *
        go_wp2_with fail
        go_ret
        exact ⟨_, rfl, HJ.out⟩
end Go.Proofs.YtdnhoicfolkbnaaGreat
