/- Entries that are looked at (quirelaw14.entries). -/
import Derived.Test.YtijkekkjiboomaaGreatDoorOwn1
import Derived.Lib.ItoaLen
import Derived.Test.YtijkekkjiboomaaGreatDoorVxN
namespace Go.Proofs.YtijkekkjiboomaaGreatDoor
open Go.RowKit Go.Maps
set_option linter.unusedVariables false
set_option linter.unusedSimpArgs false
set_option maxRecDepth 100000

/-- The entries l lie in w as v, down to a depth below f, and fit. -/
def FitL (w : World) : Nat → Value → List En → Prop
  | 0, v, l => SlE w v l ∧ l = []
  | f + 1, v, l => SlE w v l ∧ ∀ e ∈ l, e.v.fits ∧ e.v.s.size ≤ 1048576 ∧ e.ky.size ≤ 1048576 ∧ FitL w f e.raw.val e.kids
theorem FitL.sl {w : World} {f : Nat} {v : Value} {l : List En} (g : FitL w f v l) : SlE w v l := by
  cases f with
  | zero => exact g.1
  | succ f => exact g.1
/-- What entries answers. -/
def EnPost (w0 : World) (h d : Nat) (v : Value) (l : List En) (e : Ending) (w' : World) : Prop :=
  ∃ n : Nat, e = .returned (.int .i64 (n : Int)) ∧ n ≤ 100000 * (h + 1) ∧ (n ≤ 300 → GoodL w0 h v l ∧ (ensT d l).length ≤ 400 * n) ∧ Touch (fun _ => False) w0 w'
theorem textL_len (v : V) (h : v.fits) : (textL v).length ≤ 2 * v.s.size + 30 := by
  unfold textL
  split
  · simp
  split
  · split <;> simp
  split
  · have := Go.Lib.itoa_length_le v.n h.n0 (by have := h.n1; omega); omega
  split
  · rw [List.length_cons, hexGo_length]; omega
  split
  · have := quoteGo_length v.s.data.toList
    have e : v.s.data.toList.length = v.s.size := by rw [Array.length_toList]; rfl
    simp only [List.length_cons, List.length_append, List.length_nil]
    omega
  · simp
theorem entT_len (d : Nat) (k : ByteArray) (v : V) (h : v.fits) : (entT d k v).length ≤ 2 * d + 2 * k.size + 2 * v.s.size + 40 := by
  have h1 := qL_len k
  have h2 := textL_len v h
  unfold entT
  simp only [List.length_append, List.length_cons, List.length_nil, insetT_len]
  omega
set_option maxHeartbeats 16000000 in
theorem entries_any {w0 : World} : ∀ (h d : Nat), d + h = 21 → ∀ (f : Nat) (l : List En) (v : Value) (w : World), FitL w0 f v l → Touch (fun _ => False) w0 w →
    Calls Tryz.prog 10 #[v, .int .i64 (d : Int)] w (EnPost w0 h d v l) := by
  intro h
  induction h with
  | zero =>
    intro d hd f l v w g t
    obtain rfl : d = 21 := by omega
    obtain ⟨ao, cap, rfl, -⟩ := g.sl.shape
    have HQ : Hid (Touch (fun _ => False) w0 w) := t
    clear g t
    go_enter Tryz.func10, Tryz.ntmps10
    go_wp2_with fail
    go_ret
    exact ⟨1000, rfl, by omega, fun h => by omega, HQ.out⟩
  | succ h ih =>
    intro d hd f l v w g t
    obtain ⟨ao, cap, rfl, hll⟩ := g.sl.shape
    have HA : Hid (SlE w0 (.slice ao l.length cap) l) := g.sl
    have HG : Hid (∀ e ∈ l, ∃ f', e.v.fits ∧ e.v.s.size ≤ 1048576 ∧ e.ky.size ≤ 1048576 ∧ FitL w0 f' e.raw.val e.kids) := by
      cases f with
      | zero => intro e he; rw [g.2] at he; cases he
      | succ f => intro e he; exact ⟨f, g.2 e he⟩
    have HIH : Hid (∀ (f : Nat) (l : List En) (v : Value) (w : World), FitL w0 f v l → Touch (fun _ => False) w0 w → Calls Tryz.prog 10 #[v, .int .i64 ((d + 1 : Nat) : Int)] w (EnPost w0 h (d + 1) v l)) := ih (d + 1) (by omega)
    have HQ : Hid (Touch (fun _ => False) w0 w) := t
    have hd20 : ¬ (20 : Int) < (d : Int) := by omega
    have hhb : h ≤ 21 := by omega
    have hdb : d ≤ 20 := by omega
    clear g t ih hd
    go_enter Tryz.func10, Tryz.ntmps10
    go_wp2_with fail
    go_loopg [5, 6] l.length (fun gk s5 s6 wr => ∃ (i n : Nat), i + gk = l.length ∧ s5 = .int .i64 (n : Int) ∧ s6 = .int .i64 (i : Int) ∧ Hid (Touch (fun _ => False) w0 wr ∧ n ≤ 100000 * (h + 2) ∧ (n ≤ 300 → (∀ e ∈ l.take i, V.taken e.v ∧ e.v.s.size ≤ 1048576 ∧ e.ky.size ≤ 1048576 ∧ GoodL w0 h e.raw.val e.kids) ∧ (ensT d (l.take i)).length ≤ 400 * n)))
    case atStart => exact ⟨0, 0, by omega, rfl, rfl, HQ.out, by omega, fun _ => ⟨fun e he => (by simp at he), by show 0 ≤ _; omega⟩⟩
    case round =>
      obtain ⟨i, n, hig, rfl, rfl, HI⟩ := hrel
      have hnb : n ≤ 100000 * (h + 2) := HI.out.2.1
      by_cases hil : i < l.length
      · by_cases hn : n ≤ 300
        · obtain ⟨b, off, rfl, hca⟩ := HA.out.at hil
          have HX : Hid (∀ W, Touch (fun _ => False) w0 W → _) := fun W (t : Touch (fun _ => False) w0 W) => hca W t
          have hi1 : (0 : Int) ≤ (i : Int) := by omega
          have hi2 : (i : Int) < (l.length : Int) := by omega
          have hn2 : (n : Int) ≤ 300 := by omega
          obtain ⟨f', g1, g2, g3, g4⟩ := HG.out _ (List.getElem_mem hil)
          obtain ⟨d1, hd1⟩ : ∃ d1 : Nat, Hid (d1 = d + 1) := ⟨_, Eq.refl _⟩
          have HCk : Hid (∀ W, Calls Tryz.prog 29 #[.agg #[.int .i64 l[i].v.k, .int .i64 l[i].v.n, .float .f64 l[i].v.f, .string l[i].v.s]] W fun e w' => e = .returned (.int .i64 (refCheck l[i].v)) ∧ Touch (fun _ => False) W w') := fun W => ref_check l[i].v (by omega) W
          have HRi : Hid (∀ W, Touch (fun _ => False) w0 W → Calls Tryz.prog 10 #[l[i].raw.val, .int .i64 (d1 : Int)] W (EnPost w0 h d1 l[i].raw.val l[i].kids)) := fun W t => by rw [hd1.out]; exact HIH.out f' l[i].kids l[i].raw.val W g4 t
          have HNx : Hid (∀ r : Nat, refCheck l[i].v = 0 → (r ≤ 300 → GoodL w0 h l[i].raw.val l[i].kids ∧ (ensT d1 l[i].kids).length ≤ 400 * r) → n + 1 + l[i].ky.size / 50 + l[i].v.s.size / 50 + r ≤ 300 → (∀ e ∈ l.take (i + 1), V.taken e.v ∧ e.v.s.size ≤ 1048576 ∧ e.ky.size ≤ 1048576 ∧ GoodL w0 h e.raw.val e.kids) ∧ (ensT d (l.take (i + 1))).length ≤ 400 * (n + 1 + l[i].ky.size / 50 + l[i].v.s.size / 50 + r)) := fun r hc hr hle => by
            obtain ⟨p1, p2⟩ := HI.out.2.2 (by omega)
            obtain ⟨r1, r2⟩ := hr (by omega)
            refine ⟨take_mem hil p1 ⟨taken_v _ g1 hc, g2, g3, r1⟩, ?_⟩
            rw [ensT_take hil, enT_eq, List.length_append, List.length_append, List.length_append, ← hd1.out]
            have h1 := entT_len d l[i].ky l[i].v g1
            have h4 : ([10] : List UInt8).length = 1 := rfl
            omega
          have T0 : Hid (Touch (fun _ => False) w0 wr) := HI.out.1
          clear hca HA HG HI HIH HQ g4
          generalize l[i] = a at *
          obtain ⟨ky, ⟨vk, vn, vf, vs⟩, ⟨ra, rn, rc⟩, kids⟩ := a
          simp only [En.ky, En.v, En.raw, En.kids] at HX HCk HRi HNx g1 g2 g3
          obtain ⟨c, hc⟩ : ∃ c, Hid (c = refCheck ⟨vk, vn, vf, vs⟩) := ⟨_, Eq.refl _⟩
          rw [← hc.out] at HCk HNx
          obtain ⟨kq, hkq⟩ : ∃ kq : Nat, kq = ky.size / 50 := ⟨_, rfl⟩
          obtain ⟨vq, hvq⟩ : ∃ vq : Nat, vq = vs.size / 50 := ⟨_, rfl⟩
          have HKq : Hid (ky.size / 50 = kq ∧ vs.size / 50 = vq) := ⟨hkq.symm, hvq.symm⟩
          rw [HKq.out.1, HKq.out.2] at HNx
          have hkb : kq ≤ 21000 := by omega
          have hvb : vq ≤ 21000 := by omega
          have k1 : (ky.size : Int).tdiv 50 = (kq : Int) := by rw [hkq]; rfl
          have k2 : (vs.size : Int).tdiv 50 = (vq : Int) := by rw [hvq]; rfl
          obtain ⟨n1, hn1⟩ : ∃ n1 : Nat, n1 = n + 1 := ⟨_, rfl⟩
          obtain ⟨n2, hn2'⟩ : ∃ n2 : Nat, n2 = n1 + kq := ⟨_, rfl⟩
          obtain ⟨n3, hn3⟩ : ∃ n3 : Nat, n3 = n2 + vq := ⟨_, rfl⟩
          have w1 : IntKind.i64.wrap ((n : Int) + 1) = (n1 : Int) := by rw [IntKind.wrap_i64] <;> omega
          have w2 : IntKind.i64.wrap ((n1 : Int) + (kq : Int)) = (n2 : Int) := by rw [IntKind.wrap_i64] <;> omega
          have w3 : IntKind.i64.wrap ((n2 : Int) + (vq : Int)) = (n3 : Int) := by rw [IntKind.wrap_i64] <;> omega
          have w4 : IntKind.i64.wrap ((d : Int) + 1) = (d1 : Int) := by have := hd1.out; rw [IntKind.wrap_i64] <;> omega
          have w5 : IntKind.i64.wrap (kq : Int) = (kq : Int) := by rw [IntKind.wrap_i64] <;> omega
          have w6 : IntKind.i64.wrap (vq : Int) = (vq : Int) := by rw [IntKind.wrap_i64] <;> omega
          have HN3 : Hid (n3 = n + 1 + kq + vq) := by rw [Hid]; omega
          have hn3b : n3 ≤ 43000 := by omega
          clear hkq hvq hn1 hn2' hn3 g1 g2 g3
          obtain ⟨x0, x1, x2, x3, x4, x5⟩ := HX.out _ T0.out
          go_wp2_with fail
          refine (HCk.out _).mono ?_
          rintro e W1 ⟨rfl, t1⟩
          have T1 : Touch (fun _ => False) w0 W1 := T0.out.trans t1
          clear x0 x1 x2 x3 x4 x5 t1 T0 HCk
          by_cases hz : c = 0
          · have HNy : Hid (∀ r : Nat, (r ≤ 300 → GoodL w0 h (Sw.val ⟨ra, rn, rc⟩) kids ∧ (ensT d1 kids).length ≤ 400 * r) → n3 + r ≤ 300 → (∀ e ∈ l.take (i + 1), V.taken e.v ∧ e.v.s.size ≤ 1048576 ∧ e.ky.size ≤ 1048576 ∧ GoodL w0 h e.raw.val e.kids) ∧ (ensT d (l.take (i + 1))).length ≤ 400 * (n3 + r)) := fun r h1 h2 => by
              have h3 := HNx.out r hz h1
              rw [← HN3.out] at h3
              exact h3 h2
            clear HNx HN3 HKq hc
            have TD : Touch (fun _ => False) w0 W1.drew := T1.drew
            have S0 := HX.out _ TD
            go_upto_region 9 with fail
            go_region_held3 (fun W => W.cell? ⟨b, off + i * 6, none⟩ = some (.string ky) ∧ W.cell? ⟨b, off + i * 6 + 1, none⟩ = some (.int .i64 vk) ∧ W.cell? ⟨b, off + i * 6 + 2, none⟩ = some (.int .i64 vn) ∧ W.cell? ⟨b, off + i * 6 + 3, none⟩ = some (.float .f64 vf) ∧ W.cell? ⟨b, off + i * 6 + 4, none⟩ = some (.string vs) ∧ W.cell? ⟨b, off + i * 6 + 5, none⟩ = some (.slice ra rn rc)) (first | assumption)
              (first
                | (go_at_call 10; (with_reducible refine (HRi.out _ (by assumption)).mono ?_); rintro e wz ⟨rr, rfl, q1, q2, TT⟩; have S1 := HX.out wz TT; have HQr : Hid (rr ≤ 100000 * (h + 1) ∧ (rr ≤ 300 → GoodL w0 h (Sw.val ⟨ra, rn, rc⟩) kids ∧ (ensT d1 kids).length ≤ 400 * rr)) := And.intro q1 q2; obtain ⟨n4, hn4⟩ : ∃ n4 : Nat, Hid (n4 = n3 + rr) := ⟨_, Eq.refl _⟩; have w7 : IntKind.i64.wrap ((n3 : Int) + (rr : Int)) = (n4 : Int) := (by have h1 := hn4.out; have h2 := HQr.out.1; rw [IntKind.wrap_i64] <;> omega); clear q1 q2))
            have HF : Hid (Touch (fun _ => False) w0 wz ∧ n4 ≤ 100000 * (h + 2) ∧ (n4 ≤ 300 → (∀ e ∈ l.take (i + 1), V.taken e.v ∧ e.v.s.size ≤ 1048576 ∧ e.ky.size ≤ 1048576 ∧ GoodL w0 h e.raw.val e.kids) ∧ (ensT d (l.take (i + 1))).length ≤ 400 * n4)) := by
              refine ⟨TT, ?_, fun hle => ?_⟩
              · have h1 := hn4.out; have h2 := HQr.out.1; omega
              · rw [hn4.out] at hle ⊢; exact HNy.out rr HQr.out.2 hle
            clear S0 S1 TD TT T1 HX HRi HNy HQr hn4 w1 w2 w3 w4 w5 w6 w7 k1 k2
            go_wp2_with fail
            go_roundg (l.length - (i + 1))
            case measure => omega
            case rel => exact ⟨i + 1, n4, by omega, rfl, by go_num, HF.out⟩
          · have hz2 : (c == 0) = false := by simpa using hz
            have HT : Hid (Touch (fun _ => False) w0 W1) := T1
            clear HNx HN3 HKq hc T1 HX HRi
            go_wp2_with fail
            go_ret
            exact ⟨1000, rfl, by omega, fun h => by omega, HT.out⟩
        · have hn2 : ¬ (n : Int) ≤ 300 := by omega
          have hi1 : (0 : Int) ≤ (i : Int) := by omega
          have hi2 : (i : Int) < (l.length : Int) := by omega
          have HF : Hid (Touch (fun _ => False) w0 wr) := HI.out.1
          clear HI HA HG HIH HQ
          go_wp2_with fail
          go_ret
          exact ⟨n, rfl, hnb, fun h => absurd h hn, HF.out⟩
      · have hie : i = l.length := by omega
        subst hie
        have HF : Hid (Touch (fun _ => False) w0 wr ∧ (n ≤ 300 → GoodL w0 (h + 1) (.slice ao l.length cap) l ∧ (ensT d l).length ≤ 400 * n)) := by
          have k := HI.out
          rw [List.take_length] at k
          exact ⟨k.1, fun hn => ⟨⟨HA.out, (k.2.2 hn).1⟩, (k.2.2 hn).2⟩⟩
        clear HI HA HG HIH HQ
        go_wp2_with fail
        go_ret
        exact ⟨n, rfl, hnb, HF.out.2, HF.out.1⟩
end Go.Proofs.YtijkekkjiboomaaGreatDoor

/- Arguments that are views. -/
namespace Go.Proofs.YtijkekkjiboomaaGreatDoor
open Go.ChangeShapes Go.WideShapes Go.ChangeAt Go.RowKit Go.Joins
set_option linter.unusedVariables false
set_option linter.unusedSimpArgs false
set_option maxRecDepth 100000

theorem cellsOfE : Tryz.prog.cellsOf 50 = 6 := by kernel_rfl
theorem cellsOfV : Tryz.prog.cellsOf 25 = 2 := by kernel_rfl
section
variable {H : Type} {enc : TypeId × Value → H} {w : World} {held : Bool}
theorem addr_addE (g o j : Nat) : (⟨g, o, none⟩ : Addr).add j = ⟨g, o + j, none⟩ := by
  unfold Addr.add
  split <;> simp_all
theorem ent_of {B : Nat} (hB : B ≤ 1048576) (ih : ∀ (fuel : Nat) (v : Value) (x : DataW H × List MemPlace), Rows.uptoBulk x.1 ≤ B → DataW.trod enc Tryz.prog w 0 (fun _ => true) held fuel 23 [v] = some x → ∃ (s : Sw) (l : List En), v = s.val ∧ FitL w B s.val l)
    {fuel : Nat} {cs : List Value} {x : DataW H × List MemPlace} (hx : Rows.uptoBulk x.1 ≤ B) (h : DataW.trod enc Tryz.prog w 0 (fun _ => true) held fuel 50 cs = some x) :
    ∃ e : En, cs = cellE e ∧ (e.v.fits ∧ e.v.s.size ≤ 1048576 ∧ e.ky.size ≤ 1048576 ∧ FitL w B e.raw.val e.kids) := by
  obtain ⟨xs, n, _, he, hl, hxl, hf⟩ := DataW.trod_struct Tryz.underlying50 h
  rw [cellsOfE] at hl
  match xs, hxl, cs, hl with
  | [y0, y1, y2], _, [v0, v1, v2, v3, v4, v5], _ =>
    have g0 : DataW.trod enc Tryz.prog w 0 (fun _ => true) held n 9 [v0] = some y0 := hf 0 _ rfl
    have g1 : DataW.trod enc Tryz.prog w 0 (fun _ => true) held n 43 [v1, v2, v3, v4] = some y1 := hf 1 _ rfl
    have g2 : DataW.trod enc Tryz.prog w 0 (fun _ => true) held n 23 [v5] = some y2 := hf 2 _ rfl
    have hsum : Rows.uptoBulk y0.1 + (Rows.uptoBulk y1.1 + Rows.uptoBulk y2.1) + 1 ≤ B := by
      rw [he] at hx
      simp only [Rows.uptoBulk, Rows.uptoBulkAll, List.map_cons, List.map_nil] at hx
      omega
    obtain ⟨s, rfl, _, q0⟩ := str_of g0
    obtain ⟨v, rfl, rfl, rfl, rfl, hv, q1⟩ := val_of g1
    obtain ⟨sw, l, rfl, hl⟩ := ih n v5 y2 (by omega) g2
    exact ⟨.mk s v sw l, rfl, hv, by show v.s.size ≤ _; omega, by show s.size ≤ _; omega, hl⟩
theorem ents_of : ∀ (B : Nat), B ≤ 1048576 → ∀ (fuel : Nat) (v : Value) (x : DataW H × List MemPlace), Rows.uptoBulk x.1 ≤ B → DataW.trod enc Tryz.prog w 0 (fun _ => true) held fuel 23 [v] = some x → ∃ (s : Sw) (l : List En), v = s.val ∧ FitL w B s.val l := by
  intro B
  induction B with
  | zero => intro _ fuel v x hx; have := bulk_one x.1; omega
  | succ B ihB =>
    intro hB fuel v x hx h
    have ih := ihB (by omega)
    rcases Deep.open_slice Tryz.underlying23 h with ⟨hcs, he⟩ | ⟨a, n, cap, m, k, D, Pl, hcs, _, hl, hm, hmm, he, hel⟩
    · simp only [List.cons.injEq, and_true] at hcs
      subst hcs
      exact ⟨⟨none, 0, 0⟩, [], rfl, ⟨none, 0, rfl, fun _ => rfl, Nat.le_refl _, by omega, .inl rfl⟩, fun e he => by cases he⟩
    · simp only [List.cons.injEq, and_true] at hcs
      subst hcs
      simp only [if_true] at hmm
      have e1 : x.1 = .slice ((List.range n).map D) ((List.range (m - n)).map fun j => D (n + j)) := by rw [he]
      have hDb : ∀ i, i < n → Rows.uptoBulk (D i) ≤ B := fun i hi => by
        have h1 := bulk_slice ((List.range n).map D) ((List.range (m - n)).map fun j => D (n + j))
        rw [← e1] at h1
        have h2 : Rows.uptoBulk (D i) ≤ (((List.range n).map D).map Rows.uptoBulk).sum := one_le_sum (List.mem_map_of_mem (List.mem_map_of_mem (List.mem_range.2 hi)))
        omega
      have each : ∀ i, i < n → ∃ e : En, (e.v.fits ∧ e.v.s.size ≤ 1048576 ∧ e.ky.size ≤ 1048576 ∧ FitL w B e.raw.val e.kids) ∧ ∀ j, j < 6 → w.cell? ((a.add (i * 6)).add j) = (cellE e)[j]? := by
        intro i hi
        obtain ⟨cs', h1, h2⟩ := hel i (by omega)
        rw [cellsOfE] at h1
        obtain ⟨_, _, hc⟩ := World.cells?_some h1
        obtain ⟨e, hs, hok⟩ := ent_of (by omega) ih (hDb i hi) h2
        exact ⟨e, hok, fun j hj => by rw [hc j hj, hs]⟩
      haveI : Inhabited En := ⟨.mk ⟨#[]⟩ vz ⟨none, 0, 0⟩ []⟩
      obtain ⟨f, hf⟩ := Deep.choose_lt each
      have hcap : cap ≤ 9223372036854775807 := by unfold maxLen at hm; omega
      refine ⟨⟨some a, n, cap⟩, (List.range n).map f, rfl, ⟨some a, cap, by simp, (by intro h; cases h), by simpa using hl, hcap, ?_⟩, fun e hm => ?_⟩
      · by_cases hn : n = 0
        · subst hn; exact .inl rfl
        · have h0 : w.cell? ((a.add (0 * 6)).add 0) = some (.string (f 0).ky) := (hf 0 (by omega)).2 0 (by decide)
          have h0' : w.cell? (a.add 0) = some (.string (f 0).ky) := by
            have e : (a.add (0 * 6)).add 0 = a.add 0 := by simp [Addr.add]
            rw [← e]; exact h0
          obtain ⟨b, off, rfl⟩ := spot_none h0'
          refine .inr ⟨b, off, rfl, fun t u hu => ?_⟩
          have hlt : t < n * 6 := by
            have := (List.getElem?_eq_some_iff.1 hu).1
            rw [cellsE_len] at this; simpa using this
          have hdv : t / 6 < n := by omega
          have h3 : t % 6 < 6 := Nat.mod_lt _ (by omega)
          have hc := (hf (t / 6) hdv).2 (t % 6) h3
          rw [addr_addE, addr_addE, Nat.add_assoc, show t / 6 * 6 + t % 6 = t from by omega] at hc
          rw [hc]
          obtain ⟨a0, a1, a2, a3, a4, a5⟩ := cellsE_get ((List.range n).map f) (t / 6) (by simpa using hdv)
          simp only [List.getElem_map, List.getElem_range] at a0 a1 a2 a3 a4 a5
          have hm2 : t = t / 6 * 6 + t % 6 := by omega
          rw [hm2] at hu
          generalize t / 6 = q at *
          generalize t % 6 = r at *
          rcases (by omega : r = 0 ∨ r = 1 ∨ r = 2 ∨ r = 3 ∨ r = 4 ∨ r = 5) with rfl | rfl | rfl | rfl | rfl | rfl
          · rw [Nat.add_zero, a0] at hu; exact hu
          · rw [a1] at hu; exact hu
          · rw [a2] at hu; exact hu
          · rw [a3] at hu; exact hu
          · rw [a4] at hu; exact hu
          · rw [a5] at hu; exact hu
      · obtain ⟨i, hi, rfl⟩ := List.mem_map.1 hm
        exact (hf i (List.mem_range.1 hi)).1
end
/-- A view, as it comes in. -/
structure ArgV (w : World) (va vm : Value) (L : List Rn) (M : List En) : Prop where
  r : ArgR w va L
  m : ∃ f, FitL w f vm M
theorem view_of {H : Type} {enc : TypeId × Value → H} {w : World} {held : Bool} {b0 : Nat} {v : Value} {d : DataW H} {p : List MemPlace}
    (hv : Value.okWide Tryz.prog w .any b0 25 v) (h : DataW.Trod enc Tryz.prog w 0 (fun _ => true) held 25 v d p) (hb : Rows.uptoBulk d ≤ 1048576) : ∃ (va vm : Value) (L : List Rn) (M : List En), v = .agg #[va, vm] ∧ ArgV w va vm L M := by
  obtain ⟨cs, rfl, hsz⟩ := okWide_struct Tryz.underlying25 hv
  rw [cellsOfV] at hsz
  obtain ⟨c0, c1, hl⟩ : ∃ c0 c1, cs.toList = [c0, c1] := by
    have hl : cs.toList.length = 2 := by rw [Array.length_toList, hsz]
    match cs.toList, hl with
    | [a, b], _ => exact ⟨a, b, rfl⟩
  obtain rfl : cs = #[c0, c1] := by apply Array.ext'; exact hl
  obtain ⟨fuel, hf⟩ := h
  have hf2 : DataW.trod enc Tryz.prog w 0 (fun _ => true) held fuel 25 [c0, c1] = some (d, p) := hf
  obtain ⟨xs, n, _, he, hl, hxl, hg⟩ := DataW.trod_struct Tryz.underlying25 hf2
  match xs, hxl with
  | [y0, y1], _ =>
    have g0 : DataW.trod enc Tryz.prog w 0 (fun _ => true) held n 22 [c0] = some y0 := hg 0 _ rfl
    have g1 : DataW.trod enc Tryz.prog w 0 (fun _ => true) held n 23 [c1] = some y1 := hg 1 _ rfl
    have ed : d = .agg [y0.1, y1.1] := congrArg Prod.fst he
    have hsum : Rows.uptoBulk y0.1 + Rows.uptoBulk y1.1 ≤ 1048576 := by
      rw [ed] at hb
      simp only [Rows.uptoBulk, Rows.uptoBulkAll] at hb
      omega
    obtain ⟨L, s0, f0, z0⟩ := runs_of g0
    obtain ⟨sw, M, rfl, hM⟩ := ents_of 1048576 (Nat.le_refl _) n c1 y1 (by omega) g1
    exact ⟨c0, sw.val, L, M, rfl, ⟨s0, f0, by omega⟩, _, hM⟩
end Go.Proofs.YtijkekkjiboomaaGreatDoor

/- quirelaw14.ViewTexts. -/
namespace Go.Proofs.YtijkekkjiboomaaGreatDoor
open Go.RowKit Go.Maps
set_option linter.unusedVariables false
set_option linter.unusedSimpArgs false
set_option maxRecDepth 100000

theorem marksT_len (l : List Mk) (h : ∀ m ∈ l, m.v.fits) : (l.flatMap mkT).length ≤ 36 * l.length + 2 * (l.map wtm).sum := by
  induction l with
  | nil => simp
  | cons m l ih =>
    have h1 := ih fun x hx => h x (List.mem_cons_of_mem _ hx)
    have h2 := qL_len m.ky
    have h3 := textL_len m.v (h m (by simp))
    rw [List.flatMap_cons, List.length_append]
    have h4 : (mkT m).length = 1 + (qL m.ky).length + 1 + (textL m.v).length := by unfold mkT; simp only [List.length_cons, List.length_append]; omega
    have h5 : wtm m = m.ky.size + m.vs.size := rfl
    have h6 : m.v.s.size = m.vs.size := rfl
    simp only [List.map_cons, List.sum_cons, List.length_cons]
    omega
theorem line_len (x : Rn) (h : x.v.fits ∧ ∀ m ∈ x.ml, m.v.fits) : (lineT x ++ [10]).length ≤ 40 * wtx x := by
  have h1 := marksT_len x.ml h.2
  have h2 := qL_len x.tx
  have h3 := textL_len x.v h.1
  have h4 : wtx x = 1 + x.tx.size + x.v.s.size + 3 * x.ml.length + (x.ml.map wtm).sum := rfl
  have h5 : (headT x).length ≤ 2 + (2 * x.tx.size + 2) + (2 * x.v.s.size + 30) := by
    unfold headT
    split
    · simp only [List.length_append, List.length_cons, List.length_nil]; omega
    · simp only [List.length_append, List.length_cons, List.length_nil]; omega
  rw [List.length_append, lineT_len]
  have h6 : ([10] : List UInt8).length = 1 := rfl
  omega
theorem runsT_len : ∀ (L : List Rn), (∀ x ∈ L, x.v.fits ∧ ∀ m ∈ x.ml, m.v.fits) → (runsT L).length ≤ 40 * wtL L
  | [], _ => by simp [runsT]
  | x :: L, h => by
    have h1 := runsT_len L fun y hy => h y (List.mem_cons_of_mem _ hy)
    have h2 := line_len x (h x (by simp))
    unfold runsT wtL at *
    rw [List.flatMap_cons, List.length_append, List.map_cons, List.sum_cons]
    omega
theorem plainT_len : ∀ (L : List Rn), (plainT L).length ≤ 3 * wtL L
  | [] => by simp [plainT]
  | x :: L => by
    have h1 := plainT_len L
    have h2 : (plainR x).length ≤ 3 * wtx x := by
      have h4 : wtx x = 1 + x.tx.size + x.v.s.size + 3 * x.ml.length + (x.ml.map wtm).sum := rfl
      have e : x.tx.data.toList.length = x.tx.size := by rw [Array.length_toList]; rfl
      unfold plainR
      split
      · simp only [List.length_cons, List.length_nil]; omega
      · omega
    unfold plainT wtL at *
    rw [List.flatMap_cons, List.length_append, List.map_cons, List.sum_cons]
    omega
theorem FitL.touch {w w' : World} (t : Touch (fun _ => False) w w') : ∀ {f : Nat} {v : Value} {l : List En}, FitL w f v l → FitL w' f v l
  | 0, v, l, g => ⟨g.1.touch t, g.2⟩
  | f + 1, v, l, g => ⟨g.1.touch t, fun e he => ⟨(g.2 e he).1, (g.2 e he).2.1, (g.2 e he).2.2.1, (g.2 e he).2.2.2.touch t⟩⟩
theorem ArgV.touch {w w' : World} {va vm : Value} {L : List Rn} {M : List En} (g : ArgV w va vm L M) (t : Touch (fun _ => False) w w') : ArgV w' va vm L M := by
  obtain ⟨f, hf⟩ := g.m
  exact ⟨g.r.touch t, f, hf.touch t⟩
theorem vw_of {w : World} {va vm : Value} {L : List Rn} {M : List En} (g : ArgV w va vm L M) (l : LightP L) (hm : GoodL w 21 vm M ∧ (ensT 0 M).length ≤ 120000) : VwAt w va vm 21 L M ∧ (viewT L M).length ≤ 10000000 := by
  have lt := lt_of g.r l
  have h1 := runsT_len L g.r.f
  have h2 : (viewT L M).length = (runsT L).length + (ensT 0 M).length := by unfold viewT; rw [List.length_append]
  have h3 := lt.w
  refine ⟨⟨g.r.r, lt.k, fun x hx => ?_, hm.1, by omega, by omega⟩, by omega⟩
  have h4 : wtx x ≤ wtL L := one_le_sum (List.mem_map_of_mem hx)
  have h5 : wtx x = 1 + x.tx.size + x.v.s.size + 3 * x.ml.length + (x.ml.map wtm).sum := rfl
  omega
set_option maxHeartbeats 32000000 in
theorem viewTexts_any {w : World} {va vm vb vn : Value} {L K : List Rn} {M N : List En} (ga : ArgV w va vm L M) (gb : ArgV w vb vn K N) (hU : TabsU w) (hI : TabsI w) :
    Calls Tryz.prog 3 #[.agg #[va, vm], .agg #[vb, vn]] w fun e w' => e = .returned (.bool true) ∧ Touch (fun _ => False) w w' := by
  obtain ⟨fa, hfa⟩ := ga.m
  obtain ⟨fb, hfb⟩ := gb.m
  obtain ⟨ao, ca, rfl, -, -, -⟩ := ga.r.r.shape
  obtain ⟨bo, cb, rfl, -, -, -⟩ := gb.r.r.shape
  obtain ⟨mo, mc, rfl, -⟩ := hfa.sl.shape
  obtain ⟨no, nc, rfl, -⟩ := hfb.sl.shape
  obtain ⟨E, hE⟩ : ∃ E, Hid (E = (w.alloc (.cells #[.slice ao L.length ca, .slice mo M.length mc] 25)).alloc (.cells #[.slice bo K.length cb, .slice no N.length nc] 25)) := ⟨(w.alloc (.cells #[.slice ao L.length ca, .slice mo M.length mc] 25)).alloc (.cells #[.slice bo K.length cb, .slice no N.length nc] 25), Eq.refl _⟩
  obtain ⟨m, hmm⟩ : ∃ m, Hid (m = w.heap.size) := ⟨_, Eq.refl _⟩
  have hTE : Touch (fun _ => False) w E := by rw [hE.out]; exact ((Touch.refl _ _).alloc _).alloc _
  have HQ := heap_alloc2 w (.cells #[.slice ao L.length ca, .slice mo M.length mc] 25) (.cells #[.slice bo K.length cb, .slice no N.length nc] 25)
  rw [← hE.out, ← hmm.out] at HQ
  have HS : Hid (∀ W, Touch (fun _ => False) E W → (W.cell? ⟨m, 0, none⟩ = some (.slice ao L.length ca) ∧ W.cell? ⟨m, 1, none⟩ = some (.slice mo M.length mc) ∧ W.cell? ⟨m + 1, 0, none⟩ = some (.slice bo K.length cb) ∧ W.cell? ⟨m + 1, 1, none⟩ = some (.slice no N.length nc))) := fun W t => by
    obtain ⟨a, b⟩ := viewO_cells (hkY t HQ.1)
    obtain ⟨c, d⟩ := viewO_cells (hkY t HQ.2)
    exact ⟨a, b, c, d⟩
  have gA := ga.touch hTE
  have gB := gb.touch hTE
  have hfa' := hfa.touch hTE
  have hfb' := hfb.touch hTE
  have HLa : Hid (∀ W, Touch (fun _ => False) E W → Calls Tryz.prog 9 #[.slice ao L.length ca] W (LtPost L W)) := fun W t => light_any (gA.r.r.touch t) gA.r.b
  have HLb : Hid (∀ W, Touch (fun _ => False) E W → Calls Tryz.prog 9 #[.slice bo K.length cb] W (LtPost K W)) := fun W t => light_any (gB.r.r.touch t) gB.r.b
  have HEa : Hid (∀ W, Touch (fun _ => False) E W → Calls Tryz.prog 10 #[.slice mo M.length mc, .int .i64 0] W (EnPost E 21 0 (.slice mo M.length mc) M)) := fun W t => entries_any 21 0 (by omega) fa M _ W hfa' t
  have HEb : Hid (∀ W, Touch (fun _ => False) E W → Calls Tryz.prog 10 #[.slice no N.length nc, .int .i64 0] W (EnPost E 21 0 (.slice no N.length nc) N)) := fun W t => entries_any 21 0 (by omega) fb N _ W hfb' t
  have HAr : Hid (ArgV E (.slice ao L.length ca) (.slice mo M.length mc) L M ∧ ArgV E (.slice bo K.length cb) (.slice no N.length nc) K N ∧ TabsU E ∧ TabsI E) := ⟨gA, gB, hU.keep hTE, hI.keep hTE⟩
  have HKn : Hid (Calls Tryz.prog 8 #[] E fun e w' => e = .returned (.bool true) ∧ Touch (fun _ => False) E w') := known_any E (hU.keep hTE) (hI.keep hTE)
  have HTw : Hid (Touch (fun _ => False) w E) := hTE
  clear HQ hTE ga gb hU hI hfa hfb gA gB hfa' hfb'
  go_enter Tryz.func3, Tryz.ntmps3
  go_upto_region 1 with fail
  rw [← hE.out, ← hmm.out]
  clear hE hmm
  go_wp2_with fail
  refine HKn.out.mono ?_
  rintro e W1 ⟨rfl, t1⟩
  have T1 : Hid (Touch (fun _ => False) E W1) := t1
  clear t1 HKn
  obtain ⟨s0, s1, s2, s3⟩ := HS.out _ T1.out
  go_wp2_with fail
  refine (HLa.out _ T1.out).mono ?_
  rintro e W2 ⟨r, rfl, hr, t2⟩
  have T2 : Hid (Touch (fun _ => False) E W2) := T1.out.trans t2
  clear t2 T1 HLa s0 s1 s2 s3
  cases r with
  | false =>
    clear hr HLb HAr HEa HEb
    go_wp2_with fail
    go_ret
    exact ⟨rfl, HTw.out.trans T2.out⟩
  | true =>
    have HA : Hid (LightP L) := hr rfl
    clear hr
    obtain ⟨s0, s1, s2, s3⟩ := HS.out _ T2.out
    go_wp2_with fail
    refine (HLb.out _ T2.out).mono ?_
    rintro e W3 ⟨r, rfl, hr, t3⟩
    have T3 : Hid (Touch (fun _ => False) E W3) := T2.out.trans t3
    clear t3 T2 HLb s0 s1 s2 s3
    cases r with
    | false =>
      clear hr HAr HA HEa HEb
      go_wp2_with fail
      go_ret
      exact ⟨rfl, HTw.out.trans T3.out⟩
    | true =>
      have HB : Hid (LightP K) := hr rfl
      clear hr
      obtain ⟨s0, s1, s2, s3⟩ := HS.out _ T3.out
      go_wp2_with fail
      refine (HEa.out _ T3.out).mono ?_
      rintro e W4 ⟨na, rfl, q1, q2, t4⟩
      have HN4 : Hid (na ≤ 300 → GoodL E 21 (.slice mo M.length mc) M ∧ (ensT 0 M).length ≤ 400 * na) := q2
      have T4 : Hid (Touch (fun _ => False) E W4) := t4
      clear q1 q2 t4 T3 HEa s0 s1 s2 s3
      by_cases hna : 300 < na
      · have hni : (300 : Int) < (na : Int) := by omega
        clear HN4 HEb HA HB HAr
        go_wp2_with fail
        go_ret
        exact ⟨rfl, HTw.out.trans T4.out⟩
      · have hni : ¬ (300 : Int) < (na : Int) := by omega
        obtain ⟨ga1, ga2⟩ := HN4.out (by omega)
        have HGa : Hid (GoodL E 21 (.slice mo M.length mc) M ∧ (ensT 0 M).length ≤ 120000) := ⟨ga1, by omega⟩
        clear HN4 ga1 ga2
        obtain ⟨s0, s1, s2, s3⟩ := HS.out _ T4.out
        go_wp2_with fail
        refine (HEb.out _ T4.out).mono ?_
        rintro e W5 ⟨nb, rfl, q1, q2, t5⟩
        have HN5 : Hid (nb ≤ 300 → GoodL E 21 (.slice no N.length nc) N ∧ (ensT 0 N).length ≤ 400 * nb) := q2
        have T5 : Hid (Touch (fun _ => False) E W5) := t5
        clear q1 q2 t5 T4 HEb s0 s1 s2 s3
        by_cases hnb : 300 < nb
        · have hnj : (300 : Int) < (nb : Int) := by omega
          clear HN5 HA HB HAr HGa
          go_wp2_with fail
          go_ret
          exact ⟨rfl, HTw.out.trans T5.out⟩
        · have hnj : ¬ (300 : Int) < (nb : Int) := by omega
          obtain ⟨gb1, gb2⟩ := HN5.out (by omega)
          obtain ⟨va, sa⟩ := vw_of HAr.out.1 HA.out HGa.out
          obtain ⟨vb, sb⟩ := vw_of HAr.out.2.1 HB.out ⟨gb1, by omega⟩
          have la := lt_of HAr.out.1.r HA.out
          have hU := HAr.out.2.2.1
          have hI := HAr.out.2.2.2
          have HQa : Hid (∀ W, Touch (fun _ => False) E W → Calls Tryz.prog 11 #[.agg #[.slice ao L.length ca, .slice mo M.length mc]] W fun e w' => e = .returned (.string (strOf (viewT L M))) ∧ Touch (fun _ => False) W w') := fun W t => qtext_any (va.touch t) sa
          have HQb : Hid (∀ W, Touch (fun _ => False) E W → Calls Tryz.prog 11 #[.agg #[.slice bo K.length cb, .slice no N.length nc]] W fun e w' => e = .returned (.string (strOf (viewT K N))) ∧ Touch (fun _ => False) W w') := fun W t => qtext_any (vb.touch t) sb
          have HTx : Hid (∀ W, Touch (fun _ => False) E W → Calls Tryz.prog 12 #[.agg #[.slice ao L.length ca, .slice mo M.length mc]] W fun e w' => e = .returned (.string (strOf (viewT L M))) ∧ Touch (fun _ => False) W w') := fun W t => text_any (va.touch t) (hI.keep t)
          obtain ⟨dd, hdd⟩ : ∃ dd : Bool, Hid (dd = decide (viewT L M = viewT K N)) := ⟨_, Eq.refl _⟩
          have HSm : Hid (∀ W, Touch (fun _ => False) E W → Calls Tryz.prog 13 #[.agg #[.slice ao L.length ca, .slice mo M.length mc], .agg #[.slice bo K.length cb, .slice no N.length nc]] W fun e w' => e = .returned (.bool dd) ∧ Touch (fun _ => False) W w') := fun W t => by rw [hdd.out]; exact vsame_any (va.touch t) (vb.touch t) (hI.keep t)
          have hq : ((strOf (viewT L M)).toList == (strOf (viewT K N)).toList) = dd := by rw [hdd.out]; exact toBytes_eq _ _
          have hp3 : (plainT L).length ≤ 10000000 := by have := plainT_len L; have := la.w; omega
          have HPl : Hid (∀ W, Touch (fun _ => False) E W → Calls Tryz.prog 14 #[.agg #[.slice ao L.length ca, .slice mo M.length mc]] W fun e w' => e = .returned (.string (strOf (plainT L))) ∧ Touch (fun _ => False) W w') := fun W t => plain_any (va.r.touch t) (fun x hx => ⟨(la.ok x hx).1, (la.k x hx).t⟩) (by omega) (hU.keep t)
          have HQp : Hid (∀ W, Touch (fun _ => False) E W → Calls Tryz.prog 15 #[.agg #[.slice ao L.length ca, .slice mo M.length mc]] W fun e w' => e = .returned (.string (strOf (plainT L))) ∧ Touch (fun _ => False) W w') := fun W t => qplain_any (va.r.touch t) hp3
          have tL : tot L ≤ 1048576 := Nat.le_trans la.t (by omega)
          have HLe : Hid (∀ W, Touch (fun _ => False) E W → Calls Tryz.prog 16 #[.agg #[.slice ao L.length ca, .slice mo M.length mc]] W fun e w' => e = .returned (.int .i64 (lenL L : Int)) ∧ Touch (fun _ => False) W w') := fun W t => len_any (va.r.touch t) tL (hU.keep t) ⟨mo, M.length, mc, rfl⟩
          have HUn : Hid (∀ W, Touch (fun _ => False) E W → Calls Tryz.prog 17 #[.slice ao L.length ca] W fun e w' => ∃ o c, e = .returned (.slice o (lenL L) c) ∧ Touch (fun _ => False) W w') := fun W t => (qunits_any (va.r.touch t) tL).mono fun e w' ⟨o, c, q1, q2⟩ => ⟨o, c, by rw [q1, unitsR_len], q2.t⟩
          clear HN5 HA HB HAr HGa gb1 gb2 va sa vb sb la hU hI hp3 tL hdd
          generalize strOf (viewT L M) = sx at *
          generalize strOf (viewT K N) = sy at *
          generalize strOf (plainT L) = sp at *
          generalize lenL L = nL at *
          obtain ⟨s0, s1, s2, s3⟩ := HS.out _ T5.out
          go_upto_region 5 with fail
          clear s0 s1 s2 s3
          have TD : Touch (fun _ => False) E W5.drew := T5.out.drew
          have S0 := HS.out _ TD
          go_region_held3 (fun W => W.cell? ⟨m, 0, none⟩ = some (.slice ao L.length ca) ∧ W.cell? ⟨m, 1, none⟩ = some (.slice mo M.length mc) ∧ W.cell? ⟨m + 1, 0, none⟩ = some (.slice bo K.length cb) ∧ W.cell? ⟨m + 1, 1, none⟩ = some (.slice no N.length nc)) (first | assumption)
            (first
              | (go_at_call 11; first
                  | ((with_reducible refine (HQa.out _ (by assumption)).mono ?_); rintro e w1 ⟨rfl, t1⟩; have TT := Touch.trans (by assumption) t1; have S1 := HS.out w1 TT; clear t1)
                  | ((with_reducible refine (HQb.out _ (by assumption)).mono ?_); rintro e w1 ⟨rfl, t1⟩; have TT := Touch.trans (by assumption) t1; have S1 := HS.out w1 TT; clear t1)))
          all_goals (have T6 := TT; clear S0 S1 HQa HQb TD TT T5)
          all_goals (have TD : Touch (fun _ => False) E w1.drew := T6.drew; have S0 := HS.out _ TD)
          all_goals go_upto_region 6 with fail
          all_goals (go_region_held3 (fun W => W.cell? ⟨m, 0, none⟩ = some (.slice ao L.length ca) ∧ W.cell? ⟨m, 1, none⟩ = some (.slice mo M.length mc) ∧ W.cell? ⟨m + 1, 0, none⟩ = some (.slice bo K.length cb) ∧ W.cell? ⟨m + 1, 1, none⟩ = some (.slice no N.length nc)) (first | assumption)
            (first
              | (go_at_call 12; (with_reducible refine (HTx.out _ (by assumption)).mono ?_); rintro e wy ⟨rfl, t1⟩; have TT := Touch.trans (by assumption) t1; have S1 := HS.out wy TT; clear t1)
              | (go_at_call 13; (with_reducible refine (HSm.out _ (by assumption)).mono ?_); rintro e wy ⟨rfl, t1⟩; have TT := Touch.trans (by assumption) t1; have S1 := HS.out wy TT; clear t1)
              | (go_at_call 14; (with_reducible refine (HPl.out _ (by assumption)).mono ?_); rintro e wy ⟨rfl, t1⟩; have TT := Touch.trans (by assumption) t1; have S1 := HS.out wy TT; clear t1)
              | (go_at_call 15; (with_reducible refine (HQp.out _ (by assumption)).mono ?_); rintro e wy ⟨rfl, t1⟩; have TT := Touch.trans (by assumption) t1; have S1 := HS.out wy TT; clear t1)
              | (go_at_call 16; (with_reducible refine (HLe.out _ (by assumption)).mono ?_); rintro e wy ⟨rfl, t1⟩; have TT := Touch.trans (by assumption) t1; have S1 := HS.out wy TT; clear t1)
              | (go_at_call 17; (with_reducible refine (HUn.out _ (by assumption)).mono ?_); rintro e wy ⟨uo, uc, rfl, t1⟩; have TT := Touch.trans (by assumption) t1; have S1 := HS.out wy TT; clear t1)))
          all_goals (have HF := HTw.out.trans TT; clear S0 S1 HTx HSm HPl HQp HLe HUn TD TT T6 HS)
          all_goals (try go_wp2_with fail)
          all_goals go_ret
          all_goals exact ⟨rfl, HF⟩
end Go.Proofs.YtijkekkjiboomaaGreatDoor
