/- The contracts of the document's clients and edges. -/
import Derived.Test.YtccgiabihagjoaaRtS
import Derived.Test.YtccgiabihagjoaaRfT
import Derived.Deep.RegionHeld3
namespace Go.Proofs.Ytccgiabihagjoaa
open Go.RowKit Go.Maps
set_option linter.unusedVariables false
set_option linter.unusedSimpArgs false
set_option maxRecDepth 100000

/-- The clients of l's right turns, rising. -/
structure CliU (l : List Tn) (cs : List Int) : Prop where
  asc : cs.Pairwise (fun a b => a < b)
  mem : ∀ x, x ∈ cs ↔ ∃ t ∈ l, t.ok = true ∧ t.c = x
  len : cs.length ≤ l.length
/-- The clocks at which client c's right turns begin and end, rising. -/
structure EdgU (l : List Tn) (c : Int) (es : List Int) : Prop where
  asc : es.Pairwise (fun a b => a < b)
  mem : ∀ x, x ∈ es ↔ ∃ t ∈ l, t.ok = true ∧ t.c = c ∧ (x = t.f ∨ x = t.t)
  len : es.length ≤ 2 * l.length
theorem CliU.skip {l : List Tn} {i : Nat} {cs : List Int} (h : CliU (l.take i) cs) (hi : i < l.length) (hx : l[i].ok = false) : CliU (l.take (i + 1)) cs := by
  rw [List.take_succ_eq_append_getElem hi]
  refine ⟨h.asc, fun x => ?_, by have := h.len; simp at *; omega⟩
  rw [h.mem]
  constructor
  · rintro ⟨t, ht, q⟩; exact ⟨t, List.mem_append_left _ ht, q⟩
  · rintro ⟨t, ht, q1, q2⟩
    rcases List.mem_append.1 ht with g | g
    · exact ⟨t, g, q1, q2⟩
    · rw [List.mem_singleton] at g; subst g; rw [hx] at q1; cases q1
theorem CliU.add {l : List Tn} {i : Nat} {cs m : List Int} (h : CliU (l.take i) cs) (hi : i < l.length) (hx : l[i].ok = true) (hm : InsU cs l[i].c m) : CliU (l.take (i + 1)) m := by
  rw [List.take_succ_eq_append_getElem hi]
  refine ⟨hm.asc, fun x => ?_, by have := h.len; have := hm.len; simp at *; omega⟩
  rw [hm.mem, h.mem]
  constructor
  · rintro (⟨t, ht, q⟩ | rfl)
    · exact ⟨t, List.mem_append_left _ ht, q⟩
    · exact ⟨l[i], List.mem_append_right _ (List.mem_singleton.2 rfl), hx, rfl⟩
  · rintro ⟨t, ht, q1, q2⟩
    rcases List.mem_append.1 ht with g | g
    · exact .inl ⟨t, g, q1, q2⟩
    · rw [List.mem_singleton] at g; subst g; exact .inr q2.symm
theorem EdgU.skip {l : List Tn} {i : Nat} {c : Int} {es : List Int} (h : EdgU (l.take i) c es) (hi : i < l.length) (hx : ¬ (l[i].ok = true ∧ l[i].c = c)) : EdgU (l.take (i + 1)) c es := by
  rw [List.take_succ_eq_append_getElem hi]
  refine ⟨h.asc, fun x => ?_, by have := h.len; simp at *; omega⟩
  rw [h.mem]
  constructor
  · rintro ⟨t, ht, q⟩; exact ⟨t, List.mem_append_left _ ht, q⟩
  · rintro ⟨t, ht, q1, q2, q3⟩
    rcases List.mem_append.1 ht with g | g
    · exact ⟨t, g, q1, q2, q3⟩
    · rw [List.mem_singleton] at g; subst g; exact absurd ⟨q1, q2⟩ hx
theorem EdgU.add {l : List Tn} {i : Nat} {c : Int} {es m1 m2 : List Int} (h : EdgU (l.take i) c es) (hi : i < l.length) (hx : l[i].ok = true) (hc : l[i].c = c) (h1 : InsU es l[i].f m1) (h2 : InsU m1 l[i].t m2) : EdgU (l.take (i + 1)) c m2 := by
  rw [List.take_succ_eq_append_getElem hi]
  refine ⟨h2.asc, fun x => ?_, by have := h.len; have := h1.len; have := h2.len; simp at *; omega⟩
  rw [h2.mem, h1.mem, h.mem]
  constructor
  · rintro ((⟨t, ht, q⟩ | rfl) | rfl)
    · exact ⟨t, List.mem_append_left _ ht, q⟩
    · exact ⟨l[i], List.mem_append_right _ (List.mem_singleton.2 rfl), hx, hc, .inl rfl⟩
    · exact ⟨l[i], List.mem_append_right _ (List.mem_singleton.2 rfl), hx, hc, .inr rfl⟩
  · rintro ⟨t, ht, q1, q2, q3⟩
    rcases List.mem_append.1 ht with g | g
    · exact .inl (.inl ⟨t, g, q1, q2, q3⟩)
    · rw [List.mem_singleton] at g; subst g
      rcases q3 with q3 | q3
      · exact .inl (.inr q3)
      · exact .inr q3

set_option maxHeartbeats 4000000 in
theorem clients_any (l : List Tn) (v : Value) (w : World) (hs : SlT w v l) (hll : l.length ≤ 1048576) :
    Calls Try.prog 36 #[v] w fun e w' => ∃ v' cs, e = .returned v' ∧ NewU w w' v' cs ∧ CliU l cs := by
  have HSl : Hid (SlT w v l) := hs
  obtain ⟨ao, cap, rfl, _⟩ := hs
  have HTu := fun t W => rturn_any t W
  go_enter Try.func36, Try.ntmps36
  go_wp2_with fail
  go_loopg [3, 4] l.length (fun g s3 s4 wx => ∃ (i : Nat) (cs : List Int), i + g = l.length ∧ s4 = .int .i64 (i : Int) ∧ Hid (NewU w wx s3 cs ∧ CliU (l.take i) cs) ∧ ∃ ao cap, s3 = .slice ao cs.length cap)
  case atStart => exact ⟨0, [], by omega, rfl, ⟨NewU.nil w w (Touch.refl _ _), List.Pairwise.nil, (fun x => ⟨(fun h => nomatch h), (fun h => by obtain ⟨t, ht, _⟩ := h; cases ht)⟩), Nat.le_refl _⟩, ⟨_, _, rfl⟩⟩
  case round =>
    obtain ⟨i, cs, hig, rfl, H, ⟨ao3, cap3, rfl⟩⟩ := hrel
    by_cases hlt : i < l.length
    · have hne : l ≠ [] := by rintro rfl; simp at hlt
      obtain ⟨b, o, cp, e, _, _, hb, hrow⟩ := (HSl.out.touch H.out.1.touch).row hne
      obtain ⟨rfl, _, rfl⟩ : ao = some ⟨b, o, none⟩ ∧ True ∧ cap = cp := by simpa using e
      obtain ⟨c0, c1, c2, c3⟩ := hrow i hlt
      have HK : Hid (∀ W, Touch (fun _ => False) wr W → W.cell? ⟨b, o + i * 4, none⟩ = some (.int .u64 l[i].c)) := fun W t => by
        rw [World.cell?_of_block (t.block _ hb id)]; exact (hrow i hlt).1
      have HSk : Hid (l[i].ok = false → CliU (l.take (i + 1)) cs) := fun h => H.out.2.skip hlt h
      have HAd : Hid (l[i].ok = true → ∀ m, InsU cs l[i].c m → CliU (l.take (i + 1)) m) := fun h m hm => H.out.2.add hlt h hm
      have hcl : cs.length ≤ 1048576 := by have := H.out.2.len; have := List.length_take_le i l; rw [List.length_take] at *; omega
      generalize l[i] = x at *
      have HTx := HTu x
      clear hrow e hne HTu
      obtain ⟨xc, xf, xt, xn⟩ := x
      simp only at c0 c1 c2 c3 HK HAd
      generalize Tn.ok ⟨xc, xf, xt, xn⟩ = ok at *
      cases ok with
      | false =>
        have HQ : Hid (NewU w ((wr.alloc (tnO ⟨xc, xf, xt, xn⟩)).alloc (rgO (Tn.rg ⟨xc, xf, xt, xn⟩))) (.slice ao3 cs.length cap3) cs ∧ CliU (l.take (i + 1)) cs) := ⟨H.out.1.on (((Touch.refl _ wr).alloc _).alloc _), HSk.out rfl⟩
        clear H HSk HAd HK
        go_wp2_with (go_at_call 26; refine (HTx _).mono ?_; rintro e w' ⟨rfl, rfl⟩)
        go_roundg (l.length - (i + 1))
        case measure => omega
        case rel => exact ⟨i + 1, cs, by omega, by go_num, HQ.out, ⟨_, _, rfl⟩⟩
      | true =>
        have HAd2 : Hid (∀ m, InsU cs xc m → CliU (l.take (i + 1)) m) := HAd.out rfl
        clear HAd
        have tt : Touch (fun _ => False) wr ((wr.alloc (tnO ⟨xc, xf, xt, xn⟩)).alloc (rgO (Tn.rg ⟨xc, xf, xt, xn⟩))) := ((Touch.refl _ wr).alloc _).alloc _
        have d0 := HK.out _ tt
        have CS := sortedU_any w _ _ cs xc (H.out.1.on tt) H.out.2.asc (by omega)
        clear H HSk HK
        go_wp2_with (go_at_call 26; refine (HTx _).mono ?_; rintro e w' ⟨rfl, rfl⟩)
        refine CS.mono ?_
        rintro e w5 ⟨v5, m, rfl, n5, i5⟩
        have HQ : Hid (NewU w w5 v5 m ∧ CliU (l.take (i + 1)) m) := ⟨n5, HAd2.out m i5⟩
        obtain ⟨ao5, cap5, rfl, _⟩ := n5.shape
        clear n5 i5 CS HAd2 d0 tt c0 c1 c2 c3
        go_wp2_with fail
        go_roundg (l.length - (i + 1))
        case measure => omega
        case rel => exact ⟨i + 1, m, by omega, by go_num, HQ.out, ⟨_, _, rfl⟩⟩
    · have hil : i = l.length := by omega
      subst hil
      have HQ : Hid (NewU w wr (.slice ao3 cs.length cap3) cs ∧ CliU l cs) := by have := H.out; rwa [List.take_length] at this
      clear H
      go_wp2_with fail
      refine bodyPost_ret (v := .slice ao3 cs.length cap3) (by simp [results, Try.results36, go_sem]) rfl ?_
      first | exact ⟨_, _, rfl, HQ.out⟩ | exact ⟨_, rfl, _, HQ.out⟩
set_option maxHeartbeats 4000000 in
theorem edges_any (l : List Tn) (v : Value) (c : Int) (w : World) (hs : SlT w v l) (hll : l.length ≤ 1048576) :
    Calls Try.prog 37 #[v, .int .u64 c] w fun e w' => ∃ v' es, e = .returned v' ∧ NewU w w' v' es ∧ EdgU l c es := by
  have HSl : Hid (SlT w v l) := hs
  obtain ⟨ao, cap, rfl, _⟩ := hs
  have HTu := fun t W => rturn_any t W
  go_enter Try.func37, Try.ntmps37
  go_wp2_with fail
  go_loopg [5, 6] l.length (fun g s5 s6 wx => ∃ (i : Nat) (cs : List Int), i + g = l.length ∧ s6 = .int .i64 (i : Int) ∧ Hid (NewU w wx s5 cs ∧ EdgU (l.take i) c cs) ∧ ∃ ao cap, s5 = .slice ao cs.length cap)
  case atStart => exact ⟨0, [], by omega, rfl, ⟨NewU.nil w w (Touch.refl _ _), List.Pairwise.nil, (fun x => ⟨(fun h => nomatch h), (fun h => by obtain ⟨t, ht, _⟩ := h; cases ht)⟩), Nat.zero_le _⟩, ⟨_, _, rfl⟩⟩
  case round =>
    obtain ⟨i, cs, hig, rfl, H, ⟨ao3, cap3, rfl⟩⟩ := hrel
    by_cases hlt : i < l.length
    · have hne : l ≠ [] := by rintro rfl; simp at hlt
      obtain ⟨b, o, cp, e, _, _, hb, hrow⟩ := (HSl.out.touch H.out.1.touch).row hne
      obtain ⟨rfl, _, rfl⟩ : ao = some ⟨b, o, none⟩ ∧ True ∧ cap = cp := by simpa using e
      obtain ⟨c0, c1, c2, c3⟩ := hrow i hlt
      have HK : Hid (∀ W, Touch (fun _ => False) w W → W.cell? ⟨b, o + i * 4, none⟩ = some (.int .u64 l[i].c) ∧ W.cell? ⟨b, o + i * 4 + 1, none⟩ = some (.int .u64 l[i].f) ∧ W.cell? ⟨b, o + i * 4 + 2, none⟩ = some (.int .u64 l[i].t)) := fun W t => by
        obtain ⟨b', o', cp', e', _, _, hb', hrow'⟩ := (HSl.out.touch t).row hne
        simp only [Value.slice.injEq, Option.some.injEq, Addr.mk.injEq] at e'
        obtain ⟨⟨rfl, rfl, _⟩, _, _⟩ := e'
        obtain ⟨q0, q1, q2, _⟩ := hrow' i hlt
        exact ⟨q0, q1, q2⟩
      have HSk : Hid (¬ (l[i].ok = true ∧ l[i].c = c) → EdgU (l.take (i + 1)) c cs) := fun h => H.out.2.skip hlt h
      have HAd : Hid (l[i].ok = true → l[i].c = c → ∀ m m2, InsU cs l[i].f m → InsU m l[i].t m2 → EdgU (l.take (i + 1)) c m2) := fun h hc m m2 h1 h2 => H.out.2.add hlt h hc h1 h2
      have hcl : cs.length ≤ 2097152 := by have := H.out.2.len; rw [List.length_take] at *; omega
      generalize l[i] = x at *
      have HTx := HTu x
      clear hrow e hne HTu
      obtain ⟨xc, xf, xt, xn⟩ := x
      simp only at c0 c1 c2 c3 HK HAd HSk
      have tt : Touch (fun _ => False) wr ((wr.alloc (tnO ⟨xc, xf, xt, xn⟩)).alloc (rgO (Tn.rg ⟨xc, xf, xt, xn⟩))) := ((Touch.refl _ wr).alloc _).alloc _
      generalize Tn.ok ⟨xc, xf, xt, xn⟩ = ok at *
      have HN1 : Hid (NewU w ((wr.alloc (tnO ⟨xc, xf, xt, xn⟩)).alloc (rgO (Tn.rg ⟨xc, xf, xt, xn⟩))) (.slice ao3 cs.length cap3) cs) := H.out.1.on tt
      obtain ⟨d0, d1, d2⟩ := HK.out _ HN1.out.touch
      have HAsc : Hid (cs.Pairwise (fun a b => a < b)) := H.out.2.asc
      cases ok with
      | false =>
        have HQ : Hid (EdgU (l.take (i + 1)) c cs) := HSk.out (fun h => by cases h.1)
        clear H HSk HAd HK d0 d1 d2
        go_wp2_with (go_at_call 26; refine (HTx _).mono ?_; rintro e w' ⟨rfl, rfl⟩)
        go_roundg (l.length - (i + 1))
        case measure => omega
        case rel => exact ⟨i + 1, cs, by omega, by go_num, ⟨HN1.out, HQ.out⟩, ⟨_, _, rfl⟩⟩
      | true =>
        by_cases hc : xc = c
        · have HAd2 : Hid (∀ m m2, InsU cs xf m → InsU m xt m2 → EdgU (l.take (i + 1)) c m2) := HAd.out rfl hc
          subst hc
          clear HAd
          obtain ⟨wq, hwq⟩ : ∃ wq, wq = (wr.alloc (tnO ⟨xc, xf, xt, xn⟩)).alloc (rgO (Tn.rg ⟨xc, xf, xt, xn⟩)) := ⟨_, rfl⟩
          clear H HSk
          go_wp2_with (go_at_call 26; refine (HTx _).mono ?_; rintro e w' ⟨rfl, rfl⟩)
          clear c0 c1 c2 c3 d0 d1 d2 tt
          rw [← hwq] at HN1 ⊢
          clear hwq HTx
          have K1 := sortedU_any w wq _ cs xf HN1.out HAsc.out (by omega)
          have K2 := sortedU_any w wq.drew _ cs xf (HN1.out.on (Touch.refl _ _).drew) HAsc.out (by omega)
          have S0 := (HK.out wq HN1.out.touch).2
          have S1 := (HK.out wq.drew HN1.out.touch.drew).2
          have i3 : (i : Int) < (l.length : Int) := by omega
          have i4 : (0 : Int) ≤ (i : Int) := by omega
          go_region_held3 (fun W => W.cell? ⟨b, o + i * 4 + 1, none⟩ = some (.int .u64 xf) ∧ W.cell? ⟨b, o + i * 4 + 2, none⟩ = some (.int .u64 xt)) (first | assumption)
            (first | (go_at_call 55; first | ((with_reducible refine K1.mono ?_); rintro e w3 ⟨v3, m3, rfl, n3, j3⟩; (obtain ⟨ao7, cap7, rfl, _⟩ := n3.shape); (have N3 : Hid (NewU w w3 (.slice ao7 m3.length cap7) m3 ∧ InsU cs xf m3) := ⟨n3, j3⟩); (have S3 := (HK.out w3 n3.touch).2); (have K3 := sortedU_any w w3 _ m3 xt n3 j3.asc (by have := j3.len; omega)); clear n3 j3) | ((with_reducible refine K2.mono ?_); rintro e w3 ⟨v3, m3, rfl, n3, j3⟩; (obtain ⟨ao7, cap7, rfl, _⟩ := n3.shape); (have N3 : Hid (NewU w w3 (.slice ao7 m3.length cap7) m3 ∧ InsU cs xf m3) := ⟨n3, j3⟩); (have S3 := (HK.out w3 n3.touch).2); (have K3 := sortedU_any w w3 _ m3 xt n3 j3.asc (by have := j3.len; omega)); clear n3 j3) | ((with_reducible refine K3.mono ?_); rintro e w4 ⟨v4, m4, rfl, n4, j4⟩; (obtain ⟨ao8, cap8, rfl, _⟩ := n4.shape); (have N4 : Hid (NewU w w4 (.slice ao8 m4.length cap8) m4 ∧ InsU m3 xt m4) := ⟨n4, j4⟩); (have S4 := (HK.out w4 n4.touch).2); clear n4 j4)))
          all_goals (try go_wp2_with fail)
          all_goals (go_roundg (l.length - (i + 1)))
          all_goals (first | (case measure => omega) | skip)
          all_goals exact ⟨i + 1, m4, by omega, by go_num, ⟨N4.out.1, HAd2.out m3 m4 N3.out.2 N4.out.2⟩, ⟨_, _, rfl⟩⟩
        · have hc1 : (xc == c) = false := by simpa using hc
          have HQ : Hid (EdgU (l.take (i + 1)) c cs) := HSk.out (fun h => hc h.2)
          clear H HSk HAd HK
          go_wp2_with (go_at_call 26; refine (HTx _).mono ?_; rintro e w' ⟨rfl, rfl⟩)
          go_roundg (l.length - (i + 1))
          case measure => omega
          case rel => exact ⟨i + 1, cs, by omega, by go_num, ⟨HN1.out, HQ.out⟩, ⟨_, _, rfl⟩⟩
    · have hil : i = l.length := by omega
      subst hil
      have HQ : Hid (NewU w wr (.slice ao3 cs.length cap3) cs ∧ EdgU l c cs) := by have := H.out; rwa [List.take_length] at this
      clear H
      go_wp2_with fail
      refine bodyPost_ret (v := .slice ao3 cs.length cap3) (by simp [results, Try.results37, go_sem]) rfl ?_
      first | exact ⟨_, _, rfl, HQ.out⟩ | exact ⟨_, rfl, _, HQ.out⟩
end Go.Proofs.Ytccgiabihagjoaa
