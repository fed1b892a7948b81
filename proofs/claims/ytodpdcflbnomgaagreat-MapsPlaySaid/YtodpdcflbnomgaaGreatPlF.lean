/- The document's Maps in memory: what is in a map, below it. -/
import Derived.Test.YtodpdcflbnomgaaGreatPart18
import Derived.Test.YtodpdcflbnomgaaGreatPart15
namespace Go.Proofs.YtodpdcflbnomgaaGreat
open Go.RowKit Go.Maps
set_option linter.unusedVariables false
set_option linter.unusedSimpArgs false
set_option maxRecDepth 100000

theorem OwnZ.cellAt {W w : World} {g n cap : Nat} {M : List ByteArray} (h : OwnZ W w (.slice (some ⟨g, 0, none⟩) n cap) n (cellsZ M)) (hM : M.length = n) {p : Nat} (hp : p < n) : w.cell? ⟨g, p, none⟩ = some (.string (M.getD p ⟨#[]⟩)) := by
  subst hM
  have h' : NewZ W w (.slice (some ⟨g, 0, none⟩) M.length cap) M := h
  obtain ⟨b, o, cp, e, -, -, -, hr⟩ := h'.sl.row (by intro e; rw [e] at hp; simp at hp)
  simp only [Value.slice.injEq, Option.some.injEq, Addr.mk.injEq] at e
  obtain ⟨⟨rfl, rfl, -⟩, -, -⟩ := e
  have := hr p hp
  rw [Nat.mul_one, Nat.zero_add] at this
  rw [this, List.getD_eq_getElem?_getD, List.getElem?_eq_getElem hp]; rfl
theorem OwnZ.put {W w : World} {g n cap : Nat} {M : List ByteArray} (h : OwnZ W w (.slice (some ⟨g, 0, none⟩) n cap) n (cellsZ M)) (hM : M.length = n) {p : Nat} (hp : p < n) (y : ByteArray) : OwnZ W (w.setCell ⟨g, p, none⟩ (.string y)) (.slice (some ⟨g, 0, none⟩) n cap) n (cellsZ (M.set p y)) := by
  have h1 := OwnZ.set h rfl p (by omega) (.string y) rfl
  have h2 := cellsZ_set M p (by omega) y
  rw [Nat.mul_one] at h2
  rw [← h2]; exact h1
/-- So deep it is at most. -/
def DeepR (L : List O) (n : Nat) (c k : Int) : Prop := (c = 0 ∧ k = 0 ∧ L.length + 1 ≤ n) ∨ ∃ j, ∃ hj : j < L.length, L[j].c = c ∧ L[j].k = k ∧ L.length ≤ n + j
theorem DeepR.step {L : List O} (hC : Chain L) (hA : Apart L) (hz : ∀ o ∈ L, o.c ≠ 0) {n : Nat} {c k : Int} (h : DeepR L (n + 1) c k) {b : O} (hb : b ∈ L) (e1 : b.pc = c) (e2 : b.pk = k) : DeepR L n b.c b.k := by
  obtain ⟨i, hi, rfl⟩ := List.mem_iff_getElem.1 hb
  refine .inr ⟨i, hi, rfl, rfl, ?_⟩
  rcases h with ⟨_, _, q⟩ | ⟨j, hj, q1, q2, q3⟩
  · omega
  · rcases hC i hi with ⟨z1, z2⟩ | ⟨j2, hj2, z0, z1, z2⟩
    · exact absurd (by rw [q1, ← e1]; exact z1) (hz _ (List.getElem_mem hj))
    · have := hA j j2 hj (by omega) (by rw [q1, z1, e1]) (by rw [q2, z2, e2])
      omega
set_option maxHeartbeats 64000000 in
theorem below_any {w : World} {b : Nat} {lv hv : Value} {L : List O} {H : List Rg} (h : RfC w b lv hv L H) (hHl : H.length ≤ 1073741824) (hLl : L.length ≤ 100000) (hC : Chain L) (hA : Apart L) (hz : ∀ o ∈ L, o.c ≠ 0) : ∀ (n : Nat) (c k : Int) (W0 : World), DeepR L n c k → Touch (fun _ => False) w W0 →
    Calls Tryz.prog 38 #[.pointer (some ⟨b, 0, none⟩), idV c k] W0 fun e w' => ∃ v, e = .returned v ∧ EtAt w' (fun q => W0.heap.size ≤ q) n v (viewR H L n c k) ∧ Touch (fun _ => False) W0 w' := by
  intro n
  induction n with
  | zero =>
    intro c k W0 hd
    rcases hd with ⟨_, _, q⟩ | ⟨j, hj, _, _, q⟩
    · omega
    · omega
  | succ n ih =>
    intro c k W0 hd t0
    obtain ⟨B, hB⟩ : ∃ B, Hid (B = W0.heap.size) := ⟨_, Eq.refl _⟩
    obtain ⟨E, hE⟩ : ∃ E, Hid (E = W0.alloc (idO c k)) := ⟨_, Eq.refl _⟩
    have HE : Hid (Touch (fun _ => False) W0 E ∧ Touch (fun _ => False) w E ∧ E.heap[B]? = some (idO c k)) := by
      have t1 : Touch (fun _ => False) W0 E := by rw [hE.out]; exact (Touch.refl _ _).alloc _
      exact ⟨t1, t0.trans t1, by rw [hE.out, hB.out]; exact heap_alloc_new _ _⟩
    have HR : Hid (∀ W, Touch (fun _ => False) E W → _) := fun W (t : Touch (fun _ => False) E W) => h.rows (HE.out.2.1.trans t)
    have HBc : Hid (∀ W, Touch (fun _ => False) E W → W.cell? ⟨B, 0, none⟩ = some (.int .u64 c) ∧ W.cell? ⟨B, 1, none⟩ = some (.int .u64 k)) := fun W t => by
      have p := (t.block B (lt_of_heap HE.out.2.2) id).trans HE.out.2.2
      exact ⟨by rw [cell_of_block p]; rfl, by rw [cell_of_block p]; rfl⟩
    have HGe : Hid (∀ ky W, Touch (fun _ => False) E W → Calls Tryz.prog 10 #[.pointer (some ⟨b, 0, none⟩), idV c k, .string ky] W fun e w' => e = .returned (.tuple #[(getR H L c k ky).1.val, .bool (getR H L c k ky).2]) ∧ Touch (fun _ => False) W w') := fun ky W t => rget_any (h.touch (HE.out.2.1.trans t)) hHl c k ky
    have HIH : Hid (∀ (c k : Int) (W0 : World), DeepR L n c k → Touch (fun _ => False) w W0 → Calls Tryz.prog 38 #[.pointer (some ⟨b, 0, none⟩), idV c k] W0 fun e w' => ∃ v, e = .returned v ∧ EtAt w' (fun q => W0.heap.size ≤ q) n v (viewR H L n c k) ∧ Touch (fun _ => False) W0 w') := ih
    have HVS : Hid (viewR H L (n + 1) c k = (keysR L c k).filterMap fun ky => entE (viewR H L n) (getR H L c k (strK ky)) ky) := rfl
    have HKs : Hid (∀ i, i < L.length → (L.take (i + 1)).foldl (keyStep c k) [] = keyStep c k ((L.take i).foldl (keyStep c k) []) (L.getD i zeroO)) := fun i hi => keys_at hi
    have HKl : Hid (∀ i, i ≤ L.length → ((L.take i).foldl (keyStep c k) []).length ≤ 100000) := fun i hi => by
      have := keys_fold_len c k (L.take i) []
      simp only [List.length_nil, List.length_take] at this
      show _ ≤ _
      omega
    have HK0 : Hid ((L.take 0).foldl (keyStep c k) [] = []) := rfl
    have HKn : Hid (keysR L c k = (L.take L.length).foldl (keyStep c k) []) := by rw [Hid, List.take_length]; rfl
    have HGs : Hid (∀ ky, (getR H L c k ky).2 = true → (getR H L c k ky).1.ky = ky ∧ DeepR L n (getR H L c k ky).1.c (getR H L c k ky).1.k) := fun ky q => by
      rcases getR_some (H := H) (L := L) (c := c) (k := k) (ky := ky) with e | ⟨x, hx, p1, p2, p3, e⟩
      · rw [e] at q; cases q
      · rw [e]; exact ⟨p3, hd.step hC hA hz hx p1 p2⟩
    clear ih t0 h hHl hC hA hz hd
    generalize hnn : L.length = N at *
    generalize hnd : (fun i => L.getD i zeroO) = nd at *
    have hnd2 : ∀ i, L.getD i zeroO = nd i := fun i => by rw [← hnd]
    simp only [hnd2] at HR HKs
    generalize hkf : (fun i => (L.take i).foldl (keyStep c k) []) = kf at *
    have hkf2 : ∀ i, (L.take i).foldl (keyStep c k) [] = kf i := fun i => by rw [← hkf]
    simp only [hkf2] at HKs HKl HK0 HKn
    clear hnd hnd2 hkf hkf2 hnn
    go_enter Tryz.func38, Tryz.ntmps38
    go_upto_region 1 with fail
    rw [← hE.out, ← hB.out]
    clear hE hB
    go_wp2_with fail
    go_loopg [5, 6] N (fun gk s5 s6 wr => ∃ (i : Nat) (ka : Option Addr) (kn kc : Nat), i + gk = N ∧ s5 = .slice ka kn kc ∧ s6 = .int .i64 (i : Int) ∧ Hid (NewZ E wr (.slice ka kn kc) ((kf i).map strK) ∧ kn = ((kf i).map strK).length))
    case atStart => exact ⟨0, none, 0, 0, by omega, rfl, rfl, by rw [HK0.out]; exact ⟨NewZ.nil E E (Touch.refl _ _), rfl⟩⟩
    case round =>
      obtain ⟨i, ka, kn, kc, hig, rfl, rfl, HI⟩ := hrel
      obtain ⟨wo, hwo⟩ : ∃ wo, wo = wr := ⟨_, rfl⟩
      subst hwo
      obtain ⟨ao, cap, hlv, q0, q1, c0, c1, q2⟩ := HR.out wo HI.out.1.touch
      by_cases hil : i < N
      · obtain ⟨g, o, rfl, q3⟩ := q2 (by omega)
        have HRx : Hid (∀ W, Touch (fun _ => False) E W → W.cell? ⟨b, 0, none⟩ = some (.slice (some ⟨g, o, none⟩) N cap) ∧ W.cell? ⟨g, o + i * 22 + 13, none⟩ = some (.string (nd i).ky)) := fun W t => by
          obtain ⟨ao', cap', hlv', _, _, c0', _, q2'⟩ := HR.out W t
          rw [hlv] at hlv'
          simp only [Value.slice.injEq] at hlv'
          obtain ⟨rfl, -, rfl⟩ := hlv'
          obtain ⟨g', o', e', q3'⟩ := q2' (by omega)
          simp only [Option.some.injEq, Addr.mk.injEq] at e'
          obtain ⟨rfl, rfl, -⟩ := e'
          exact ⟨c0', (rng_cells (q3' i hil)).2.2.2.1⟩
        obtain ⟨d0, d1, d9, d13, d14, d15⟩ := rng_cells (q3 i hil)
        obtain ⟨b0, b1⟩ := HBc.out wo HI.out.1.touch
        have HSt : Hid (kf (i + 1) = keyStep c k (kf i) (nd i)) := HKs.out i hil
        have hkl : (kf i).length ≤ 100000 := HKl.out i (by omega)
        have Hil : Hid (i + 1 ≤ N) := hil
        have hN1 : N ≤ 100000 := hLl
        have l1 : (i : Int) < (N : Int) := by omega
        have l0 : (0 : Int) ≤ (i : Int) := by omega
        generalize nd i = x at *
        clear q3 q2 d0 d1 d9 d13
        subst hlv
        have HIn : Hid (keyStep c k (kf i) x = if (x.pc == c && x.pk == k) = true then insK (kf i) x.ky.data.toList else kf i) := rfl
        cases e1 : (x.pc == c && x.pk == k) with
        | false =>
          have HF : Hid (kf (i + 1) = kf i) := by rw [Hid, HSt.out, HIn.out, e1]; rfl
          have HQ : Hid (∀ m, NewZ E (wo.drewN m) (.slice ka kn kc) ((kf (i + 1)).map strK) ∧ kn = ((kf (i + 1)).map strK).length) := fun m => by rw [HF.out]; exact ⟨HI.out.1.on ((Touch.refl _ wo).drewN m), HI.out.2⟩
          clear HRx HIn HSt HI
          rw [Bool.and_eq_false_iff] at e1
          go_upto_region 5 with fail
          rcases e1 with e1 | e1
          all_goals (go_quiet (fail))
          all_goals (go_wp2_with fail)
          all_goals (go_roundg (N - (i + 1)))
          all_goals (first | (case measure => omega) | skip)
          all_goals exact ⟨i + 1, ka, kn, kc, by have := Hil.out; omega, rfl, by go_num, HQ.out _⟩
        | true =>
          have HF : Hid (kf (i + 1) = insK (kf i) x.ky.data.toList) := by rw [Hid, HSt.out, HIn.out, e1]; rfl
          clear HIn HSt
          rw [Bool.and_eq_true] at e1
          obtain ⟨e1, e2⟩ := e1
          go_upto_region 5 with fail
          go_quiet (fail)
          have HNa : Hid (∀ W, Touch (fun _ => False) wo W → NewZ E W (.slice ka kn kc) ((kf i).map strK)) := fun W t => HI.out.1.on t
          have HKn2 : Hid (kn = (kf i).length) := by rw [Hid, HI.out.2]; simp
          have hkn : kn ≤ 100000 := by rw [HKn2.out]; exact hkl
          have Tq : Touch (fun _ => False) wo (wo.drewN nq) := (Touch.refl _ wo).drewN' nq
          generalize wo.drewN nq = wq0 at *
          have HTq0 : Hid (Touch (fun _ => False) wo wq0) := Tq
          clear Tq HI d14 d15 b0 b1 c0 c1
          go_wp2_with fail
          go_loopg [7] kn (fun g7 s7 wq => ∃ j : Nat, j + g7 = kn ∧ s7 = .int .i64 (j : Int) ∧ Hid (Touch (fun _ => False) wo wq ∧ ∀ q, q < j → bytesBefore ((kf i).getD q []) x.ky.data.toList = true))
          case atStart => exact ⟨0, by omega, rfl, HTq0.out, fun q hq => by omega⟩
          case round =>
            obtain ⟨j, hjg, rfl, HJ⟩ := hrel
            obtain ⟨r0, r13⟩ := HRx.out wr (HNa.out wr HJ.out.1).touch
            by_cases hjl : j < kn
            · have hkc : j < (kf i).length := by rw [← HKn2.out]; exact hjl
              have hgd : (kf i).getD j [] = (kf i)[j] := by rw [List.getD_eq_getElem?_getD, List.getElem?_eq_getElem hkc]; rfl
              obtain ⟨kb, ko, kcp, hke, -, -, -, hkr⟩ := (HNa.out wr HJ.out.1).sl.row (by intro e; have := congrArg List.length e; simp at this; rw [this] at hkc; simp at hkc)
              simp only [Value.slice.injEq] at hke
              obtain ⟨rfl, -, rfl⟩ := hke
              have hk0 := hkr j (by simpa using hkc)
              rw [Nat.mul_one, List.getElem_map, ← hgd] at hk0
              have j0 : (0 : Int) ≤ (j : Int) := by omega
              have j1 : (j : Int) < (kn : Int) := by omega
              have HBf : Hid (Op.bytesLess (strK ((kf i).getD j [])).toList x.ky.toList = bytesBefore ((kf i).getD j []) x.ky.data.toList) := by rw [Hid, less_before, ba_toList, ba_toList]
              have HEq : Hid (((strK ((kf i).getD j [])).toList == x.ky.toList) = true → (kf i).getD j [] = x.ky.data.toList) := fun q => by
                have := congrArg (fun z : ByteArray => z.data.toList) (bytes_eqP.1 q)
                simpa [strK] using this
              have HEq2 : Hid (((strK ((kf i).getD j [])).toList == x.ky.toList) = false → (kf i).getD j [] ≠ x.ky.data.toList) := fun q e => by
                rw [Bool.eq_false_iff] at q
                exact q (bytes_eqP.2 (by rw [e, strK_toList]))
              clear hkr hgd hkc
              generalize strK ((kf i).getD j []) = yb at *
              cases e3 : Op.bytesLess yb.toList x.ky.toList with
              | true =>
                have HNx : Hid (∀ q, q < j + 1 → bytesBefore ((kf i).getD q []) x.ky.data.toList = true) := fun q hq => by
                  by_cases hqj : q < j
                  · exact HJ.out.2 q hqj
                  · rw [show q = j by omega, ← HBf.out, e3]
                have HTn : Hid (∀ m, Touch (fun _ => False) wo (wr.drewN m)) := fun m => HJ.out.1.drewN' m
                clear HBf HEq HEq2
                go_upto_region 7 with fail
                go_quiet (fail)
                go_wp2_with fail
                go_roundg (kn - (j + 1))
                case measure => omega
                case rel => exact ⟨j + 1, by omega, by go_num, HTn.out _, HNx.out⟩
              | false =>
                have hge : bytesBefore ((kf i).getD j []) x.ky.data.toList = false := by rw [← HBf.out, e3]
                cases e4 : (yb.toList == x.ky.toList) with
                | true =>
                  have HF2 : Hid (kf (i + 1) = kf i) := by rw [Hid, HF.out]; exact insK_hit _ _ j (by rw [← HKn2.out]; exact hjl) HJ.out.2 (HEq.out e4)
                  have HQ : Hid (∀ W, Touch (fun _ => False) wo W → NewZ E W (.slice (some ⟨kb, ko, none⟩) kn kc) ((kf (i + 1)).map strK) ∧ kn = ((kf (i + 1)).map strK).length) := fun W t => by rw [HF2.out]; exact ⟨HNa.out W t, by rw [List.length_map]; exact HKn2.out⟩
                  have T0 : Touch (fun _ => False) wo wr := HJ.out.1
                  clear HBf HEq HEq2 hge HNa HJ
                  go_upto_region 7 with fail
                  go_quiet (fail)
                  have HTn : Hid (∀ m, Touch (fun _ => False) wo (wr.drewN m)) := fun m => T0.drewN' m
                  go_upto_region 9 with fail
                  go_quiet (fail)
                  go_wp2_with fail
                  go_roundg (N - (i + 1))
                  case measure => omega
                  case rel => exact ⟨i + 1, _, _, _, by have := Hil.out; omega, rfl, by go_num, HQ.out _ (HTn.out _)⟩
                | false =>
                  have HMs : Hid (kf (i + 1) = (kf i).take j ++ x.ky.data.toList :: (kf i).drop j) := by rw [Hid, HF.out]; exact insK_miss _ _ j (by rw [← HKn2.out]; omega) HJ.out.2 (fun _ => ⟨hge, HEq2.out e4⟩)
                  have T0 : Touch (fun _ => False) wo wr := HJ.out.1
                  clear HBf HEq HEq2 hge HJ
                  go_upto_region 7 with fail
                  go_quiet (fail)
                  generalize nq = qA at *
                  go_upto_region 9 with fail
                  go_quiet (fail)
                  have HT2 : Hid (Touch (fun _ => False) wo ((wr.drewN qA).drewN nq)) := (T0.drewN' qA).drewN' nq
                  generalize (wr.drewN qA).drewN nq = wz at *
                  have HZ : Hid (NewZ E wz (.slice (some ⟨kb, ko, none⟩) kn kc) ((kf i).map strK)) := HNa.out wz HT2.out
                  clear T0 HT2 HNa r0 r13 hk0
                  obtain ⟨v1, w1, hrun, hN1, -⟩ := HZ.out.app1 ⟨#[]⟩ (by simp; omega)
                  have hbs : (Instr.buildSlice 42 1 #[(0, .string ⟨#[]⟩)]).run Tryz.prog wz = .ok (.slice (some ⟨wz.heap.size, 0, none⟩) 1 1) (wz.alloc (zO ⟨#[]⟩)) := by kernel_rfl
                  go_upto_region 10 with fail
                  refine wp_region_lit ?_
                  iterate 2 (refine wpList_plain rfl fun K hK => ?_; go_simp; refine hK _ _ ?_; clear hK K)
                  refine wpList_append_runZ rfl (.tmp 73) (.tmp 74) rfl _ _ _ rfl rfl hrun ?_
                  simp only [Act.put, List.setIfInBounds_toArray, List.set_cons_succ, List.set_cons_zero]
                  obtain ⟨a1, cp1, hv1, hne1, hc1, hc2⟩ := OwnZ.shape hN1
                  have hlen1 : ((kf i).map strK ++ [(⟨#[]⟩ : ByteArray)]).length = kn + 1 := by simp [HKn2.out]
                  obtain ⟨g1, rfl⟩ := hne1 (by rw [hlen1]; omega)
                  have HN1 : Hid (OwnZ E w1 v1 (kn + 1) (cellsZ ((kf i).map strK ++ [⟨#[]⟩])) ∧ kn + 1 ≤ cp1) := ⟨by rw [← hlen1]; exact hN1, by rw [← hlen1]; exact hc1⟩
                  rw [hlen1] at hv1
                  subst hv1
                  clear hrun hN1 hbs hlen1 hc1 HZ
                  iterate 1 (refine wpList_plain rfl fun K hK => ?_; go_simp; refine hK _ _ ?_; clear hK K)
                  have hw1 : IntKind.i64.wrap (kn : Int) = (kn : Int) := by rw [IntKind.wrap_i64]; omega
                  go_wp2_with fail
                  go_loopg [8] (kn - j) (fun g8 s8 wr => ∃ (m : Nat) (M : List ByteArray), Hid (m = j + g8) ∧ m ≤ kn ∧ s8 = .int .i64 (m : Int) ∧ Hid (OwnZ E wr (.slice (some ⟨g1, 0, none⟩) (kn + 1) cp1) (kn + 1) (cellsZ M) ∧ Moved M ((kf i).map strK) m))
                  case atStart => exact ⟨kn, _, by show kn = _; omega, Nat.le_refl _, rfl, HN1.out.1, by have := Moved.start ((kf i).map strK) ⟨#[]⟩; rw [List.length_map, ← HKn2.out] at this; exact this⟩
                  case round =>
                    obtain ⟨m, M, hmg, hmk, rfl, HM⟩ := hrel
                    have hMl : Hid (M.length = kn + 1) := by rw [Hid, HM.out.2.len, List.length_map, HKn2.out]
                    by_cases hmj : j < m
                    · obtain ⟨p, rfl⟩ : ∃ p, m = p + 1 := ⟨m - 1, by omega⟩
                      have cp := HM.out.1.cellAt hMl.out (p := p) (by omega)
                      have cq := HM.out.1.cellAt hMl.out (p := p + 1) (by omega)
                      have fq := OwnZ.free HM.out.1 rfl (by omega) (p + 1)
                      have hw2 : IntKind.i64.wrap (p : Int) = (p : Int) := by rw [IntKind.wrap_i64]; omega
                      have HP : Hid (OwnZ E (wr.setCell ⟨g1, p + 1, none⟩ (.string (M.getD p ⟨#[]⟩))) (.slice (some ⟨g1, 0, none⟩) (kn + 1) cp1) (kn + 1) (cellsZ (M.set (p + 1) (M.getD p ⟨#[]⟩))) ∧ Moved (M.set (p + 1) (M.getD p ⟨#[]⟩)) ((kf i).map strK) p) := ⟨HM.out.1.put hMl.out (by omega) _, HM.out.2.step (by rw [List.length_map, ← HKn2.out]; omega)⟩
                      have m0 : (j : Int) < (p : Int) + 1 := by omega
                      have m1 : (0 : Int) ≤ (p : Int) := by omega
                      have m2 : (p : Int) < (kn : Int) + 1 := by omega
                      have m3 : (p : Int) + 1 < (kn : Int) + 1 := by omega
                      have m4 : (0 : Int) ≤ (p : Int) + 1 := by omega
                      generalize M.getD p ⟨#[]⟩ = yp at *
                      clear HM hMl
                      go_wp2_with fail
                      skip
                      go_roundg (p - j)
                      case measure => have := hmg.out; omega
                      case rel => exact ⟨p, _, by show p = _; omega, by omega, by go_num, HP.out⟩
                    · have : j = m := by have h9 := hmg.out; omega
                      subst this
                      have cq := HM.out.1.cellAt hMl.out (p := j) (by omega)
                      have fq := OwnZ.free HM.out.1 rfl (by omega) j
                      obtain ⟨r0, r13⟩ := HRx.out wr HM.out.1.touch
                      have HP : Hid (OwnZ E (wr.setCell ⟨g1, j, none⟩ (.string x.ky)) (.slice (some ⟨g1, 0, none⟩) (kn + 1) cp1) (kn + 1) (cellsZ (M.set j x.ky))) := HM.out.1.put hMl.out (by omega) _
                      have HL9 : Hid (M.set j x.ky = (kf (i + 1)).map strK) := by
                        rw [Hid, HM.out.2.done (by rw [List.length_map, ← HKn2.out]; omega), HMs.out, List.map_append, List.map_cons, List.map_take, List.map_drop, strK_toList]
                      have HP2 : Hid (NewZ E (wr.setCell ⟨g1, j, none⟩ (.string x.ky)) (.slice (some ⟨g1, 0, none⟩) (kn + 1) cp1) ((kf (i + 1)).map strK) ∧ kn + 1 = ((kf (i + 1)).map strK).length) := by
                        have e : ((kf (i + 1)).map strK).length = kn + 1 := by rw [← HL9.out, List.length_set]; exact hMl.out
                        refine ⟨?_, e.symm⟩
                        show OwnZ _ _ _ _ _
                        rw [e, ← HL9.out]; exact HP.out
                      have m1 : (0 : Int) ≤ (j : Int) := by omega
                      have m2 : (j : Int) < (kn : Int) + 1 := by omega
                      clear HM hMl HP HL9
                      go_wp2_with fail
                      go_roundg (N - (i + 1))
                      case measure => omega
                      case rel => exact ⟨i + 1, _, _, _, by have := Hil.out; omega, rfl, by go_num, HP2.out⟩
            · have hj2 : kn = j := by omega
              subst hj2
              have HMs : Hid (kf (i + 1) = (kf i).take kn ++ x.ky.data.toList :: (kf i).drop kn) := by rw [Hid, HF.out]; exact insK_miss _ _ kn (by rw [← HKn2.out]; omega) HJ.out.2 (fun q => by rw [← HKn2.out] at q; omega)
              have T0 : Touch (fun _ => False) wo wr := HJ.out.1
              clear HJ
              go_upto_region 7 with fail
              go_quiet (fail)
              generalize nq = qA at *
              go_upto_region 9 with fail
              go_quiet (fail)
              have HT2 : Hid (Touch (fun _ => False) wo ((wr.drewN qA).drewN nq)) := (T0.drewN' qA).drewN' nq
              generalize (wr.drewN qA).drewN nq = wz at *
              have HZ : Hid (NewZ E wz (.slice ka kn kc) ((kf i).map strK)) := HNa.out wz HT2.out
              clear T0 HT2 HNa r0 r13
              obtain ⟨v1, w1, hrun, hN1, -⟩ := HZ.out.app1 ⟨#[]⟩ (by simp; omega)
              have hbs : (Instr.buildSlice 42 1 #[(0, .string ⟨#[]⟩)]).run Tryz.prog wz = .ok (.slice (some ⟨wz.heap.size, 0, none⟩) 1 1) (wz.alloc (zO ⟨#[]⟩)) := by kernel_rfl
              go_upto_region 10 with fail
              refine wp_region_lit ?_
              iterate 2 (refine wpList_plain rfl fun K hK => ?_; go_simp; refine hK _ _ ?_; clear hK K)
              refine wpList_append_runZ rfl (.tmp 73) (.tmp 74) rfl _ _ _ rfl rfl hrun ?_
              simp only [Act.put, List.setIfInBounds_toArray, List.set_cons_succ, List.set_cons_zero]
              obtain ⟨a1, cp1, hv1, hne1, hc1, hc2⟩ := OwnZ.shape hN1
              have hlen1 : ((kf i).map strK ++ [(⟨#[]⟩ : ByteArray)]).length = kn + 1 := by simp [HKn2.out]
              obtain ⟨g1, rfl⟩ := hne1 (by rw [hlen1]; omega)
              have HN1 : Hid (OwnZ E w1 v1 (kn + 1) (cellsZ ((kf i).map strK ++ [⟨#[]⟩])) ∧ kn + 1 ≤ cp1) := ⟨by rw [← hlen1]; exact hN1, by rw [← hlen1]; exact hc1⟩
              rw [hlen1] at hv1
              subst hv1
              clear hrun hN1 hbs hlen1 hc1 HZ
              iterate 1 (refine wpList_plain rfl fun K hK => ?_; go_simp; refine hK _ _ ?_; clear hK K)
              have hw1 : IntKind.i64.wrap (kn : Int) = (kn : Int) := by rw [IntKind.wrap_i64]; omega
              go_wp2_with fail
              go_loopg [8] (kn - kn) (fun g8 s8 wr => ∃ (m : Nat) (M : List ByteArray), Hid (m = kn + g8) ∧ m ≤ kn ∧ s8 = .int .i64 (m : Int) ∧ Hid (OwnZ E wr (.slice (some ⟨g1, 0, none⟩) (kn + 1) cp1) (kn + 1) (cellsZ M) ∧ Moved M ((kf i).map strK) m))
              case atStart => exact ⟨kn, _, by show kn = _; omega, Nat.le_refl _, rfl, HN1.out.1, by have := Moved.start ((kf i).map strK) ⟨#[]⟩; rw [List.length_map, ← HKn2.out] at this; exact this⟩
              case round =>
                obtain ⟨m, M, hmg, hmk, rfl, HM⟩ := hrel
                have hMl : Hid (M.length = kn + 1) := by rw [Hid, HM.out.2.len, List.length_map, HKn2.out]
                by_cases hmj : kn < m
                · exact absurd hmj (by omega)
                · have : kn = m := by have h9 := hmg.out; omega
                  subst this
                  have cq := HM.out.1.cellAt hMl.out (p := kn) (by omega)
                  have fq := OwnZ.free HM.out.1 rfl (by omega) kn
                  obtain ⟨r0, r13⟩ := HRx.out wr HM.out.1.touch
                  have HP : Hid (OwnZ E (wr.setCell ⟨g1, kn, none⟩ (.string x.ky)) (.slice (some ⟨g1, 0, none⟩) (kn + 1) cp1) (kn + 1) (cellsZ (M.set kn x.ky))) := HM.out.1.put hMl.out (by omega) _
                  have HL9 : Hid (M.set kn x.ky = (kf (i + 1)).map strK) := by
                    rw [Hid, HM.out.2.done (by rw [List.length_map, ← HKn2.out]; omega), HMs.out, List.map_append, List.map_cons, List.map_take, List.map_drop, strK_toList]
                  have HP2 : Hid (NewZ E (wr.setCell ⟨g1, kn, none⟩ (.string x.ky)) (.slice (some ⟨g1, 0, none⟩) (kn + 1) cp1) ((kf (i + 1)).map strK) ∧ kn + 1 = ((kf (i + 1)).map strK).length) := by
                    have e : ((kf (i + 1)).map strK).length = kn + 1 := by rw [← HL9.out, List.length_set]; exact hMl.out
                    refine ⟨?_, e.symm⟩
                    show OwnZ _ _ _ _ _
                    rw [e, ← HL9.out]; exact HP.out
                  have m1 : (0 : Int) ≤ (kn : Int) := by omega
                  have m2 : (kn : Int) < (kn : Int) + 1 := by omega
                  clear HM hMl HP HL9
                  go_wp2_with fail
                  go_roundg (N - (i + 1))
                  case measure => omega
                  case rel => exact ⟨i + 1, _, _, _, by have := Hil.out; omega, rfl, by go_num, HP2.out⟩
      · have hin : i = N := by omega
        subst hin
        have HKN : Hid (kf i = keysR L c k) := HKn.out.symm
        obtain ⟨W2, hW2⟩ : ∃ W, W = wo := ⟨_, rfl⟩
        subst hW2
        have HT2 : Hid (Touch (fun _ => False) E W2) := HI.out.1.touch
        have hkn : kn = (keysR L c k).length := by rw [HI.out.2, HKN.out, List.length_map]
        have hkl : (keysR L c k).length ≤ 100000 := by rw [← HKN.out]; exact HKl.out i (Nat.le_refl _)
        have HSt : Hid (∀ q (hq : q < (keysR L c k).length), ∃ b o, ka = some ⟨b, o, none⟩ ∧ ∀ W, Touch (fun _ => False) W2 W → W.cell? ⟨b, o + q, none⟩ = some (.string (strK (keysR L c k)[q]))) := fun q hq => by
          have hn := HI.out.1
          rw [HKN.out] at hn
          obtain ⟨kb, ko, kcp, hke, -, -, -, -⟩ := hn.sl.row (by intro e; have := congrArg List.length e; simp at this; rw [this] at hq; simp at hq)
          simp only [Value.slice.injEq] at hke
          obtain ⟨rfl, -, rfl⟩ := hke
          refine ⟨kb, ko, rfl, fun W t => ?_⟩
          obtain ⟨kb2, ko2, kcp2, hke2, -, -, -, hkr2⟩ := (show NewZ E W (.slice (some ⟨kb, ko, none⟩) kn kc) ((keysR L c k).map strK) from hn.on t).sl.row (by intro e; have := congrArg List.length e; simp at this; rw [this] at hq; simp at hq)
          simp only [Value.slice.injEq, Option.some.injEq, Addr.mk.injEq] at hke2
          obtain ⟨⟨rfl, rfl, -⟩, -, -⟩ := hke2
          have := hkr2 q (by simpa using hq)
          rw [Nat.mul_one, List.getElem_map] at this
          exact this
        subst hkn
        subst hlv
        clear HI HKN HKn HKl HKs HK0 q2 c1 q0 HR
        generalize hks : keysR L c k = ks at *
        go_wp2_with fail
        clear c0 q1
        go_loopg [9, 10] ks.length (fun gk s9 s10 wr => ∃ (i : Nat) (raws : List Ew) (av : Option Addr) (acap : Nat), i + gk = ks.length ∧ s9 = .slice av raws.length acap ∧ s10 = .int .i64 (i : Int) ∧ Hid (NewQ W2 wr (.slice av raws.length acap) raws ∧ raws.length ≤ i ∧ EtRow (EtAt wr (fun q => W0.heap.size ≤ q ∧ (Value.slice av raws.length acap).ownBlock ≠ some q) n) raws ((ks.take i).filterMap fun ky => entE (viewR H L n) (getR H L c k (strK ky)) ky)))
        case atStart => exact ⟨0, [], none, 0, by omega, rfl, rfl, NewQ.nil W2 W2 (Touch.refl _ _), Nat.le_refl _, EtRow.nil _⟩
        case round =>
          obtain ⟨i, raws, av, acap, hig2, rfl, rfl, HI⟩ := hrel
          by_cases hil2 : i < ks.length
          · obtain ⟨sb, sof, rfl, hst⟩ := HSt.out i hil2
            have HStr : Hid (∀ W, Touch (fun _ => False) W2 W → W.cell? ⟨sb, sof + i, none⟩ = some (.string (strK ks[i]))) := hst
            have hi1 : (0 : Int) ≤ (i : Int) := by omega
            have hi2 : (i : Int) < (ks.length : Int) := by omega
            have HIl : Hid (i < ks.length ∧ ks.length ≤ 100000) := ⟨hil2, hkl⟩
            obtain ⟨en, hen0⟩ : ∃ en, en = entE (viewR H L n) (getR H L c k (strK ks[i])) ks[i] := ⟨_, rfl⟩
            have hen : Hid (en = entE (viewR H L n) (getR H L c k (strK ks[i])) ks[i]) := hen0
            clear hen0
            have HFM : Hid ((ks.take (i + 1)).filterMap (fun ky => entE (viewR H L n) (getR H L c k (strK ky)) ky) = (ks.take i).filterMap (fun ky => entE (viewR H L n) (getR H L c k (strK ky)) ky) ++ en.toList) := by rw [Hid, hen.out]; exact filterMap_take _ ks i hil2
            have HEn : Hid (en = if (getR H L c k (strK ks[i])).2 = true then some (.mk (strK ks[i]) (getR H L c k (strK ks[i])).1.v (if isMapB (getR H L c k (strK ks[i])).1 = true then viewR H L n (getR H L c k (strK ks[i])).1.c (getR H L c k (strK ks[i])).1.k else [])) else none) := hen
            have HGky : Hid ((getR H L c k (strK ks[i])).2 = true → (getR H L c k (strK ks[i])).1.ky = strK ks[i] ∧ DeepR L n (getR H L c k (strK ks[i])).1.c (getR H L c k (strK ks[i])).1.k) := HGs.out _
            have HT : Hid (Touch (fun _ => False) E wr ∧ Touch (fun _ => False) W2 wr) := ⟨HT2.out.trans HI.out.1.touch, HI.out.1.touch⟩
            have HGet : Hid (∀ W, Touch (fun _ => False) wr W → Calls Tryz.prog 10 #[.pointer (some ⟨b, 0, none⟩), idV c k, .string (strK ks[i])] W fun e w' => e = .returned (.tuple #[(getR H L c k (strK ks[i])).1.val, .bool (getR H L c k (strK ks[i])).2]) ∧ Touch (fun _ => False) W w') := fun W t => HGe.out (strK ks[i]) W (HT.out.1.trans t)
            clear hen
            generalize hgs : getR H L c k (strK ks[i]) = GH at HEn HGet HGky
            generalize hky : strK ks[i] = ky at HStr HGet HEn HGky
            have HS : Hid (∀ V, Touch (fun _ => False) wr V → V.cell? ⟨B, 0, none⟩ = some (.int .u64 c) ∧ V.cell? ⟨B, 1, none⟩ = some (.int .u64 k) ∧ V.cell? ⟨sb, sof + i, none⟩ = some (.string ky)) := fun V t => by
              obtain ⟨b0, b1⟩ := HBc.out V (HT.out.1.trans t)
              exact ⟨b0, b1, HStr.out V (HT.out.2.trans t)⟩
            obtain ⟨G, Hb⟩ := GH
            simp only at HGet HEn HGky
            clear hgs hst hky HSt HStr hil2
            generalize hkl0 : ks.length = kn at *
            clear hkl0
            go_upto_region 20 with fail
            refine wp_region_held_drew (S := fun V => V.cell? ⟨B, 0, none⟩ = some (.int .u64 c) ∧ V.cell? ⟨B, 1, none⟩ = some (.int .u64 k) ∧ V.cell? ⟨sb, sof + i, none⟩ = some (.string ky)) (by kernel_rfl) (HS.out _ (Touch.refl _ wr).drew) (fun hHeld => ?_)
            have HTV : Hid (Touch (fun _ => False) wr wr.drew) := (Touch.refl _ _).drew
            obtain ⟨V, hV⟩ : ∃ V, Hid (V = wr.drew) := ⟨_, Eq.refl _⟩
            rw [← hV.out] at hHeld HTV ⊢
            clear hV
            refine wpAnyH_take (i := 0) (oi := { dst := some 110, op := Op.move (Operand.tmp 0), type := 27, pos := "quireref12.go:93", after := #[], guard := none }) (v := (.pointer (some ⟨b, 0, none⟩))) rfl (by kernel_rfl) (by kernel_rfl) (by kernel_rfl) (fun _ _ _ h => h) (Or.inl ⟨by kernel_rfl, ?_⟩) hHeld ?_
            · intro V1 hV1; clear hV1; go_simp
            simp only [Act.put, List.setIfInBounds_toArray, List.set_cons_succ, List.set_cons_zero]
            refine wpAnyH_take (i := 1) (oi := { dst := some 111, op := Op.load 34 (Operand.tmp 3), type := 34, pos := "quireref12.go:93", after := #[], guard := none }) (v := (.agg #[.int .u64 c, .int .u64 k])) rfl (by kernel_rfl) (by kernel_rfl) (by kernel_rfl) (fun _ _ _ h => h) (Or.inl ⟨by kernel_rfl, ?_⟩) hHeld ?_
            · intro V1 hV1; obtain ⟨a0, a1, s0⟩ := hV1; go_simp
            simp only [Act.put, List.setIfInBounds_toArray, List.set_cons_succ, List.set_cons_zero]
            refine wpAnyH_take (i := 2) (oi := { dst := some 112, op := Op.move (Operand.tmp 5), type := 42, pos := "quireref12.go:93", after := #[], guard := none }) (v := (.slice (some ⟨sb, sof, none⟩) kn kc)) rfl (by kernel_rfl) (by kernel_rfl) (by kernel_rfl) (fun _ _ _ h => h) (Or.inl ⟨by kernel_rfl, ?_⟩) hHeld ?_
            · intro V1 hV1; clear hV1; go_simp
            simp only [Act.put, List.setIfInBounds_toArray, List.set_cons_succ, List.set_cons_zero]
            refine wpAnyH_take (i := 3) (oi := { dst := some 113, op := Op.move (Operand.tmp 10), type := 3, pos := "quireref12.go:93", after := #[], guard := none }) (v := (.int .i64 (i : Int))) rfl (by kernel_rfl) (by kernel_rfl) (by kernel_rfl) (fun _ _ _ h => h) (Or.inl ⟨by kernel_rfl, ?_⟩) hHeld ?_
            · intro V1 hV1; clear hV1; go_simp
            simp only [Act.put, List.setIfInBounds_toArray, List.set_cons_succ, List.set_cons_zero]
            refine wpAnyH_take (i := 4) (oi := { dst := some 114, op := Op.indexAddr 42 (Operand.tmp 112) (Operand.tmp 113), type := 0, pos := "quireref12.go:93", after := #[{ on := 2, ground := Ground.data }, { on := 3, ground := Ground.data }], guard := none }) (v := (.pointer (some ⟨sb, sof + i, none⟩))) rfl (by kernel_rfl) (by kernel_rfl) (by kernel_rfl) (fun _ _ _ h => h) (Or.inl ⟨by kernel_rfl, ?_⟩) hHeld ?_
            · intro V1 hV1; clear hV1; go_simp
            simp only [Act.put, List.setIfInBounds_toArray, List.set_cons_succ, List.set_cons_zero]
            refine wpAnyH_take (i := 5) (oi := { dst := some 115, op := Op.load 9 (Operand.tmp 114), type := 9, pos := "quireref12.go:93", after := #[{ on := 4, ground := Ground.data }], guard := none }) (v := (.string ky)) rfl (by kernel_rfl) (by kernel_rfl) (by kernel_rfl) (fun _ _ _ h => h) (Or.inl ⟨by kernel_rfl, ?_⟩) hHeld ?_
            · intro V1 hV1; obtain ⟨a0, a1, s0⟩ := hV1; go_simp
            simp only [Act.put, List.setIfInBounds_toArray, List.set_cons_succ, List.set_cons_zero]
            refine wpAnyH_ready (rs := [6, 10]) (by kernel_rfl) (by simp) ?_
            refine AllReadyH.cons (o := { dst := some 116, op := Op.call { callee := Callee.value (Operand.func 10), args := #[Operand.tmp 110, Operand.tmp 111, Operand.tmp 115], argTypes := #[27, 34, 9] }, type := 49, pos := "quireref12.go:93", after := #[{ on := 0, ground := Ground.data }, { on := 1, ground := Ground.data }, { on := 5, ground := Ground.data }], guard := none }) rfl (fun K hK => ?_) (AllReadyH.cons (o := { dst := some 11, op := Op.alloc 41, type := 0, pos := "quireref12.go:93", after := #[], guard := none }) rfl (fun K hK => ?_) AllReadyH.nil)
            · rw [if_pos (by kernel_rfl)]
              go_simp
              refine (HGet.out V HTV.out).mono ?_
              rintro e w2 ⟨rfl, t2⟩
              have HT2 : Hid (Touch (fun _ => False) wr w2) := HTV.out.trans t2
              clear t2 HTV
              refine hK.out _ _ (HS.out _ HT2.out) (fun hHeld => ?_)
              clear hK K
              refine wpAnyH_take (i := 7) (oi := { dst := some 109, op := Op.move (Operand.tmp 116), type := 49, pos := "quireref12.go:93", after := #[{ on := 6, ground := Ground.data }], guard := none }) (v := (.tuple #[.agg G.vals, .bool Hb])) rfl (by kernel_rfl) (by kernel_rfl) (by kernel_rfl) (fun _ _ _ h => h) (Or.inl ⟨by kernel_rfl, ?_⟩) hHeld ?_
              · intro V1 hV1; clear hV1; go_simp
              simp only [Act.put, List.setIfInBounds_toArray, List.set_cons_succ, List.set_cons_zero]
              refine wpAnyH_take (i := 8) (oi := { dst := some 117, op := Op.extract (Operand.tmp 109) 0, type := 41, pos := "quireref12.go:93", after := #[{ on := 7, ground := Ground.data }], guard := none }) (v := (.agg G.vals)) rfl (by kernel_rfl) (by kernel_rfl) (by kernel_rfl) (fun _ _ _ h => h) (Or.inl ⟨by kernel_rfl, ?_⟩) hHeld ?_
              · intro V1 hV1; clear hV1; go_simp
              simp only [Act.put, List.setIfInBounds_toArray, List.set_cons_succ, List.set_cons_zero]
              refine wpAnyH_take (i := 9) (oi := { dst := some 118, op := Op.extract (Operand.tmp 109) 1, type := 4, pos := "quireref12.go:93", after := #[{ on := 7, ground := Ground.data }, { on := 11, ground := Ground.gcOnly Departure.lateStores }], guard := none }) (v := (.bool Hb)) rfl (by kernel_rfl) (by kernel_rfl) (by kernel_rfl) (fun _ _ _ h => h) (Or.inl ⟨by kernel_rfl, ?_⟩) hHeld ?_
              · intro V1 hV1; clear hV1; go_simp
              simp only [Act.put, List.setIfInBounds_toArray, List.set_cons_succ, List.set_cons_zero]
              refine wpAnyH_ready (rs := [10]) (by kernel_rfl) (by simp) ?_
              refine AllReadyH.cons (o := { dst := some 11, op := Op.alloc 41, type := 0, pos := "quireref12.go:93", after := #[], guard := none }) rfl (fun K hK => ?_) AllReadyH.nil
              rw [if_pos (by kernel_rfl)]
              refine wpO_of_run (v := .pointer (some ⟨w2.heap.size, 0, none⟩)) (w' := w2.alloc zeroOp) ?_ ?_
              · go_simp
              simp only [Act.put, List.setIfInBounds_toArray, List.set_cons_succ, List.set_cons_zero]
              have HT3 : Hid (Touch (fun _ => False) wr (w2.alloc zeroOp)) := HT2.out.alloc _
              refine hK.out _ _ (HS.out _ HT3.out) (fun hHeld => ?_)
              clear hK K
              obtain ⟨X, hX⟩ : ∃ X, Hid (X = w2.heap.size) := ⟨_, Eq.refl _⟩
              obtain ⟨W3, hW3⟩ : ∃ W3, Hid (W3 = w2.alloc zeroOp) := ⟨_, Eq.refl _⟩
              have HBX : Hid (OpAt X zeroO W3 ∧ wr.heap.size ≤ X) := by rw [hX.out, hW3.out]; exact ⟨heap_alloc_new _ _, HT2.out.size⟩
              rw [← hX.out, ← hW3.out]
              rw [← hW3.out] at HT3 hHeld
              clear hX hW3 HT2
              refine wpAnyH_ready (rs := [11]) (by kernel_rfl) (by simp) ?_
              refine AllReadyH.cons (o := { dst := none, op := Op.store 41 (Operand.tmp 11) (Operand.tmp 117), type := 0, pos := "quireref12.go:93", after := #[{ on := 10, ground := Ground.data }, { on := 8, ground := Ground.data }, { on := 6, ground := Ground.chain }, { on := 0, ground := Ground.phase }, { on := 1, ground := Ground.phase }, { on := 2, ground := Ground.phase }, { on := 3, ground := Ground.phase }, { on := 4, ground := Ground.phase }, { on := 5, ground := Ground.phase }, { on := 6, ground := Ground.phase }, { on := 7, ground := Ground.phase }, { on := 8, ground := Ground.phase }, { on := 9, ground := Ground.textOnly Departure.lateStores }, { on := 10, ground := Ground.phase }], guard := none }) rfl (fun K hK => ?_) AllReadyH.nil
              rw [if_pos (by kernel_rfl)]
              refine wp_store_mid 41 (.tmp 11) (.tmp 117) rfl X 0 G.vals rfl rfl (HBX.out.1.there 0 22 (by decide)) (by kernel_rfl) (by kernel_rfl) ?_
              simp only [Act.put]
              obtain ⟨W4, hW4⟩ : ∃ W4, Hid (W4 = W3.setCells X 0 G.vals.toList) := ⟨_, Eq.refl _⟩
              have HT4 : Hid (Touch (fun _ => False) wr W4 ∧ OpAt X G W4 ∧ wr.heap.size ≤ X) := by rw [hW4.out]; exact ⟨HT3.out.stores HBX.out.2 0 _, HBX.out.1.store0, HBX.out.2⟩
              rw [← hW4.out]
              clear hW4 HT3 HBX
              refine hK.out _ _ (HS.out _ HT4.out.1) (fun hHeld => ?_)
              clear hK K
              refine wpAnyH_take (i := 12) (oi := { dst := some 12, op := Op.assign (Operand.tmp 118), type := 4, pos := "quireref12.go:93", after := #[{ on := 9, ground := Ground.data }, { on := 11, ground := Ground.chain }, { on := 0, ground := Ground.phase }, { on := 1, ground := Ground.phase }, { on := 2, ground := Ground.phase }, { on := 3, ground := Ground.phase }, { on := 4, ground := Ground.phase }, { on := 5, ground := Ground.phase }, { on := 6, ground := Ground.phase }, { on := 7, ground := Ground.phase }, { on := 8, ground := Ground.phase }, { on := 9, ground := Ground.phase }, { on := 10, ground := Ground.phase }, { on := 11, ground := Ground.phase }], guard := none }) (v := (.bool Hb)) rfl (by kernel_rfl) (by kernel_rfl) (by kernel_rfl) (fun _ _ _ h => h) (Or.inl ⟨by kernel_rfl, ?_⟩) hHeld ?_
              · intro V1 hV1; clear hV1; go_simp
              simp only [Act.put, List.setIfInBounds_toArray, List.set_cons_succ, List.set_cons_zero]
              refine wpAnyH_done (by kernel_rfl) ?_ _
              try simp only [List.getElem_toArray, List.getElem_cons_succ, List.getElem_cons_zero, List.setIfInBounds_toArray, List.set_cons_succ, List.set_cons_zero]
              clear hHeld HS HGet
              generalize Value.agg G.vals = gv
              have HT5a : Hid (Touch (fun _ => False) E W4 ∧ Touch (fun _ => False) W2 W4 ∧ Touch (fun _ => False) wr W4 ∧ OpAt X G W4) := ⟨HT.out.1.trans HT4.out.1, HT.out.2.trans HT4.out.1, HT4.out.1, HT4.out.2.1⟩
              clear HT4
              cases Hb with
              | false =>
                have HQ : Hid (NewQ W2 W4 (.slice av raws.length acap) raws ∧ raws.length ≤ i + 1 ∧ EtRow (EtAt W4 (fun q => W0.heap.size ≤ q ∧ (Value.slice av raws.length acap).ownBlock ≠ some q) n) raws ((ks.take (i + 1)).filterMap fun ky => entE (viewR H L n) (getR H L c k (strK ky)) ky)) := by
                  refine ⟨HI.out.1.on HT5a.out.2.2.1, by have := HI.out.2.1; omega, ?_⟩
                  rw [HFM.out]
                  have : en = none := by rw [HEn.out]; rfl
                  rw [this]
                  simpa using HI.out.2.2.mono fun v l q => EtAt.touch HT5a.out.2.2.1 (fun _ _ => id) q
                clear HT5a HT HI HFM HEn HGky
                go_wp2_with fail
                go_roundg (kn - (i + 1))
                case measure => have := HIl.out; omega
                case rel => exact ⟨i + 1, raws, av, acap, by have := HIl.out; omega, rfl, by go_num, HQ.out⟩
              | true =>
                have v13 := HT5a.out.2.2.2.q13
                rw [(HGky.out rfl).1] at v13
                go_upto_region 22 with fail
                refine wp_region_lit ?_
                iterate 3 (refine wpList_plain rfl fun K hK => ?_; go_simp; refine hK _ _ ?_; clear hK K)
                refine wpList_load_mid rfl 37 (.tmp 123) rfl X 9 rfl [.int .i64 G.vk, .int .i64 G.vn, .float .f64 G.vf, .string G.vs] _ (OpAt.valAt HT5a.out.2.2.2) Tryz.underlying37 rfl (by kernel_rfl) ?_
                simp only [Act.put, List.setIfInBounds_toArray, List.set_cons_succ, List.set_cons_zero]
                iterate 2 (refine wpList_plain rfl fun K hK => ?_; go_simp; refine hK _ _ ?_; clear hK K)
                refine wpList_store_mid rfl 61 (.tmp 13) (.tmp 125) rfl W4.heap.size 0 #[.string ky, .int .i64 G.vk, .int .i64 G.vn, .float .f64 G.vf, .string G.vs, .slice none 0 0] rfl rfl (there_ofS (heap_alloc_new W4 zeroEw) 0 6 (by decide)) (by kernel_rfl) (by kernel_rfl) ?_
                simp only [Act.put]
                obtain ⟨Y, hY⟩ : ∃ Y, Hid (Y = W4.heap.size) := ⟨_, Eq.refl _⟩
                obtain ⟨w6, hw6⟩ : ∃ W, Hid (W = (W4.alloc zeroEw).setCells W4.heap.size 0 [.string ky, .int .i64 G.vk, .int .i64 G.vn, .float .f64 G.vf, .string G.vs, .slice none 0 0]) := ⟨_, Eq.refl _⟩
                have hn5 := newEw W4 ⟨ky, G.vk, G.vn, G.vf, G.vs, ⟨none, 0, 0⟩⟩
                simp only at hn5
                rw [← hw6.out] at hn5 ⊢
                rw [← hY.out] at hn5 ⊢
                have HT6 : Hid (Touch (fun _ => False) E w6 ∧ Touch (fun _ => False) W2 w6 ∧ Touch (fun _ => False) wr w6 ∧ OpAt X G w6 ∧ w6.heap[Y]? = some (ewO ⟨ky, G.vk, G.vn, G.vf, G.vs, ⟨none, 0, 0⟩⟩) ∧ W2.heap.size ≤ Y) := ⟨HT5a.out.1.trans hn5.1, HT5a.out.2.1.trans hn5.1, HT5a.out.2.2.1.trans hn5.1, HT5a.out.2.2.2.keep hn5.1, hn5.2, by rw [hY.out]; exact HT5a.out.2.1.size⟩
                have HYw : Hid (wr.heap.size ≤ Y) := by rw [hY.out]; exact HT5a.out.2.2.1.size
                clear hn5 hw6 hY HT5a v13 HT
                have v9 := HT6.out.2.2.2.1.q9
                cases hvk5 : (G.vk == 5) with
                | false =>
                  have hmb : isMapB G = false := by unfold isMapB; simpa using hvk5
                  obtain ⟨kd, hkd⟩ : ∃ kd : List Et, kd = [] := ⟨_, rfl⟩
                  obtain ⟨r, hr⟩ : ∃ r : Ew, Hid (w6.heap[Y]? = some (ewO r) ∧ r.ky = ky ∧ (⟨r.vk, r.vn, r.vf, r.vs⟩ : Go.Proofs.YtodpdcflbnomgaaGreat.V) = G.v ∧ EtAt w6 (fun q => wr.heap.size ≤ q) n r.ks.val kd ∧ Touch (fun _ => False) wr w6 ∧ Touch (fun _ => False) W2 w6) := ⟨⟨ky, G.vk, G.vn, G.vf, G.vs, ⟨none, 0, 0⟩⟩, HT6.out.2.2.2.2.1, rfl, rfl, by rw [hkd]; exact EtAt.nil _ _ _, HT6.out.2.2.1, HT6.out.2.1⟩
                  have HK : Hid (en.toList = [Et.mk ky G.v kd]) := by rw [Hid, HEn.out, hkd, if_pos rfl, if_neg (by rw [hmb]; simp)]; rfl
                  clear HT6 hkd HGky
                  obtain ⟨w7, hw7⟩ : ∃ x, x = w6 := ⟨_, rfl⟩
                  rw [← hw7] at hr v9 ⊢
                  clear hw7
                  have HHx : Hid (w7.heap[Y]? = some (ewO r)) := hr.out.1
                  have HNw : Hid (NewQ W2 w7 (.slice av raws.length acap) raws) := HI.out.1.on hr.out.2.2.2.2.1
                  have hlen : raws.length ≤ 1073741824 := by have := HI.out.2.1; have := HIl.out; omega
                  have hown0 : (w7.alloc (ewO r)).ownsRow 0 61 6 (.slice av raws.length acap) raws.length (cellsQ raws) := (HNw.out.on ((Touch.refl _ w7).alloc (ewO r))).owns
                  obtain ⟨v', w8, hrun, hown8, hg8, hb8⟩ := run_appendQ (w7.alloc (ewO r)) (.slice av raws.length acap) raws hown0 (some ⟨w7.heap.size, 0, none⟩) 1 1 [r] rfl (fun h => by cases h) (LiesQ.new w7 r) (by simp; omega)
                  have hsz7 : (w7.alloc (ewO r)).heap.size = w7.heap.size + 1 := by simp
                  have hvlt : ∀ q, (Value.slice av raws.length acap).ownBlock = some q → W2.heap.size ≤ q := HNw.out.fresh
                  have htg : Touch (fun q => (Value.slice av raws.length acap).ownBlock = some q) w7 w8 := ((Touch.refl (fun q => (Value.slice av raws.length acap).ownBlock = some q) w7).alloc (ewO r)).grown hg8 fun q e _ => e
                  have hW27 : W2.heap.size ≤ w7.heap.size := hr.out.2.2.2.2.2.size
                  have hn8 : NewQ W2 w8 v' (raws ++ [r]) := ⟨hown8, hr.out.2.2.2.2.2.then htg fun q hq e => absurd (hvlt q e) (by omega), fun q hq => by
                    rcases hb8 with e | e
                    · exact hvlt q (e ▸ hq)
                    · rw [hq] at e; have := Option.some.inj e; omega⟩
                  have hwr : wr.heap.size ≤ w7.heap.size := hr.out.2.2.2.2.1.size
                  have hvwr : ∀ q, (Value.slice av raws.length acap).ownBlock = some q → q < wr.heap.size := fun q e => by
                    rcases HI.out.1.owns.2 with ⟨e2, _⟩ | ⟨g2, cap2, cur2, e2, _, hg2, _⟩
                    · rw [e2] at e; simp [Value.ownBlock] at e
                    · rw [e2] at e; simp only [Value.ownBlock, Option.some.injEq] at e; subst e; exact lt_of_heap hg2
                  have hW0r : W0.heap.size ≤ wr.heap.size := (HE.out.1.trans (HT2.out.trans HI.out.1.touch)).size
                  have HRn : Hid (EtRow (EtAt w8 (fun q => W0.heap.size ≤ q ∧ v'.ownBlock ≠ some q) n) (raws ++ [r]) ((ks.take (i + 1)).filterMap fun ky => entE (viewR H L n) (getR H L c k (strK ky)) ky)) := by
                    rw [Hid, HFM.out, HK.out]
                    have hmv : ∀ v l, EtAt w7 (fun q => W0.heap.size ≤ q ∧ (Value.slice av raws.length acap).ownBlock ≠ some q) n v l → EtAt w8 (fun q => W0.heap.size ≤ q ∧ v'.ownBlock ≠ some q) n v l := fun v l q => by
                      have q1 : EtAt w7 (fun q => (W0.heap.size ≤ q ∧ v'.ownBlock ≠ some q) ∧ (Value.slice av raws.length acap).ownBlock ≠ some q) n v l := q.mono fun j hj hS => ⟨⟨hS.1, fun e => by
                        rcases hb8 with e2 | e2
                        · exact hS.2 (by rw [← e2]; exact e)
                        · rw [e] at e2; have := Option.some.inj e2; omega⟩, hS.2⟩
                      exact (q1.touch htg fun j hS e => hS.2 e).mono fun j _ hS => hS.1
                    have hk9 : EtAt w7 (fun q => W0.heap.size ≤ q ∧ (Value.slice av raws.length acap).ownBlock ≠ some q) n r.ks.val kd := hr.out.2.2.2.1.mono fun j _ hS => ⟨Nat.le_trans hW0r hS, fun e => absurd (hvwr j e) (by omega)⟩
                    exact EtRow.snoc (r := r) (e := Et.mk ky G.v kd) (HI.out.2.2.mono fun v l q => hmv v l (EtAt.touch hr.out.2.2.2.2.1 (fun _ _ => id) q)) hr.out.2.1 hr.out.2.2.1 (hmv _ _ hk9)
                  have HI2 : Hid (raws.length ≤ i) := HI.out.2.1
                  obtain ⟨ry, rk0, rn, rf, rs, ⟨ra, rnn, rc⟩⟩ := r
                  have hbs := run_buildQ ⟨ry, rk0, rn, rf, rs, ⟨ra, rnn, rc⟩⟩ w7
                  go_upto_region 25 with fail
                  refine wp_region_lit ?_
                  iterate 1 (refine wpList_plain rfl fun K hK => ?_; go_simp; refine hK _ _ ?_; clear hK K)
                  refine wpList_load_mid rfl 61 (.tmp 13) rfl Y 0 rfl [.string ry, .int .i64 rk0, .int .i64 rn, .float .f64 rf, .string rs, .slice ra rnn rc] _ (rangeAt_ew HHx.out) Tryz.underlying61 rfl (by kernel_rfl) ?_
                  simp only [Act.put, List.setIfInBounds_toArray, List.set_cons_succ, List.set_cons_zero]
                  iterate 1 (refine wpList_plain rfl fun K hK => ?_; go_simp; refine hK _ _ ?_; clear hK K)
                  refine wpList_append_runQ rfl (.tmp 135) (.tmp 137) rfl _ _ _ rfl rfl hrun ?_
                  simp only [Act.put, List.setIfInBounds_toArray, List.set_cons_succ, List.set_cons_zero]
                  obtain ⟨bv, bcap, hbv, -⟩ := hn8.shape
                  have HQ : Hid (NewQ W2 w8 (.slice bv (raws ++ [(⟨ry, rk0, rn, rf, rs, ⟨ra, rnn, rc⟩⟩ : Ew)]).length bcap) (raws ++ [⟨ry, rk0, rn, rf, rs, ⟨ra, rnn, rc⟩⟩]) ∧ (raws ++ [(⟨ry, rk0, rn, rf, rs, ⟨ra, rnn, rc⟩⟩ : Ew)]).length ≤ i + 1 ∧ EtRow (EtAt w8 (fun q => W0.heap.size ≤ q ∧ (Value.slice bv (raws ++ [(⟨ry, rk0, rn, rf, rs, ⟨ra, rnn, rc⟩⟩ : Ew)]).length bcap).ownBlock ≠ some q) n) (raws ++ [⟨ry, rk0, rn, rf, rs, ⟨ra, rnn, rc⟩⟩]) ((ks.take (i + 1)).filterMap fun ky => entE (viewR H L n) (getR H L c k (strK ky)) ky)) := by
                    rw [← hbv]
                    exact ⟨hn8, by have := HI2.out; simp; omega, HRn.out⟩
                  have hbv2 : v' = .slice bv (raws.length + 1) bcap := by rw [hbv]; simp
                  clear hbv
                  subst hbv2
                  clear hrun hn8 hg8 htg hvlt hvwr hown8 hown0 hb8 HRn HNw hr HK HHx hbs HI HFM HEn hvk5
                  go_wp2_with fail
                  go_roundg (kn - (i + 1))
                  case measure => have := HIl.out; omega
                  case rel => exact ⟨i + 1, _, bv, bcap, by have := HIl.out; omega, by simp, by go_num, HQ.out⟩
                | true =>
                  have hmb : isMapB G = true := by unfold isMapB; simpa using hvk5
                  have hM2 := (HGky.out rfl).2
                  have h0 := HT6.out.2.2.2.1.idAt
                  go_upto_region 24 with fail
                  refine wp_region_lit ?_
                  iterate 2 (refine wpList_plain rfl fun K hK => ?_; go_simp; refine hK _ _ ?_; clear hK K)
                  refine wpList_load_mid rfl 34 (.tmp 131) rfl X 0 rfl [.int .u64 G.c, .int .u64 G.k] _ h0 Tryz.underlying34 rfl (by kernel_rfl) ?_
                  simp only [Act.put, List.setIfInBounds_toArray, List.set_cons_succ, List.set_cons_zero]
                  clear h0
                  refine wpList_plain rfl fun K hK => ?_
                  go_simp
                  refine (HIH.out G.c G.k w6 hM2 (HE.out.2.1.trans HT6.out.1)).mono ?_
                  rintro e wk ⟨vk, rfl, het, tk⟩
                  refine hK _ _ ?_
                  clear hK K hM2
                  iterate 1 (refine wpList_plain rfl fun K hK => ?_; go_simp; refine hK _ _ ?_; clear hK K)
                  obtain ⟨ka, kc, hvk⟩ := het.shape
                  have hYk : wk.heap[Y]? = some (ewO ⟨ky, G.vk, G.vn, G.vf, G.vs, ⟨none, 0, 0⟩⟩) := (tk.block Y (lt_of_heap HT6.out.2.2.2.2.1) id).trans HT6.out.2.2.2.2.1
                  have c5 : wk.cell? ⟨Y, 5, none⟩ = some (.slice none 0 0) := by rw [cell_of_block hYk]; rfl
                  have f5 : wk.frozen? ⟨Y, 5, none⟩ = false := free_of_block hYk
                  obtain ⟨kd, hkd⟩ : ∃ kd, Hid (kd = viewR H L n G.c G.k) := ⟨_, Eq.refl _⟩
                  rw [← hkd.out] at het hvk
                  have HKs : Hid (EtAt wk (fun q => w6.heap.size ≤ q) n (.slice ka kd.length kc) kd ∧ Y < w6.heap.size ∧ wr.heap.size ≤ w6.heap.size ∧ Touch (fun _ => False) wr wk ∧ Touch (fun _ => False) W2 wk ∧ wk.heap[Y]? = some (ewO ⟨ky, G.vk, G.vn, G.vf, G.vs, ⟨none, 0, 0⟩⟩)) := ⟨by rw [← hvk]; exact het, lt_of_heap HT6.out.2.2.2.2.1, HT6.out.2.2.1.size, HT6.out.2.2.1.trans tk, HT6.out.2.1.trans tk, hYk⟩
                  have HK : Hid (en.toList = [Et.mk ky G.v kd]) := by rw [Hid, HEn.out, hkd.out, if_pos rfl, if_pos hmb]; rfl
                  clear het tk hYk hkd
                  subst hvk
                  refine wpList_plain rfl fun K hK => ?_
                  go_simp
                  refine hK _ _ ?_
                  clear hK K c5 f5
                  obtain ⟨w7, hw7⟩ : ∃ x, Hid (x = wk.setCell ⟨Y, 5, none⟩ (.slice ka kd.length kc)) := ⟨_, Eq.refl _⟩
                  obtain ⟨r, hr⟩ : ∃ r : Ew, Hid (w7.heap[Y]? = some (ewO r) ∧ r.ky = ky ∧ (⟨r.vk, r.vn, r.vf, r.vs⟩ : Go.Proofs.YtodpdcflbnomgaaGreat.V) = G.v ∧ EtAt w7 (fun q => wr.heap.size ≤ q) n r.ks.val kd ∧ Touch (fun _ => False) wr w7 ∧ Touch (fun _ => False) W2 w7) := by
                    have e7 : w7.heap[Y]? = some (ewO ⟨ky, G.vk, G.vn, G.vf, G.vs, ⟨ka, kd.length, kc⟩⟩) := by
                      rw [hw7.out, heap_setCell_same _ _ _ _ HKs.out.2.2.2.2.2]; rfl
                    have t7 : Touch (fun k => k = Y) wk w7 := by rw [hw7.out]; exact (Touch.refl (fun k => k = Y) wk).setCell _ _ fun _ => rfl
                    refine ⟨_, e7, rfl, rfl, ?_, ?_, ?_⟩
                    · exact (HKs.out.1.touch t7 (fun k h1 h2 => by have := HKs.out.2.1; omega)).mono fun k _ h => Nat.le_trans HKs.out.2.2.1 h
                    · exact HKs.out.2.2.2.1.then t7 fun k hk e => by have := HYw.out; omega
                    · exact HKs.out.2.2.2.2.1.then t7 fun k hk e => by have := HT6.out.2.2.2.2.2; omega
                  rw [← hw7.out]
                  clear hw7 HKs HT6
                  have HHx : Hid (w7.heap[Y]? = some (ewO r)) := hr.out.1
                  have HNw : Hid (NewQ W2 w7 (.slice av raws.length acap) raws) := HI.out.1.on hr.out.2.2.2.2.1
                  have hlen : raws.length ≤ 1073741824 := by have := HI.out.2.1; have := HIl.out; omega
                  have hown0 : (w7.alloc (ewO r)).ownsRow 0 61 6 (.slice av raws.length acap) raws.length (cellsQ raws) := (HNw.out.on ((Touch.refl _ w7).alloc (ewO r))).owns
                  obtain ⟨v', w8, hrun, hown8, hg8, hb8⟩ := run_appendQ (w7.alloc (ewO r)) (.slice av raws.length acap) raws hown0 (some ⟨w7.heap.size, 0, none⟩) 1 1 [r] rfl (fun h => by cases h) (LiesQ.new w7 r) (by simp; omega)
                  have hsz7 : (w7.alloc (ewO r)).heap.size = w7.heap.size + 1 := by simp
                  have hvlt : ∀ q, (Value.slice av raws.length acap).ownBlock = some q → W2.heap.size ≤ q := HNw.out.fresh
                  have htg : Touch (fun q => (Value.slice av raws.length acap).ownBlock = some q) w7 w8 := ((Touch.refl (fun q => (Value.slice av raws.length acap).ownBlock = some q) w7).alloc (ewO r)).grown hg8 fun q e _ => e
                  have hW27 : W2.heap.size ≤ w7.heap.size := hr.out.2.2.2.2.2.size
                  have hn8 : NewQ W2 w8 v' (raws ++ [r]) := ⟨hown8, hr.out.2.2.2.2.2.then htg fun q hq e => absurd (hvlt q e) (by omega), fun q hq => by
                    rcases hb8 with e | e
                    · exact hvlt q (e ▸ hq)
                    · rw [hq] at e; have := Option.some.inj e; omega⟩
                  have hwr : wr.heap.size ≤ w7.heap.size := hr.out.2.2.2.2.1.size
                  have hvwr : ∀ q, (Value.slice av raws.length acap).ownBlock = some q → q < wr.heap.size := fun q e => by
                    rcases HI.out.1.owns.2 with ⟨e2, _⟩ | ⟨g2, cap2, cur2, e2, _, hg2, _⟩
                    · rw [e2] at e; simp [Value.ownBlock] at e
                    · rw [e2] at e; simp only [Value.ownBlock, Option.some.injEq] at e; subst e; exact lt_of_heap hg2
                  have hW0r : W0.heap.size ≤ wr.heap.size := (HE.out.1.trans (HT2.out.trans HI.out.1.touch)).size
                  have HRn : Hid (EtRow (EtAt w8 (fun q => W0.heap.size ≤ q ∧ v'.ownBlock ≠ some q) n) (raws ++ [r]) ((ks.take (i + 1)).filterMap fun ky => entE (viewR H L n) (getR H L c k (strK ky)) ky)) := by
                    rw [Hid, HFM.out, HK.out]
                    have hmv : ∀ v l, EtAt w7 (fun q => W0.heap.size ≤ q ∧ (Value.slice av raws.length acap).ownBlock ≠ some q) n v l → EtAt w8 (fun q => W0.heap.size ≤ q ∧ v'.ownBlock ≠ some q) n v l := fun v l q => by
                      have q1 : EtAt w7 (fun q => (W0.heap.size ≤ q ∧ v'.ownBlock ≠ some q) ∧ (Value.slice av raws.length acap).ownBlock ≠ some q) n v l := q.mono fun j hj hS => ⟨⟨hS.1, fun e => by
                        rcases hb8 with e2 | e2
                        · exact hS.2 (by rw [← e2]; exact e)
                        · rw [e] at e2; have := Option.some.inj e2; omega⟩, hS.2⟩
                      exact (q1.touch htg fun j hS e => hS.2 e).mono fun j _ hS => hS.1
                    have hk9 : EtAt w7 (fun q => W0.heap.size ≤ q ∧ (Value.slice av raws.length acap).ownBlock ≠ some q) n r.ks.val kd := hr.out.2.2.2.1.mono fun j _ hS => ⟨Nat.le_trans hW0r hS, fun e => absurd (hvwr j e) (by omega)⟩
                    exact EtRow.snoc (r := r) (e := Et.mk ky G.v kd) (HI.out.2.2.mono fun v l q => hmv v l (EtAt.touch hr.out.2.2.2.2.1 (fun _ _ => id) q)) hr.out.2.1 hr.out.2.2.1 (hmv _ _ hk9)
                  have HI2 : Hid (raws.length ≤ i) := HI.out.2.1
                  obtain ⟨ry, rk0, rn, rf, rs, ⟨ra, rnn, rc⟩⟩ := r
                  have hbs := run_buildQ ⟨ry, rk0, rn, rf, rs, ⟨ra, rnn, rc⟩⟩ w7
                  go_upto_region 25 with fail
                  refine wp_region_lit ?_
                  iterate 1 (refine wpList_plain rfl fun K hK => ?_; go_simp; refine hK _ _ ?_; clear hK K)
                  refine wpList_load_mid rfl 61 (.tmp 13) rfl Y 0 rfl [.string ry, .int .i64 rk0, .int .i64 rn, .float .f64 rf, .string rs, .slice ra rnn rc] _ (rangeAt_ew HHx.out) Tryz.underlying61 rfl (by kernel_rfl) ?_
                  simp only [Act.put, List.setIfInBounds_toArray, List.set_cons_succ, List.set_cons_zero]
                  iterate 1 (refine wpList_plain rfl fun K hK => ?_; go_simp; refine hK _ _ ?_; clear hK K)
                  refine wpList_append_runQ rfl (.tmp 135) (.tmp 137) rfl _ _ _ rfl rfl hrun ?_
                  simp only [Act.put, List.setIfInBounds_toArray, List.set_cons_succ, List.set_cons_zero]
                  obtain ⟨bv, bcap, hbv, -⟩ := hn8.shape
                  have HQ : Hid (NewQ W2 w8 (.slice bv (raws ++ [(⟨ry, rk0, rn, rf, rs, ⟨ra, rnn, rc⟩⟩ : Ew)]).length bcap) (raws ++ [⟨ry, rk0, rn, rf, rs, ⟨ra, rnn, rc⟩⟩]) ∧ (raws ++ [(⟨ry, rk0, rn, rf, rs, ⟨ra, rnn, rc⟩⟩ : Ew)]).length ≤ i + 1 ∧ EtRow (EtAt w8 (fun q => W0.heap.size ≤ q ∧ (Value.slice bv (raws ++ [(⟨ry, rk0, rn, rf, rs, ⟨ra, rnn, rc⟩⟩ : Ew)]).length bcap).ownBlock ≠ some q) n) (raws ++ [⟨ry, rk0, rn, rf, rs, ⟨ra, rnn, rc⟩⟩]) ((ks.take (i + 1)).filterMap fun ky => entE (viewR H L n) (getR H L c k (strK ky)) ky)) := by
                    rw [← hbv]
                    exact ⟨hn8, by have := HI2.out; simp; omega, HRn.out⟩
                  have hbv2 : v' = .slice bv (raws.length + 1) bcap := by rw [hbv]; simp
                  clear hbv
                  subst hbv2
                  clear hrun hn8 hg8 htg hvlt hvwr hown8 hown0 hb8 HRn HNw hr HK HHx hbs HI HFM HEn hvk5
                  go_wp2_with fail
                  go_roundg (kn - (i + 1))
                  case measure => have := HIl.out; omega
                  case rel => exact ⟨i + 1, _, bv, bcap, by have := HIl.out; omega, by simp, by go_num, HQ.out⟩
            · rw [if_pos (by kernel_rfl)]
              refine wpO_of_run (v := .pointer (some ⟨V.heap.size, 0, none⟩)) (w' := V.alloc zeroOp) ?_ ?_
              · go_simp
              simp only [Act.put, List.setIfInBounds_toArray, List.set_cons_succ, List.set_cons_zero]
              have HT2 : Hid (Touch (fun _ => False) wr (V.alloc zeroOp)) := HTV.out.alloc _
              refine hK.out _ _ (HS.out _ HT2.out) (fun hHeld => ?_)
              clear hK K
              obtain ⟨X, hX⟩ : ∃ X, Hid (X = V.heap.size) := ⟨_, Eq.refl _⟩
              obtain ⟨w2, hw2⟩ : ∃ W3, Hid (W3 = V.alloc zeroOp) := ⟨_, Eq.refl _⟩
              have HBX2 : Hid (OpAt X zeroO w2 ∧ wr.heap.size ≤ X) := by rw [hX.out, hw2.out]; exact ⟨heap_alloc_new _ _, HTV.out.size⟩
              rw [← hX.out, ← hw2.out]
              rw [← hw2.out] at HT2 hHeld
              clear hX hw2 HTV
              refine wpAnyH_ready (rs := [6]) (by kernel_rfl) (by simp) ?_
              refine AllReadyH.cons (o := { dst := some 116, op := Op.call { callee := Callee.value (Operand.func 10), args := #[Operand.tmp 110, Operand.tmp 111, Operand.tmp 115], argTypes := #[27, 34, 9] }, type := 49, pos := "quireref12.go:93", after := #[{ on := 0, ground := Ground.data }, { on := 1, ground := Ground.data }, { on := 5, ground := Ground.data }], guard := none }) rfl (fun K hK => ?_) AllReadyH.nil
              rw [if_pos (by kernel_rfl)]
              go_simp
              refine (HGet.out w2 HT2.out).mono ?_
              rintro e W3 ⟨rfl, t2⟩
              have HT3 : Hid (Touch (fun _ => False) wr W3) := HT2.out.trans t2
              have HBX : Hid (OpAt X zeroO W3 ∧ wr.heap.size ≤ X) := ⟨HBX2.out.1.keep t2, HBX2.out.2⟩
              clear t2 HBX2 HT2
              refine hK.out _ _ (HS.out _ HT3.out) (fun hHeld => ?_)
              clear hK K
              refine wpAnyH_take (i := 7) (oi := { dst := some 109, op := Op.move (Operand.tmp 116), type := 49, pos := "quireref12.go:93", after := #[{ on := 6, ground := Ground.data }], guard := none }) (v := (.tuple #[.agg G.vals, .bool Hb])) rfl (by kernel_rfl) (by kernel_rfl) (by kernel_rfl) (fun _ _ _ h => h) (Or.inl ⟨by kernel_rfl, ?_⟩) hHeld ?_
              · intro V1 hV1; clear hV1; go_simp
              simp only [Act.put, List.setIfInBounds_toArray, List.set_cons_succ, List.set_cons_zero]
              refine wpAnyH_take (i := 8) (oi := { dst := some 117, op := Op.extract (Operand.tmp 109) 0, type := 41, pos := "quireref12.go:93", after := #[{ on := 7, ground := Ground.data }], guard := none }) (v := (.agg G.vals)) rfl (by kernel_rfl) (by kernel_rfl) (by kernel_rfl) (fun _ _ _ h => h) (Or.inl ⟨by kernel_rfl, ?_⟩) hHeld ?_
              · intro V1 hV1; clear hV1; go_simp
              simp only [Act.put, List.setIfInBounds_toArray, List.set_cons_succ, List.set_cons_zero]
              refine wpAnyH_take (i := 9) (oi := { dst := some 118, op := Op.extract (Operand.tmp 109) 1, type := 4, pos := "quireref12.go:93", after := #[{ on := 7, ground := Ground.data }, { on := 11, ground := Ground.gcOnly Departure.lateStores }], guard := none }) (v := (.bool Hb)) rfl (by kernel_rfl) (by kernel_rfl) (by kernel_rfl) (fun _ _ _ h => h) (Or.inl ⟨by kernel_rfl, ?_⟩) hHeld ?_
              · intro V1 hV1; clear hV1; go_simp
              simp only [Act.put, List.setIfInBounds_toArray, List.set_cons_succ, List.set_cons_zero]
              refine wpAnyH_ready (rs := [11]) (by kernel_rfl) (by simp) ?_
              refine AllReadyH.cons (o := { dst := none, op := Op.store 41 (Operand.tmp 11) (Operand.tmp 117), type := 0, pos := "quireref12.go:93", after := #[{ on := 10, ground := Ground.data }, { on := 8, ground := Ground.data }, { on := 6, ground := Ground.chain }, { on := 0, ground := Ground.phase }, { on := 1, ground := Ground.phase }, { on := 2, ground := Ground.phase }, { on := 3, ground := Ground.phase }, { on := 4, ground := Ground.phase }, { on := 5, ground := Ground.phase }, { on := 6, ground := Ground.phase }, { on := 7, ground := Ground.phase }, { on := 8, ground := Ground.phase }, { on := 9, ground := Ground.textOnly Departure.lateStores }, { on := 10, ground := Ground.phase }], guard := none }) rfl (fun K hK => ?_) AllReadyH.nil
              rw [if_pos (by kernel_rfl)]
              refine wp_store_mid 41 (.tmp 11) (.tmp 117) rfl X 0 G.vals rfl rfl (HBX.out.1.there 0 22 (by decide)) (by kernel_rfl) (by kernel_rfl) ?_
              simp only [Act.put]
              obtain ⟨W4, hW4⟩ : ∃ W4, Hid (W4 = W3.setCells X 0 G.vals.toList) := ⟨_, Eq.refl _⟩
              have HT4 : Hid (Touch (fun _ => False) wr W4 ∧ OpAt X G W4 ∧ wr.heap.size ≤ X) := by rw [hW4.out]; exact ⟨HT3.out.stores HBX.out.2 0 _, HBX.out.1.store0, HBX.out.2⟩
              rw [← hW4.out]
              clear hW4 HT3 HBX
              refine hK.out _ _ (HS.out _ HT4.out.1) (fun hHeld => ?_)
              clear hK K
              refine wpAnyH_take (i := 12) (oi := { dst := some 12, op := Op.assign (Operand.tmp 118), type := 4, pos := "quireref12.go:93", after := #[{ on := 9, ground := Ground.data }, { on := 11, ground := Ground.chain }, { on := 0, ground := Ground.phase }, { on := 1, ground := Ground.phase }, { on := 2, ground := Ground.phase }, { on := 3, ground := Ground.phase }, { on := 4, ground := Ground.phase }, { on := 5, ground := Ground.phase }, { on := 6, ground := Ground.phase }, { on := 7, ground := Ground.phase }, { on := 8, ground := Ground.phase }, { on := 9, ground := Ground.phase }, { on := 10, ground := Ground.phase }, { on := 11, ground := Ground.phase }], guard := none }) (v := (.bool Hb)) rfl (by kernel_rfl) (by kernel_rfl) (by kernel_rfl) (fun _ _ _ h => h) (Or.inl ⟨by kernel_rfl, ?_⟩) hHeld ?_
              · intro V1 hV1; clear hV1; go_simp
              simp only [Act.put, List.setIfInBounds_toArray, List.set_cons_succ, List.set_cons_zero]
              refine wpAnyH_done (by kernel_rfl) ?_ _
              try simp only [List.getElem_toArray, List.getElem_cons_succ, List.getElem_cons_zero, List.setIfInBounds_toArray, List.set_cons_succ, List.set_cons_zero]
              clear hHeld HS HGet
              generalize Value.agg G.vals = gv
              have HT5a : Hid (Touch (fun _ => False) E W4 ∧ Touch (fun _ => False) W2 W4 ∧ Touch (fun _ => False) wr W4 ∧ OpAt X G W4) := ⟨HT.out.1.trans HT4.out.1, HT.out.2.trans HT4.out.1, HT4.out.1, HT4.out.2.1⟩
              clear HT4
              cases Hb with
              | false =>
                have HQ : Hid (NewQ W2 W4 (.slice av raws.length acap) raws ∧ raws.length ≤ i + 1 ∧ EtRow (EtAt W4 (fun q => W0.heap.size ≤ q ∧ (Value.slice av raws.length acap).ownBlock ≠ some q) n) raws ((ks.take (i + 1)).filterMap fun ky => entE (viewR H L n) (getR H L c k (strK ky)) ky)) := by
                  refine ⟨HI.out.1.on HT5a.out.2.2.1, by have := HI.out.2.1; omega, ?_⟩
                  rw [HFM.out]
                  have : en = none := by rw [HEn.out]; rfl
                  rw [this]
                  simpa using HI.out.2.2.mono fun v l q => EtAt.touch HT5a.out.2.2.1 (fun _ _ => id) q
                clear HT5a HT HI HFM HEn HGky
                go_wp2_with fail
                go_roundg (kn - (i + 1))
                case measure => have := HIl.out; omega
                case rel => exact ⟨i + 1, raws, av, acap, by have := HIl.out; omega, rfl, by go_num, HQ.out⟩
              | true =>
                have v13 := HT5a.out.2.2.2.q13
                rw [(HGky.out rfl).1] at v13
                go_upto_region 22 with fail
                refine wp_region_lit ?_
                iterate 3 (refine wpList_plain rfl fun K hK => ?_; go_simp; refine hK _ _ ?_; clear hK K)
                refine wpList_load_mid rfl 37 (.tmp 123) rfl X 9 rfl [.int .i64 G.vk, .int .i64 G.vn, .float .f64 G.vf, .string G.vs] _ (OpAt.valAt HT5a.out.2.2.2) Tryz.underlying37 rfl (by kernel_rfl) ?_
                simp only [Act.put, List.setIfInBounds_toArray, List.set_cons_succ, List.set_cons_zero]
                iterate 2 (refine wpList_plain rfl fun K hK => ?_; go_simp; refine hK _ _ ?_; clear hK K)
                refine wpList_store_mid rfl 61 (.tmp 13) (.tmp 125) rfl W4.heap.size 0 #[.string ky, .int .i64 G.vk, .int .i64 G.vn, .float .f64 G.vf, .string G.vs, .slice none 0 0] rfl rfl (there_ofS (heap_alloc_new W4 zeroEw) 0 6 (by decide)) (by kernel_rfl) (by kernel_rfl) ?_
                simp only [Act.put]
                obtain ⟨Y, hY⟩ : ∃ Y, Hid (Y = W4.heap.size) := ⟨_, Eq.refl _⟩
                obtain ⟨w6, hw6⟩ : ∃ W, Hid (W = (W4.alloc zeroEw).setCells W4.heap.size 0 [.string ky, .int .i64 G.vk, .int .i64 G.vn, .float .f64 G.vf, .string G.vs, .slice none 0 0]) := ⟨_, Eq.refl _⟩
                have hn5 := newEw W4 ⟨ky, G.vk, G.vn, G.vf, G.vs, ⟨none, 0, 0⟩⟩
                simp only at hn5
                rw [← hw6.out] at hn5 ⊢
                rw [← hY.out] at hn5 ⊢
                have HT6 : Hid (Touch (fun _ => False) E w6 ∧ Touch (fun _ => False) W2 w6 ∧ Touch (fun _ => False) wr w6 ∧ OpAt X G w6 ∧ w6.heap[Y]? = some (ewO ⟨ky, G.vk, G.vn, G.vf, G.vs, ⟨none, 0, 0⟩⟩) ∧ W2.heap.size ≤ Y) := ⟨HT5a.out.1.trans hn5.1, HT5a.out.2.1.trans hn5.1, HT5a.out.2.2.1.trans hn5.1, HT5a.out.2.2.2.keep hn5.1, hn5.2, by rw [hY.out]; exact HT5a.out.2.1.size⟩
                have HYw : Hid (wr.heap.size ≤ Y) := by rw [hY.out]; exact HT5a.out.2.2.1.size
                clear hn5 hw6 hY HT5a v13 HT
                have v9 := HT6.out.2.2.2.1.q9
                cases hvk5 : (G.vk == 5) with
                | false =>
                  have hmb : isMapB G = false := by unfold isMapB; simpa using hvk5
                  obtain ⟨kd, hkd⟩ : ∃ kd : List Et, kd = [] := ⟨_, rfl⟩
                  obtain ⟨r, hr⟩ : ∃ r : Ew, Hid (w6.heap[Y]? = some (ewO r) ∧ r.ky = ky ∧ (⟨r.vk, r.vn, r.vf, r.vs⟩ : Go.Proofs.YtodpdcflbnomgaaGreat.V) = G.v ∧ EtAt w6 (fun q => wr.heap.size ≤ q) n r.ks.val kd ∧ Touch (fun _ => False) wr w6 ∧ Touch (fun _ => False) W2 w6) := ⟨⟨ky, G.vk, G.vn, G.vf, G.vs, ⟨none, 0, 0⟩⟩, HT6.out.2.2.2.2.1, rfl, rfl, by rw [hkd]; exact EtAt.nil _ _ _, HT6.out.2.2.1, HT6.out.2.1⟩
                  have HK : Hid (en.toList = [Et.mk ky G.v kd]) := by rw [Hid, HEn.out, hkd, if_pos rfl, if_neg (by rw [hmb]; simp)]; rfl
                  clear HT6 hkd HGky
                  obtain ⟨w7, hw7⟩ : ∃ x, x = w6 := ⟨_, rfl⟩
                  rw [← hw7] at hr v9 ⊢
                  clear hw7
                  have HHx : Hid (w7.heap[Y]? = some (ewO r)) := hr.out.1
                  have HNw : Hid (NewQ W2 w7 (.slice av raws.length acap) raws) := HI.out.1.on hr.out.2.2.2.2.1
                  have hlen : raws.length ≤ 1073741824 := by have := HI.out.2.1; have := HIl.out; omega
                  have hown0 : (w7.alloc (ewO r)).ownsRow 0 61 6 (.slice av raws.length acap) raws.length (cellsQ raws) := (HNw.out.on ((Touch.refl _ w7).alloc (ewO r))).owns
                  obtain ⟨v', w8, hrun, hown8, hg8, hb8⟩ := run_appendQ (w7.alloc (ewO r)) (.slice av raws.length acap) raws hown0 (some ⟨w7.heap.size, 0, none⟩) 1 1 [r] rfl (fun h => by cases h) (LiesQ.new w7 r) (by simp; omega)
                  have hsz7 : (w7.alloc (ewO r)).heap.size = w7.heap.size + 1 := by simp
                  have hvlt : ∀ q, (Value.slice av raws.length acap).ownBlock = some q → W2.heap.size ≤ q := HNw.out.fresh
                  have htg : Touch (fun q => (Value.slice av raws.length acap).ownBlock = some q) w7 w8 := ((Touch.refl (fun q => (Value.slice av raws.length acap).ownBlock = some q) w7).alloc (ewO r)).grown hg8 fun q e _ => e
                  have hW27 : W2.heap.size ≤ w7.heap.size := hr.out.2.2.2.2.2.size
                  have hn8 : NewQ W2 w8 v' (raws ++ [r]) := ⟨hown8, hr.out.2.2.2.2.2.then htg fun q hq e => absurd (hvlt q e) (by omega), fun q hq => by
                    rcases hb8 with e | e
                    · exact hvlt q (e ▸ hq)
                    · rw [hq] at e; have := Option.some.inj e; omega⟩
                  have hwr : wr.heap.size ≤ w7.heap.size := hr.out.2.2.2.2.1.size
                  have hvwr : ∀ q, (Value.slice av raws.length acap).ownBlock = some q → q < wr.heap.size := fun q e => by
                    rcases HI.out.1.owns.2 with ⟨e2, _⟩ | ⟨g2, cap2, cur2, e2, _, hg2, _⟩
                    · rw [e2] at e; simp [Value.ownBlock] at e
                    · rw [e2] at e; simp only [Value.ownBlock, Option.some.injEq] at e; subst e; exact lt_of_heap hg2
                  have hW0r : W0.heap.size ≤ wr.heap.size := (HE.out.1.trans (HT2.out.trans HI.out.1.touch)).size
                  have HRn : Hid (EtRow (EtAt w8 (fun q => W0.heap.size ≤ q ∧ v'.ownBlock ≠ some q) n) (raws ++ [r]) ((ks.take (i + 1)).filterMap fun ky => entE (viewR H L n) (getR H L c k (strK ky)) ky)) := by
                    rw [Hid, HFM.out, HK.out]
                    have hmv : ∀ v l, EtAt w7 (fun q => W0.heap.size ≤ q ∧ (Value.slice av raws.length acap).ownBlock ≠ some q) n v l → EtAt w8 (fun q => W0.heap.size ≤ q ∧ v'.ownBlock ≠ some q) n v l := fun v l q => by
                      have q1 : EtAt w7 (fun q => (W0.heap.size ≤ q ∧ v'.ownBlock ≠ some q) ∧ (Value.slice av raws.length acap).ownBlock ≠ some q) n v l := q.mono fun j hj hS => ⟨⟨hS.1, fun e => by
                        rcases hb8 with e2 | e2
                        · exact hS.2 (by rw [← e2]; exact e)
                        · rw [e] at e2; have := Option.some.inj e2; omega⟩, hS.2⟩
                      exact (q1.touch htg fun j hS e => hS.2 e).mono fun j _ hS => hS.1
                    have hk9 : EtAt w7 (fun q => W0.heap.size ≤ q ∧ (Value.slice av raws.length acap).ownBlock ≠ some q) n r.ks.val kd := hr.out.2.2.2.1.mono fun j _ hS => ⟨Nat.le_trans hW0r hS, fun e => absurd (hvwr j e) (by omega)⟩
                    exact EtRow.snoc (r := r) (e := Et.mk ky G.v kd) (HI.out.2.2.mono fun v l q => hmv v l (EtAt.touch hr.out.2.2.2.2.1 (fun _ _ => id) q)) hr.out.2.1 hr.out.2.2.1 (hmv _ _ hk9)
                  have HI2 : Hid (raws.length ≤ i) := HI.out.2.1
                  obtain ⟨ry, rk0, rn, rf, rs, ⟨ra, rnn, rc⟩⟩ := r
                  have hbs := run_buildQ ⟨ry, rk0, rn, rf, rs, ⟨ra, rnn, rc⟩⟩ w7
                  go_upto_region 25 with fail
                  refine wp_region_lit ?_
                  iterate 1 (refine wpList_plain rfl fun K hK => ?_; go_simp; refine hK _ _ ?_; clear hK K)
                  refine wpList_load_mid rfl 61 (.tmp 13) rfl Y 0 rfl [.string ry, .int .i64 rk0, .int .i64 rn, .float .f64 rf, .string rs, .slice ra rnn rc] _ (rangeAt_ew HHx.out) Tryz.underlying61 rfl (by kernel_rfl) ?_
                  simp only [Act.put, List.setIfInBounds_toArray, List.set_cons_succ, List.set_cons_zero]
                  iterate 1 (refine wpList_plain rfl fun K hK => ?_; go_simp; refine hK _ _ ?_; clear hK K)
                  refine wpList_append_runQ rfl (.tmp 135) (.tmp 137) rfl _ _ _ rfl rfl hrun ?_
                  simp only [Act.put, List.setIfInBounds_toArray, List.set_cons_succ, List.set_cons_zero]
                  obtain ⟨bv, bcap, hbv, -⟩ := hn8.shape
                  have HQ : Hid (NewQ W2 w8 (.slice bv (raws ++ [(⟨ry, rk0, rn, rf, rs, ⟨ra, rnn, rc⟩⟩ : Ew)]).length bcap) (raws ++ [⟨ry, rk0, rn, rf, rs, ⟨ra, rnn, rc⟩⟩]) ∧ (raws ++ [(⟨ry, rk0, rn, rf, rs, ⟨ra, rnn, rc⟩⟩ : Ew)]).length ≤ i + 1 ∧ EtRow (EtAt w8 (fun q => W0.heap.size ≤ q ∧ (Value.slice bv (raws ++ [(⟨ry, rk0, rn, rf, rs, ⟨ra, rnn, rc⟩⟩ : Ew)]).length bcap).ownBlock ≠ some q) n) (raws ++ [⟨ry, rk0, rn, rf, rs, ⟨ra, rnn, rc⟩⟩]) ((ks.take (i + 1)).filterMap fun ky => entE (viewR H L n) (getR H L c k (strK ky)) ky)) := by
                    rw [← hbv]
                    exact ⟨hn8, by have := HI2.out; simp; omega, HRn.out⟩
                  have hbv2 : v' = .slice bv (raws.length + 1) bcap := by rw [hbv]; simp
                  clear hbv
                  subst hbv2
                  clear hrun hn8 hg8 htg hvlt hvwr hown8 hown0 hb8 HRn HNw hr HK HHx hbs HI HFM HEn hvk5
                  go_wp2_with fail
                  go_roundg (kn - (i + 1))
                  case measure => have := HIl.out; omega
                  case rel => exact ⟨i + 1, _, bv, bcap, by have := HIl.out; omega, by simp, by go_num, HQ.out⟩
                | true =>
                  have hmb : isMapB G = true := by unfold isMapB; simpa using hvk5
                  have hM2 := (HGky.out rfl).2
                  have h0 := HT6.out.2.2.2.1.idAt
                  go_upto_region 24 with fail
                  refine wp_region_lit ?_
                  iterate 2 (refine wpList_plain rfl fun K hK => ?_; go_simp; refine hK _ _ ?_; clear hK K)
                  refine wpList_load_mid rfl 34 (.tmp 131) rfl X 0 rfl [.int .u64 G.c, .int .u64 G.k] _ h0 Tryz.underlying34 rfl (by kernel_rfl) ?_
                  simp only [Act.put, List.setIfInBounds_toArray, List.set_cons_succ, List.set_cons_zero]
                  clear h0
                  refine wpList_plain rfl fun K hK => ?_
                  go_simp
                  refine (HIH.out G.c G.k w6 hM2 (HE.out.2.1.trans HT6.out.1)).mono ?_
                  rintro e wk ⟨vk, rfl, het, tk⟩
                  refine hK _ _ ?_
                  clear hK K hM2
                  iterate 1 (refine wpList_plain rfl fun K hK => ?_; go_simp; refine hK _ _ ?_; clear hK K)
                  obtain ⟨ka, kc, hvk⟩ := het.shape
                  have hYk : wk.heap[Y]? = some (ewO ⟨ky, G.vk, G.vn, G.vf, G.vs, ⟨none, 0, 0⟩⟩) := (tk.block Y (lt_of_heap HT6.out.2.2.2.2.1) id).trans HT6.out.2.2.2.2.1
                  have c5 : wk.cell? ⟨Y, 5, none⟩ = some (.slice none 0 0) := by rw [cell_of_block hYk]; rfl
                  have f5 : wk.frozen? ⟨Y, 5, none⟩ = false := free_of_block hYk
                  obtain ⟨kd, hkd⟩ : ∃ kd, Hid (kd = viewR H L n G.c G.k) := ⟨_, Eq.refl _⟩
                  rw [← hkd.out] at het hvk
                  have HKs : Hid (EtAt wk (fun q => w6.heap.size ≤ q) n (.slice ka kd.length kc) kd ∧ Y < w6.heap.size ∧ wr.heap.size ≤ w6.heap.size ∧ Touch (fun _ => False) wr wk ∧ Touch (fun _ => False) W2 wk ∧ wk.heap[Y]? = some (ewO ⟨ky, G.vk, G.vn, G.vf, G.vs, ⟨none, 0, 0⟩⟩)) := ⟨by rw [← hvk]; exact het, lt_of_heap HT6.out.2.2.2.2.1, HT6.out.2.2.1.size, HT6.out.2.2.1.trans tk, HT6.out.2.1.trans tk, hYk⟩
                  have HK : Hid (en.toList = [Et.mk ky G.v kd]) := by rw [Hid, HEn.out, hkd.out, if_pos rfl, if_pos hmb]; rfl
                  clear het tk hYk hkd
                  subst hvk
                  refine wpList_plain rfl fun K hK => ?_
                  go_simp
                  refine hK _ _ ?_
                  clear hK K c5 f5
                  obtain ⟨w7, hw7⟩ : ∃ x, Hid (x = wk.setCell ⟨Y, 5, none⟩ (.slice ka kd.length kc)) := ⟨_, Eq.refl _⟩
                  obtain ⟨r, hr⟩ : ∃ r : Ew, Hid (w7.heap[Y]? = some (ewO r) ∧ r.ky = ky ∧ (⟨r.vk, r.vn, r.vf, r.vs⟩ : Go.Proofs.YtodpdcflbnomgaaGreat.V) = G.v ∧ EtAt w7 (fun q => wr.heap.size ≤ q) n r.ks.val kd ∧ Touch (fun _ => False) wr w7 ∧ Touch (fun _ => False) W2 w7) := by
                    have e7 : w7.heap[Y]? = some (ewO ⟨ky, G.vk, G.vn, G.vf, G.vs, ⟨ka, kd.length, kc⟩⟩) := by
                      rw [hw7.out, heap_setCell_same _ _ _ _ HKs.out.2.2.2.2.2]; rfl
                    have t7 : Touch (fun k => k = Y) wk w7 := by rw [hw7.out]; exact (Touch.refl (fun k => k = Y) wk).setCell _ _ fun _ => rfl
                    refine ⟨_, e7, rfl, rfl, ?_, ?_, ?_⟩
                    · exact (HKs.out.1.touch t7 (fun k h1 h2 => by have := HKs.out.2.1; omega)).mono fun k _ h => Nat.le_trans HKs.out.2.2.1 h
                    · exact HKs.out.2.2.2.1.then t7 fun k hk e => by have := HYw.out; omega
                    · exact HKs.out.2.2.2.2.1.then t7 fun k hk e => by have := HT6.out.2.2.2.2.2; omega
                  rw [← hw7.out]
                  clear hw7 HKs HT6
                  have HHx : Hid (w7.heap[Y]? = some (ewO r)) := hr.out.1
                  have HNw : Hid (NewQ W2 w7 (.slice av raws.length acap) raws) := HI.out.1.on hr.out.2.2.2.2.1
                  have hlen : raws.length ≤ 1073741824 := by have := HI.out.2.1; have := HIl.out; omega
                  have hown0 : (w7.alloc (ewO r)).ownsRow 0 61 6 (.slice av raws.length acap) raws.length (cellsQ raws) := (HNw.out.on ((Touch.refl _ w7).alloc (ewO r))).owns
                  obtain ⟨v', w8, hrun, hown8, hg8, hb8⟩ := run_appendQ (w7.alloc (ewO r)) (.slice av raws.length acap) raws hown0 (some ⟨w7.heap.size, 0, none⟩) 1 1 [r] rfl (fun h => by cases h) (LiesQ.new w7 r) (by simp; omega)
                  have hsz7 : (w7.alloc (ewO r)).heap.size = w7.heap.size + 1 := by simp
                  have hvlt : ∀ q, (Value.slice av raws.length acap).ownBlock = some q → W2.heap.size ≤ q := HNw.out.fresh
                  have htg : Touch (fun q => (Value.slice av raws.length acap).ownBlock = some q) w7 w8 := ((Touch.refl (fun q => (Value.slice av raws.length acap).ownBlock = some q) w7).alloc (ewO r)).grown hg8 fun q e _ => e
                  have hW27 : W2.heap.size ≤ w7.heap.size := hr.out.2.2.2.2.2.size
                  have hn8 : NewQ W2 w8 v' (raws ++ [r]) := ⟨hown8, hr.out.2.2.2.2.2.then htg fun q hq e => absurd (hvlt q e) (by omega), fun q hq => by
                    rcases hb8 with e | e
                    · exact hvlt q (e ▸ hq)
                    · rw [hq] at e; have := Option.some.inj e; omega⟩
                  have hwr : wr.heap.size ≤ w7.heap.size := hr.out.2.2.2.2.1.size
                  have hvwr : ∀ q, (Value.slice av raws.length acap).ownBlock = some q → q < wr.heap.size := fun q e => by
                    rcases HI.out.1.owns.2 with ⟨e2, _⟩ | ⟨g2, cap2, cur2, e2, _, hg2, _⟩
                    · rw [e2] at e; simp [Value.ownBlock] at e
                    · rw [e2] at e; simp only [Value.ownBlock, Option.some.injEq] at e; subst e; exact lt_of_heap hg2
                  have hW0r : W0.heap.size ≤ wr.heap.size := (HE.out.1.trans (HT2.out.trans HI.out.1.touch)).size
                  have HRn : Hid (EtRow (EtAt w8 (fun q => W0.heap.size ≤ q ∧ v'.ownBlock ≠ some q) n) (raws ++ [r]) ((ks.take (i + 1)).filterMap fun ky => entE (viewR H L n) (getR H L c k (strK ky)) ky)) := by
                    rw [Hid, HFM.out, HK.out]
                    have hmv : ∀ v l, EtAt w7 (fun q => W0.heap.size ≤ q ∧ (Value.slice av raws.length acap).ownBlock ≠ some q) n v l → EtAt w8 (fun q => W0.heap.size ≤ q ∧ v'.ownBlock ≠ some q) n v l := fun v l q => by
                      have q1 : EtAt w7 (fun q => (W0.heap.size ≤ q ∧ v'.ownBlock ≠ some q) ∧ (Value.slice av raws.length acap).ownBlock ≠ some q) n v l := q.mono fun j hj hS => ⟨⟨hS.1, fun e => by
                        rcases hb8 with e2 | e2
                        · exact hS.2 (by rw [← e2]; exact e)
                        · rw [e] at e2; have := Option.some.inj e2; omega⟩, hS.2⟩
                      exact (q1.touch htg fun j hS e => hS.2 e).mono fun j _ hS => hS.1
                    have hk9 : EtAt w7 (fun q => W0.heap.size ≤ q ∧ (Value.slice av raws.length acap).ownBlock ≠ some q) n r.ks.val kd := hr.out.2.2.2.1.mono fun j _ hS => ⟨Nat.le_trans hW0r hS, fun e => absurd (hvwr j e) (by omega)⟩
                    exact EtRow.snoc (r := r) (e := Et.mk ky G.v kd) (HI.out.2.2.mono fun v l q => hmv v l (EtAt.touch hr.out.2.2.2.2.1 (fun _ _ => id) q)) hr.out.2.1 hr.out.2.2.1 (hmv _ _ hk9)
                  have HI2 : Hid (raws.length ≤ i) := HI.out.2.1
                  obtain ⟨ry, rk0, rn, rf, rs, ⟨ra, rnn, rc⟩⟩ := r
                  have hbs := run_buildQ ⟨ry, rk0, rn, rf, rs, ⟨ra, rnn, rc⟩⟩ w7
                  go_upto_region 25 with fail
                  refine wp_region_lit ?_
                  iterate 1 (refine wpList_plain rfl fun K hK => ?_; go_simp; refine hK _ _ ?_; clear hK K)
                  refine wpList_load_mid rfl 61 (.tmp 13) rfl Y 0 rfl [.string ry, .int .i64 rk0, .int .i64 rn, .float .f64 rf, .string rs, .slice ra rnn rc] _ (rangeAt_ew HHx.out) Tryz.underlying61 rfl (by kernel_rfl) ?_
                  simp only [Act.put, List.setIfInBounds_toArray, List.set_cons_succ, List.set_cons_zero]
                  iterate 1 (refine wpList_plain rfl fun K hK => ?_; go_simp; refine hK _ _ ?_; clear hK K)
                  refine wpList_append_runQ rfl (.tmp 135) (.tmp 137) rfl _ _ _ rfl rfl hrun ?_
                  simp only [Act.put, List.setIfInBounds_toArray, List.set_cons_succ, List.set_cons_zero]
                  obtain ⟨bv, bcap, hbv, -⟩ := hn8.shape
                  have HQ : Hid (NewQ W2 w8 (.slice bv (raws ++ [(⟨ry, rk0, rn, rf, rs, ⟨ra, rnn, rc⟩⟩ : Ew)]).length bcap) (raws ++ [⟨ry, rk0, rn, rf, rs, ⟨ra, rnn, rc⟩⟩]) ∧ (raws ++ [(⟨ry, rk0, rn, rf, rs, ⟨ra, rnn, rc⟩⟩ : Ew)]).length ≤ i + 1 ∧ EtRow (EtAt w8 (fun q => W0.heap.size ≤ q ∧ (Value.slice bv (raws ++ [(⟨ry, rk0, rn, rf, rs, ⟨ra, rnn, rc⟩⟩ : Ew)]).length bcap).ownBlock ≠ some q) n) (raws ++ [⟨ry, rk0, rn, rf, rs, ⟨ra, rnn, rc⟩⟩]) ((ks.take (i + 1)).filterMap fun ky => entE (viewR H L n) (getR H L c k (strK ky)) ky)) := by
                    rw [← hbv]
                    exact ⟨hn8, by have := HI2.out; simp; omega, HRn.out⟩
                  have hbv2 : v' = .slice bv (raws.length + 1) bcap := by rw [hbv]; simp
                  clear hbv
                  subst hbv2
                  clear hrun hn8 hg8 htg hvlt hvwr hown8 hown0 hb8 HRn HNw hr HK HHx hbs HI HFM HEn hvk5
                  go_wp2_with fail
                  go_roundg (kn - (i + 1))
                  case measure => have := HIl.out; omega
                  case rel => exact ⟨i + 1, _, bv, bcap, by have := HIl.out; omega, by simp, by go_num, HQ.out⟩
          · have hin2 : i = ks.length := by omega
            have HQ : Hid (EtAt wr (fun q => W0.heap.size ≤ q) (n + 1) (.slice av raws.length acap) (viewR H L (n + 1) c k) ∧ Touch (fun _ => False) W0 wr) := by
              refine ⟨⟨raws, HI.out.1.slS.mono fun q _ h => Nat.le_trans (HE.out.1.trans HT2.out).size h, ?_⟩, HE.out.1.trans (HT2.out.trans HI.out.1.touch)⟩
              have := HI.out.2.2
              rw [hin2, List.take_length] at this
              rw [HVS.out]
              exact this.mono fun v l q => q.mono fun j _ h => h.1
            clear HI HSt HGe HVS HIH HBc HGs
            go_wp2_with fail
            go_ret
            exact ⟨_, rfl, HQ.out.1, HQ.out.2⟩
set_option maxHeartbeats 4000000 in
theorem rview_any {w : World} {b : Nat} {lv hv : Value} {L : List O} {H : List Rg} (h : RfC w b lv hv L H) (hHl : H.length ≤ 1073741824) (hLl : L.length ≤ 100000) (hC : Chain L) (hA : Apart L) (hz : ∀ o ∈ L, o.c ≠ 0) :
    Calls Tryz.prog 22 #[.pointer (some ⟨b, 0, none⟩)] w fun e w' => ∃ v, e = .returned v ∧ EtAt w' (fun q => w.heap.size ≤ q) (L.length + 1) v (viewR H L (L.length + 1) 0 0) ∧ Touch (fun _ => False) w w' := by
  have HE : Hid (Calls Tryz.prog 38 #[.pointer (some ⟨b, 0, none⟩), idV 0 0] w fun e w' => ∃ v, e = .returned v ∧ EtAt w' (fun q => w.heap.size ≤ q) (L.length + 1) v (viewR H L (L.length + 1) 0 0) ∧ Touch (fun _ => False) w w') := below_any h hHl hLl hC hA hz (L.length + 1) 0 0 w (.inl ⟨rfl, rfl, Nat.le_refl _⟩) (Touch.refl _ _)
  clear h hC hA hz hLl hHl
  generalize L.length + 1 = n at *
  generalize viewR H L n 0 0 = X at *
  go_enter Tryz.func22, Tryz.ntmps22
  go_wp2_with fail
  refine HE.out.mono ?_
  rintro e w1 ⟨v, rfl, het, t⟩
  have HQ : Hid (EtAt w1 (fun q => w.heap.size ≤ q) n v X ∧ Touch (fun _ => False) w w1) := ⟨het, t⟩
  obtain ⟨ao, cap, rfl⟩ := het.shape
  clear het t HE
  go_wp2_with fail
  go_ret
  exact ⟨_, rfl, HQ.out⟩
end Go.Proofs.YtodpdcflbnomgaaGreat
