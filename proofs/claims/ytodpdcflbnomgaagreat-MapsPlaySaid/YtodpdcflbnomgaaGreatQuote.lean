/- The contract of quireref2.Quote: bytes between marks. -/
import Derived.Test.YtodpdcflbnomgaaGreatPart23
import Derived.Test.YtodpdcflbnomgaaGreatPart22
import Derived.Laws.IdiomStrings
import Derived.Laws.IdiomRangeMap
namespace Go.Proofs.YtodpdcflbnomgaaGreat
open Go.RowKit
set_option linter.unusedVariables false

theorem owned_string {w : World} {v : Value} {bs : List UInt8} (h : w.ownsRow 0 5 1 v bs.length (cellsOf bs)) (hb : bs ≠ []) : (convert 123 9 v).run Tryz.prog w = .ok (.string ⟨bs.toArray⟩) w := by
  rcases h.2 with ⟨_, e⟩ | ⟨g, cap, cur, rfl, _, hg, hn, hc, hs, ht⟩
  · exact absurd (List.eq_nil_of_length_eq_zero e) hb
  · refine run_convert_bytes_back w 123 9 5 ⟨g, 0, none⟩ cap bs Tryz.underlying123 Tryz.underlying5 Tryz.underlying9 ?_
    intro j hj
    have := h.cells (g := g) rfl j (.int .u8 (bs[j].toNat : Int)) (by simp [cellsOf, hj])
    exact this

theorem Grow.start (w : World) (x : UInt8) : Grow (.slice (some ⟨w.heap.size, 0, none⟩) 1 1) (.slice (some ⟨w.heap.size, 0, none⟩) 1 1) [x] (w.alloc (.cells #[.int .u8 (x.toNat : Int)] 5)) (w.alloc (.cells #[.int .u8 (x.toNat : Int)] 5)) :=
  Grow.refl ⟨rfl, .inr ⟨w.heap.size, 1, #[.int .u8 (x.toNat : Int)], rfl, Nat.zero_le _, heap_alloc_new w _, Nat.le_refl 1, by simp [maxLen], rfl, rfl⟩⟩

set_option maxRecDepth 100000 in
set_option maxHeartbeats 1000000 in
theorem ref_quote (s : ByteArray) (hs : s.size ≤ 1000000000000) (w : World) :
    Calls Tryz.prog 57 #[.string s] w fun e w' => e = .returned (.string (refQuote s)) ∧ Touch (fun _ => False) w w' := by
  obtain ⟨i0, hi, hz0, hz1, hz2⟩ := info_parts Tryz.infoByte
  have HL : Hid (s.data.toList.length = s.size) := rfl
  go_enter Tryz.func57, Tryz.ntmps57
  go_wp2_with fail
  go_loopw [3, 4] (fun a b wr => ∃ k : Nat, b = .int .i64 (k : Int) ∧ k ≤ s.size ∧ Grow (.slice (some ⟨w.heap.size, 0, none⟩) 1 1) a (34 :: quoteGo (s.data.toList.take k)) (w.alloc (.cells #[.int .u8 34] 5)) wr) (fun _ b _ => (s.size - intOf b).toNat)
  case atStart => exact ⟨0, rfl, by omega, Grow.start w 34⟩
  case round =>
    obtain ⟨k, rfl, hk, hW⟩ := hrel
    have HW : Hid (Grow (.slice (some ⟨w.heap.size, 0, none⟩) 1 1) u3 (34 :: quoteGo (s.data.toList.take k)) (w.alloc (.cells #[.int .u8 34] 5)) wr) := hW
    have hown := hW.is
    have HB : Hid ((34 :: quoteGo (s.data.toList.take k)).length ≤ 2 * k + 1) := by
      have := quoteGo_length (s.data.toList.take k)
      rw [List.length_take] at this
      simp only [Hid, List.length_cons]; omega
    clear hW
    generalize hcs : 34 :: quoteGo (s.data.toList.take k) = cs at *
    have HC : Hid (34 :: quoteGo (s.data.toList.take k) = cs) := hcs
    have hb := HB.out
    clear hcs
    by_cases hlt : k < s.size
    · have HS : Hid (s.data.toList.take (k + 1) = s.data.toList.take k ++ [s[k]]) := by
        rw [Hid, List.take_succ_eq_append_getElem (by exact hlt)]; rfl
      have HI : Hid (s.size < 9223372036854775808) := by rw [Hid]; omega
      generalize hc : s[k] = c at *
      by_cases hq : c = 34 ∨ c = 92
      · have HN : Hid (34 :: quoteGo (s.data.toList.take (k + 1)) = cs ++ [92] ++ [c]) := by
          rw [Hid, HS.out, quoteGo_append, ← HC.out]
          simp [quoteGo, hq]
        by_cases hq1 : c = 34
        · have q1 : ((c.toNat : Int) == 34) = true := by rw [hq1]; rfl
          clear hq1 hq
          go_wp2_with (first | (at_builtin; refine wpList_append_own_at _ rfl _ _ 123 rfl 0 5 i0 (.int .u8 0) 1 1 Tryz.underlying123 hi hz0 hz1 hz2 rfl (by decide) _ _ _ rfl (hown.alloc _) ⟨wr.heap.size, 0, none⟩ 1 1 [.int .u8 92] rfl rfl ?ea1 ?ea2 ?ea3 ?ea4 ?ea5 ?_))
          case ea1 =>
            intro j u hj
            match j, hj with
            | 0, hj => simp at hj; subst hj; simp [Addr.add]
          case ea2 => intro u hu; simp at hu; subst hu; rfl
          case ea3 => unfold maxLen; omega
          case ea4 => omega
          case ea5 => exact Nat.zero_le _
          intro v' w1 hown' hgrow _ hat
          rw [show (92 : Int) = ((92 : UInt8).toNat : Int) from rfl] at hown'
          have HG : Hid (Grow (.slice (some ⟨w.heap.size, 0, none⟩) 1 1) v' (cs ++ [92]) (w.alloc (.cells #[.int .u8 34] 5)) w1) := HW.out.trans (Grow.pushed ((Touch.refl _ wr).alloc _) hown' hgrow hat (by omega))
          clear hown' hgrow hat hown
          have hown := HG.out.is
          go_wp2_with (first | (at_builtin; refine wpList_append_own_at _ rfl _ _ 123 rfl 0 5 i0 (.int .u8 0) 1 1 Tryz.underlying123 hi hz0 hz1 hz2 rfl (by decide) _ _ _ rfl (hown.alloc _) ⟨w1.heap.size, 0, none⟩ 1 1 [.int .u8 (c.toNat : Int)] rfl rfl ?eb1 ?eb2 ?eb3 ?eb4 ?eb5 ?_))
          case eb1 =>
            intro j u hj
            match j, hj with
            | 0, hj => simp at hj; subst hj; simp [Addr.add]
          case eb2 => intro u hu; simp at hu; subst hu; rfl
          case eb3 => unfold maxLen; simp only [List.length_append, List.length_singleton]; omega
          case eb4 => simp only [List.length_append, List.length_singleton]; omega
          case eb5 => exact Nat.zero_le _
          intro v2 w2 hown' hgrow _ hat
          rw [show cs.length + 1 = (cs ++ [92]).length from by simp] at hown'
          have HH : Hid (Grow (.slice (some ⟨w.heap.size, 0, none⟩) 1 1) v2 (cs ++ [92] ++ [c]) (w.alloc (.cells #[.int .u8 34] 5)) w2) := HG.out.trans (Grow.pushed ((Touch.refl _ w1).alloc _) hown' hgrow hat (by omega))
          clear hown' hgrow hat hown
          obtain ⟨ao, n', cap', rfl⟩ := HH.out.slice
          go_wp2_with fail
          go_roundw
          case rel => exact ⟨k + 1, by go_num, by omega, by rw [HN.out]; exact HH.out⟩
          case measure => simp [intOf]; omega
        · have q1 : ((c.toNat : Int) == 34) = false := by
            rw [beq_eq_false_iff_ne]; intro h; exact hq1 (UInt8.toNat.inj (Int.ofNat.inj h))
          have q2 : ((c.toNat : Int) == 92) = true := by rw [hq.resolve_left hq1]; rfl
          clear hq1 hq
          go_wp2_with (first | (at_builtin; refine wpList_append_own_at _ rfl _ _ 123 rfl 0 5 i0 (.int .u8 0) 1 1 Tryz.underlying123 hi hz0 hz1 hz2 rfl (by decide) _ _ _ rfl (hown.alloc _) ⟨wr.heap.size, 0, none⟩ 1 1 [.int .u8 92] rfl rfl ?fa1 ?fa2 ?fa3 ?fa4 ?fa5 ?_))
          case fa1 =>
            intro j u hj
            match j, hj with
            | 0, hj => simp at hj; subst hj; simp [Addr.add]
          case fa2 => intro u hu; simp at hu; subst hu; rfl
          case fa3 => unfold maxLen; omega
          case fa4 => omega
          case fa5 => exact Nat.zero_le _
          intro v' w1 hown' hgrow _ hat
          rw [show (92 : Int) = ((92 : UInt8).toNat : Int) from rfl] at hown'
          have HG : Hid (Grow (.slice (some ⟨w.heap.size, 0, none⟩) 1 1) v' (cs ++ [92]) (w.alloc (.cells #[.int .u8 34] 5)) w1) := HW.out.trans (Grow.pushed ((Touch.refl _ wr).alloc _) hown' hgrow hat (by omega))
          clear hown' hgrow hat hown
          have hown := HG.out.is
          go_wp2_with (first | (at_builtin; refine wpList_append_own_at _ rfl _ _ 123 rfl 0 5 i0 (.int .u8 0) 1 1 Tryz.underlying123 hi hz0 hz1 hz2 rfl (by decide) _ _ _ rfl (hown.alloc _) ⟨w1.heap.size, 0, none⟩ 1 1 [.int .u8 (c.toNat : Int)] rfl rfl ?fb1 ?fb2 ?fb3 ?fb4 ?fb5 ?_))
          case fb1 =>
            intro j u hj
            match j, hj with
            | 0, hj => simp at hj; subst hj; simp [Addr.add]
          case fb2 => intro u hu; simp at hu; subst hu; rfl
          case fb3 => unfold maxLen; simp only [List.length_append, List.length_singleton]; omega
          case fb4 => simp only [List.length_append, List.length_singleton]; omega
          case fb5 => exact Nat.zero_le _
          intro v2 w2 hown' hgrow _ hat
          rw [show cs.length + 1 = (cs ++ [92]).length from by simp] at hown'
          have HH : Hid (Grow (.slice (some ⟨w.heap.size, 0, none⟩) 1 1) v2 (cs ++ [92] ++ [c]) (w.alloc (.cells #[.int .u8 34] 5)) w2) := HG.out.trans (Grow.pushed ((Touch.refl _ w1).alloc _) hown' hgrow hat (by omega))
          clear hown' hgrow hat hown
          obtain ⟨ao, n', cap', rfl⟩ := HH.out.slice
          go_wp2_with fail
          go_roundw
          case rel => exact ⟨k + 1, by go_num, by omega, by rw [HN.out]; exact HH.out⟩
          case measure => simp [intOf]; omega
      · have HN : Hid (34 :: quoteGo (s.data.toList.take (k + 1)) = cs ++ [c]) := by
          rw [Hid, HS.out, quoteGo_append, ← HC.out]
          simp [quoteGo, hq]
        have q1 : ((c.toNat : Int) == 34) = false := by
          rw [beq_eq_false_iff_ne]; intro h; exact hq (.inl (UInt8.toNat.inj (Int.ofNat.inj h)))
        have q2 : ((c.toNat : Int) == 92) = false := by
          rw [beq_eq_false_iff_ne]; intro h; exact hq (.inr (UInt8.toNat.inj (Int.ofNat.inj h)))
        go_wp2_with (first | (at_builtin; refine wpList_append_own_at _ rfl _ _ 123 rfl 0 5 i0 (.int .u8 0) 1 1 Tryz.underlying123 hi hz0 hz1 hz2 rfl (by decide) _ _ _ rfl (hown.alloc _) ⟨wr.heap.size, 0, none⟩ 1 1 [.int .u8 (c.toNat : Int)] rfl rfl ?d1 ?d2 ?d3 ?d4 ?d5 ?_))
        case d1 =>
          intro j u hj
          match j, hj with
          | 0, hj => simp at hj; subst hj; simp [Addr.add]
        case d2 => intro u hu; simp at hu; subst hu; rfl
        case d3 => unfold maxLen; omega
        case d4 => omega
        case d5 => exact Nat.zero_le _
        intro v' w1 hown' hgrow _ hat
        have HG : Hid (Grow (.slice (some ⟨w.heap.size, 0, none⟩) 1 1) v' (cs ++ [c]) (w.alloc (.cells #[.int .u8 34] 5)) w1) := HW.out.trans (Grow.pushed ((Touch.refl _ wr).alloc _) hown' hgrow hat (by omega))
        clear hown' hgrow hat hown
        obtain ⟨ao, n', cap', rfl⟩ := HG.out.slice
        go_wp2_with fail
        go_roundw
        case rel => exact ⟨k + 1, by go_num, by omega, by rw [HN.out]; exact HG.out⟩
        case measure => simp [intOf]; omega
    · have ek : k = s.size := by omega
      have HS : Hid (s.data.toList.take k = s.data.toList) := by rw [Hid, ek]; exact List.take_length
      have HQ : Hid (cs ++ [34] = 34 :: quoteGo s.data.toList ++ [34]) := by rw [Hid, ← HC.out, HS.out]
      go_wp2_with (first | (at_builtin; refine wpList_append_own_at _ rfl _ _ 123 rfl 0 5 i0 (.int .u8 0) 1 1 Tryz.underlying123 hi hz0 hz1 hz2 rfl (by decide) _ _ _ rfl (hown.alloc _) ⟨wr.heap.size, 0, none⟩ 1 1 [.int .u8 34] rfl rfl ?c1 ?c2 ?c3 ?c4 ?c5 ?_))
      case c1 =>
        intro j u hj
        match j, hj with
        | 0, hj => simp at hj; subst hj; simp [Addr.add]
      case c2 => intro u hu; simp at hu; subst hu; rfl
      case c3 => unfold maxLen; omega
      case c4 => omega
      case c5 => exact Nat.zero_le _
      intro v' w1 hown' hgrow _ hat
      rw [show (34 : Int) = ((34 : UInt8).toNat : Int) from rfl] at hown'
      have HG : Hid (Grow (.slice (some ⟨w.heap.size, 0, none⟩) 1 1) v' (cs ++ [34]) (w.alloc (.cells #[.int .u8 34] 5)) w1) := HW.out.trans (Grow.pushed ((Touch.refl _ wr).alloc _) hown' hgrow hat (by omega))
      obtain ⟨aoHG, nHG, capHG, rfl⟩ := HG.out.slice
      clear hown' hgrow hat
      have hconv := owned_string HG.out.is (by simp)
      rw [HQ.out] at hconv
      go_wp2_with (simp only [hconv])
      go_ret
      refine ⟨rfl, ?_⟩
      exact ((Touch.refl _ w).alloc _).then HG.out.touch (fun k hk e => by simp [Value.ownBlock] at e; omega)
end Go.Proofs.YtodpdcflbnomgaaGreat
