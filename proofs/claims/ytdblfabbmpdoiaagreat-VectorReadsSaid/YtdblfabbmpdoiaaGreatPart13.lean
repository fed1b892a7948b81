/- Bytes that lie, as a string. -/
import Derived.Test.YtdblfabbmpdoiaaGreatPart10
import Derived.Laws.IdiomStrings
import Derived.Laws.BytesArg
import Derived.Laws.AppendOwnNone
import Derived.Maps.AppendAt
import Derived.Laws.OwnMore
namespace Go.Proofs.YtdblfabbmpdoiaaGreat
open Go.RowKit
set_option linter.unusedVariables false
set_option linter.unusedSimpArgs false

theorem lies_string {w : World} {g : Nat} {ao : Option Addr} {bs : List UInt8} (h : Lies w g ao bs) (n cap : Nat) (hn : n = bs.length) : (convert 23 9 (.slice ao n cap)).run Tryz.prog w = .ok (.string ⟨bs.toArray⟩) w := by
  subst hn
  rcases ao with _ | a
  · rcases h with rfl | ⟨off, e, _⟩
    · exact run_convert_bytes_nil w 23 5 Tryz.underlying23 Tryz.underlying5 _ _ 9 Tryz.underlying9
    · cases e
  · refine run_convert_bytes_back w 23 9 5 a cap bs Tryz.underlying23 Tryz.underlying5 Tryz.underlying9 ?_
    intro j hj
    rcases h with rfl | ⟨off, e, h⟩
    · simp at hj
    · cases e
      have e2 : (⟨g, off, none⟩ : Addr).add j = ⟨g, off + j, none⟩ := by unfold Addr.add; split <;> simp_all
      rw [e2]; exact h j hj

end Go.Proofs.YtdblfabbmpdoiaaGreat

/- Bytes as a string; the contract of quirehelp.Bytes. -/
namespace Go.Proofs.YtdblfabbmpdoiaaGreat
open Go.RowKit
set_option linter.unusedVariables false
set_option linter.unusedSimpArgs false

set_option maxRecDepth 100000 in
set_option maxHeartbeats 400000 in
theorem help_bytes (g g2 : Nat) (ao bo : Option Addr) (a b : List UInt8) (n m c d : Nat) (hn : n = a.length) (hm : m = b.length) (w : World) (h1 : Lies w g ao a) (h2 : Lies w g2 bo b) :
    Calls Tryz.prog 10 #[.slice ao n c, .slice bo m d] w fun e w' => e = .returned (.bool (a == b)) ∧ w' = w := by
  subst hn hm
  have k1 := lies_string h1 a.length c rfl
  have k2 := lies_string h2 b.length d rfl
  clear h1 h2
  go_enter Tryz.func10, Tryz.ntmps10
  go_wp2
  go_ret
  exact ⟨rfl, rfl⟩
end Go.Proofs.YtdblfabbmpdoiaaGreat

/- The contract of quirehelp.Copy. -/
namespace Go.Proofs.YtdblfabbmpdoiaaGreat
open Go.RowKit
set_option linter.unusedVariables false

set_option maxRecDepth 100000 in
set_option maxHeartbeats 400000 in
theorem help_copy (g : Nat) (ao : Option Addr) (bs : List UInt8) (n cap : Nat) (hn : n = bs.length) (hnone : ao = none → cap = 0) (w : World) (h : Lies w g ao bs) (hl : bs.length ≤ 140737488355328) :
    Calls Tryz.prog 13 #[.slice ao n cap] w (ClonePost bs w) := by
  subst hn
  obtain ⟨i0, hi, hz0, hz1, hz2⟩ := info_parts Tryz.infoByte
  have hown : w.ownsRow w.heap.size 5 1 (.slice none 0 0) 0 [] := World.ownsRow_nil _ _ _ _
  cases ao with
  | none =>
    have hbs : bs = [] := by
      rcases h with h | ⟨off, e, _⟩
      · exact h
      · cases e
    subst hbs
    have hc := hnone rfl
    subst hc
    have HQ : Hid (ClonePost [] w (.returned (.slice none 0 0)) w) := ⟨_, rfl, World.ownsRow_nil _ _ _ _, Touch.refl _ _⟩
    go_enter Tryz.func13, Tryz.ntmps13
    go_wp2_with (first | (at_builtin; refine wpList_append_own_none rfl _ _ 23 rfl w.heap.size 5 i0 1 Tryz.underlying23 hi _ _ _ rfl hown rfl ?_))
    go_ret
    exact HQ.out
  | some a =>
    have HS : Hid (∀ j u, (cellsOf bs)[j]? = some u → w.cell? (a.add j) = some u) := h.cells
    clear h
    go_enter Tryz.func13, Tryz.ntmps13
    go_wp2_with (first | (at_builtin; refine wpList_append_own _ rfl _ _ 23 rfl w.heap.size 5 i0 (.int .u8 0) 1 1 Tryz.underlying23 hi hz0 hz1 hz2 rfl (by decide) _ _ _ rfl hown a bs.length cap (cellsOf bs) rfl ?c0 ?c1 ?c2 ?c3 ?c4 ?c5 ?_))
    case c0 => rw [cellsOf_length]; omega
    case c1 => exact HS.out
    case c2 => exact cellsOf_one bs
    case c3 => unfold maxLen; omega
    case c4 => omega
    case c5 => exact Nat.le_refl _
    intro v' w1 hown' hgrow _
    try simp only [Nat.zero_add, List.nil_append] at hown'
    have HQ : Hid (ClonePost bs w (.returned v') w1) := ⟨_, rfl, hown', (Touch.refl _ w).grown hgrow (fun i e hi => by simp [Value.ownBlock] at e)⟩
    obtain ⟨ao, n', cap', rfl⟩ : ∃ ao n cap, v' = .slice ao n cap := by
      rcases hown'.2 with ⟨e, _⟩ | ⟨g, cap, cur, e, _⟩
      · exact ⟨_, _, _, e⟩
      · exact ⟨_, _, _, e⟩
    clear hown' hgrow hown
    go_wp2_with fail
    go_ret
    exact HQ.out
end Go.Proofs.YtdblfabbmpdoiaaGreat

/- An append of bytes, as its run; what lies stays where nothing old is touched. -/
namespace Go.Proofs.YtdblfabbmpdoiaaGreat
open Go.RowKit Go.Maps
set_option linter.unusedVariables false

theorem runW_append_bytes (w : World) (v : Value) (bs : List UInt8) (hown : w.ownsRow 0 5 1 v bs.length (cellsOf bs)) (g : Nat) (ao : Option Addr) (n cap : Nat) (b : List UInt8) (hn : n = b.length) (hno : ao = none → cap = 0) (hL : Lies w g ao b) (hlen : bs.length + b.length ≤ 140737488355328) :
    ∃ v' w', (Builtin.append_ #[23, 23] 23 #[v, .slice ao n cap]).run Tryz.prog w = .ok v' w' ∧ Grow v v' (bs ++ b) w w' := by
  subst hn
  obtain ⟨i0, hi, hz0, hz1, hz2⟩ := info_parts Tryz.infoByte
  cases ao with
  | none =>
    have hb : b = [] := by
      rcases hL with h | ⟨off, e, _⟩
      · exact h
      · cases e
    subst hb
    have hc := hno rfl
    subst hc
    refine ⟨v, w, ?_, ?_⟩
    · exact run_append_owned_none w 0 23 23 5 i0 1 Tryz.underlying23 hi v bs.length (cellsOf bs) hown
    · rw [List.append_nil]
      exact Grow.refl hown
  | some ad =>
    obtain ⟨v', w', hrun, hown', hg, _, hat⟩ := run_append_own_at w 0 23 23 5 i0 (.int .u8 0) 1 1 Tryz.underlying23 hi hz0 hz1 hz2 rfl (by decide) v bs.length (cellsOf bs) hown ad b.length cap (cellsOf b) (by rw [cellsOf_length]; omega) hL.cells (cellsOf_one b) (by unfold maxLen; omega) (by omega) (Nat.zero_le _)
    refine ⟨v', w', hrun, ?_, (Touch.refl _ w).grown hg (fun i e _ => e), ?_⟩
    · rw [cellsOf_append, List.length_append]; exact hown'
    · intro k hk hv
      rcases hat with e | e
      · rw [← e]; exact hv
      · rw [hv] at e; simp at e; omega
theorem wpList_append_runB {w w' : World} {ops : Array Oper} {rest : List Oper} {o : Oper} {a : Act} {Q : Exit → Act → World → Prop} (hgd : o.guard = none) (s x : Operand)
    (ho : o.op = .call { callee := .builtin .append, args := #[s, x], argTypes := #[23, 23] }) (v y v' : Value) (hs : a.eval s = v) (hx : a.eval x = y)
    (hrun : (Builtin.append_ #[23, 23] o.type #[v, y]).run Tryz.prog w = .ok v' w') (h : wpList Tryz.prog ops Q rest (a.put o.dst v') w') : wpList Tryz.prog ops Q (o :: rest) a w := by
  refine wpList_plain hgd fun K' hK' => ?_
  unfold Oper.wp
  simp [execOp, ho, resolve, invoke, builtin, hs, hx, hrun, Result.andThen]
  exact hK' _ _ h
theorem Lies.touch {w w' : World} {g : Nat} {bs : List UInt8} {ao : Option Addr} (h : Lies w g ao bs) (t : Touch (fun _ => False) w w') : Lies w' g ao bs := h.keep fun e => t.block g (h.lt e) id
theorem own0 {w : World} {base : Nat} {t : TypeId} {s : Nat} {v : Value} {n : Nat} {xs : List Value} (h : w.ownsRow base t s v n xs) : w.ownsRow 0 t s v n xs := by
  refine ⟨h.1, ?_⟩
  rcases h.2 with h | ⟨g, cap, cur, rfl, hb, hr⟩
  · exact .inl h
  · exact .inr ⟨g, cap, cur, rfl, Nat.zero_le _, hr⟩
end Go.Proofs.YtdblfabbmpdoiaaGreat
