/- The contract of the document's put. -/
import Derived.Test.YtfmpbkdmcgkeoaaRefE
namespace Go.Proofs.Ytfmpbkdmcgkeoaa
open Go.RowKit Go.Maps
set_option linter.unusedVariables false

def rput (f : RFl) (l : List RFl) : List RFl := (l.take (ridx f.key l) ++ [f]) ++ l.drop (if ris f.key l then ridx f.key l + 1 else ridx f.key l)
/-- A list of files that was made since W. -/
def NewRow (W wx : World) (v : Value) (l : List RFl) : Prop := wx.ownsRow 0 69 3 v l.length (rcells l) ∧ Touch (fun _ => False) W wx ∧ ∀ k, v.ownBlock = some k → W.heap.size ≤ k
abbrev fobj (f : RFl) : Obj := .cells #[.string f.name, .slice f.bo f.bs.length f.cap, .int .i64 (f.syn : Int)] 69
/-- The list laid anew. -/
theorem RCore.relaid {w1 w3 : World} {r : Nat} {v v3 : Value} {l l3 : List RFl} {room power : Int} (h : RCore w1 r v l room power) (n : NewRow w1 w3 v3 l3) (hok : ∀ f ∈ l3, RFOk w1 r f) : RCore (w3.setCell ⟨r, 0, none⟩ v3) r v3 l3 room power := by
  have t : Touch (fun k => k = r) w1 (w3.setCell ⟨r, 0, none⟩ v3) := (n.2.1.mono fun _ _ e => e.elim).setCell _ _ fun _ => rfl
  have hr3 : w3.heap[r]? = some (.cells #[v, .int .i64 room, .int .i64 (leftOf power)] 63 (0, 0)) := (n.2.1.block r (lt_of_heap h.cells) id).trans h.cells
  have hne : v3.ownBlock ≠ some r := fun e => absurd (lt_of_heap h.cells) (Nat.not_lt.2 (n.2.2 r e))
  refine ⟨by rw [heap_setCell_same _ _ _ _ hr3]; rfl, ?_, hne, fun f hf => (hok f hf).touch t, h.room0, h.room1, h.pow0, h.pow1⟩
  exact rrow_touch n.1 ((Touch.refl (fun k => k = r) w3).setCell _ _ fun _ => rfl) (fun k hk e => hne (e ▸ hk))
section
variable {w : World} {r : Nat} {v : Value} {l : List RFl} {room power : Int}
theorem NewRow.app {W wx : World} {v : Value} {a : List RFl} (h : NewRow W wx v a) (ao : Option Addr) (n cap : Nat) (b : List RFl) (hn : n = b.length) (hno : ao = none → cap = 0) (hL : LiesR wx ao b) (hlen : a.length + b.length ≤ 1073741825) :
    ∃ v' w', (Builtin.append_ #[61, 61] 61 #[v, .slice ao n cap]).run Try.prog wx = .ok v' w' ∧ NewRow W w' v' (a ++ b) := by
  obtain ⟨v', w', hr, ho, hg, hb⟩ := run_append_files wx v a h.1 ao n cap b hn hno hL hlen
  refine ⟨v', w', hr, ho, ?_, fun k hk => ?_⟩
  · exact h.2.1.then ((Touch.refl (fun i => v.ownBlock = some i) wx).grown hg (fun i e _ => e)) fun i hi e => absurd hi (Nat.not_lt.2 (h.2.2 i e))
  · rcases hb with e | e
    · exact h.2.2 k (e ▸ hk)
    · rw [hk] at e; have := h.2.1.size; simp at e; omega
theorem LiesR.touch {W W' : World} {ao : Option Addr} {b : List RFl} (h : LiesR W ao b) (t : Touch (fun _ => False) W W') : LiesR W' ao b := by
  rcases h with h | ⟨ad, e, h⟩
  · exact .inl h
  · refine .inr ⟨ad, e, fun j u hu => ?_⟩
    have := h j u hu
    rw [World.cell?_of_block (t.block _ (World.block_lt_of_cell? _ _ this) id)]; exact this
theorem LiesR.new (W : World) (f : RFl) : LiesR (W.alloc (fobj f)) (some ⟨W.heap.size, 0, none⟩) [f] := by
  refine .inr ⟨_, rfl, fun j u hu => ?_⟩
  rw [addr_add, Nat.zero_add, cell_of_block (heap_alloc_new W (fobj f))]
  have e : rcells [f] = [.string f.name, .slice f.bo f.bs.length f.cap, .int .i64 (f.syn : Int)] := rfl
  rw [e] at hu
  simpa using hu

set_option maxRecDepth 100000 in
set_option maxHeartbeats 800000 in
theorem rput_any (h : RCore w r v l room power) (f : RFl) (hf : RFOk w r f) (hl : l.length ≤ 1073741823) :
    Calls Try.prog 42 #[rp r, .agg #[.string f.name, .slice f.bo f.bs.length f.cap, .int .i64 (f.syn : Int)]] w fun e w' => e = .returned (.tuple #[]) ∧ (∃ v', RCore w' r v' (rput f l) room power ∧ ∀ k, v'.ownBlock = some k → w.heap.size ≤ k) ∧ Touch (fun k => k = r) w w' := by
  obtain ⟨i, hi⟩ : ∃ i, i = ridx f.key l := ⟨_, rfl⟩
  have hil : i ≤ l.length := by rw [hi]; exact ridx_le _ _
  have HAt : Hid (Calls Try.prog 40 #[rp r, .string f.name] (w.alloc (fobj f)) fun e w' => e = .returned (.tuple #[.int .i64 (i : Int), .bool (ris f.key l)]) ∧ Touch (fun _ => False) (w.alloc (fobj f)) w') := by
    rw [hi]; exact rat_any (h.touch ((Touch.refl _ w).alloc _)) f.name hf.name (by omega)
  have HI : Hid (i = ridx f.key l ∧ RFOk w r f) := ⟨hi, hf⟩
  clear hi hf
  go_enter Try.func42, Try.ntmps42
  go_wp2_with fail
  refine HAt.out.mono ?_
  rintro e w1 ⟨rfl, t1⟩
  have hC1 : RCore w1 r v l room power := (h.touch ((Touch.refl _ w).alloc _)).touch t1
  obtain ⟨vo, cap, rfl, hno, hlc, hcm, hLt, hLd⟩ := hC1.lies
  have hB : w1.heap[w.heap.size]? = some (fobj f) := (t1.block _ (by simp) id).trans (heap_alloc_new w (fobj f))
  have td : Touch (fun _ => False) w1 w1.drew := (Touch.refl _ w1).drew
  have n0 : NewRow w1 w1.drew (.slice none 0 0) [] := ⟨World.ownsRow_nil _ _ _ _, td, fun k hk => by simp [Value.ownBlock] at hk⟩
  have hit : (l.take i).length = i := by simp; omega
  obtain ⟨va, wA, ra1, na1⟩ := n0.app vo i cap (l.take i) hit.symm hno ((hLt i).touch td) (by simp; omega)
  rw [List.nil_append] at na1
  have na2 : NewRow w1 (wA.alloc (fobj f)) va (l.take i) := ⟨rrow_touch na1.1 ((Touch.refl (fun _ => False) wA).alloc _) (fun _ _ => id), na1.2.1.alloc _, na1.2.2⟩
  obtain ⟨va2, wA2, ra2, na3⟩ := na2.app (some ⟨wA.heap.size, 0, none⟩) 1 1 [f] rfl (fun h => by cases h) (LiesR.new wA f) (by simp; omega)
  have nb0 : NewRow w1 (w1.drew.alloc (fobj f)) (.slice none 0 0) [] := ⟨World.ownsRow_nil _ _ _ _, td.alloc _, fun k hk => by simp [Value.ownBlock] at hk⟩
  obtain ⟨vb, wB, rb1, nb1⟩ := nb0.app vo i cap (l.take i) hit.symm hno ((hLt i).touch (td.alloc _)) (by simp; omega)
  rw [List.nil_append] at nb1
  have tB : Touch (fun _ => False) (w1.drew.alloc (fobj f)) wB := by
    obtain ⟨v', w', hr', _, hg, _⟩ := run_append_files (w1.drew.alloc (fobj f)) (.slice none 0 0) [] (World.ownsRow_nil _ _ _ _) vo i cap (l.take i) hit.symm hno ((hLt i).touch (td.alloc _)) (by simp; omega)
    rw [rb1] at hr'
    cases hr'
    exact (Touch.refl _ _).grown hg (fun i e _ => by simp [Value.ownBlock] at e)
  obtain ⟨vb2, wB2, rb2, nb3⟩ := nb1.app (some ⟨w1.heap.size, 0, none⟩) 1 1 [f] rfl (fun h => by cases h) ((LiesR.new w1.drew f).touch tB) (by simp; omega)
  have hsl := fun W => sliceF_to vo l.length cap i (by omega) W
  have c0 := hC1.c0
  have b0 : w1.cell? ⟨w.heap.size, 0, none⟩ = some (.string f.name) := by rw [cell_of_block hB]; rfl
  have b1 : w1.cell? ⟨w.heap.size, 1, none⟩ = some (.slice f.bo f.bs.length f.cap) := by rw [cell_of_block hB]; rfl
  have b2 : w1.cell? ⟨w.heap.size, 2, none⟩ = some (.int .i64 (f.syn : Int)) := by rw [cell_of_block hB]; rfl
  have d0 : ∀ W, Touch (fun _ => False) w1 W → W.cell? ⟨r, 0, none⟩ = some (.slice vo l.length cap) ∧ W.cell? ⟨w.heap.size, 0, none⟩ = some (.string f.name) ∧ W.cell? ⟨w.heap.size, 1, none⟩ = some (.slice f.bo f.bs.length f.cap) ∧ W.cell? ⟨w.heap.size, 2, none⟩ = some (.int .i64 (f.syn : Int)) := by
    intro W t
    refine ⟨?_, ?_, ?_, ?_⟩
    · rw [World.cell?_of_block (t.block _ (World.block_lt_of_cell? _ _ c0) id)]; exact c0
    · rw [World.cell?_of_block (t.block _ (World.block_lt_of_cell? _ _ b0) id)]; exact b0
    · rw [World.cell?_of_block (t.block _ (World.block_lt_of_cell? _ _ b1) id)]; exact b1
    · rw [World.cell?_of_block (t.block _ (World.block_lt_of_cell? _ _ b2) id)]; exact b2
  have s0 := d0 _ td
  have sA := d0 _ na1.2.1
  have sA' := d0 _ na2.2.1
  have sA2 := d0 _ na3.2.1
  have sB0 := d0 _ nb0.2.1
  have sB := d0 _ nb1.2.1
  have sB2 := d0 _ nb3.2.1
  have HA : Hid (NewRow w1 wA2 va2 (l.take i ++ [f])) := na3
  have HBB : Hid (NewRow w1 wB2 vb2 (l.take i ++ [f])) := nb3
  have HLd : Hid (∀ j, j ≤ l.length → LiesR w1 (if cap = j then vo else vo.map (·.add (j * 3))) (l.drop j)) := hLd
  have HC : Hid (RCore w1 r (.slice vo l.length cap) l room power ∧ Touch (fun _ => False) (w.alloc (fobj f)) w1) := ⟨hC1, t1⟩
  clear hC1 t1 hLt hLd hB td hit h n0 na1 na2 na3 nb0 nb1 nb3 tB d0 b0 b1 b2 c0 HAt
  go_upto_region 2 with fail
  go_cut [6] (fun t wx => Hid (NewRow w1 wx t (l.take i ++ [f])))
  case first =>
    go_wp2_with fail
    go_region_held3 (fun W => W.cell? ⟨r, 0, none⟩ = some (.slice vo l.length cap) ∧ W.cell? ⟨w.heap.size, 0, none⟩ = some (.string f.name) ∧ W.cell? ⟨w.heap.size, 1, none⟩ = some (.slice f.bo f.bs.length f.cap) ∧ W.cell? ⟨w.heap.size, 2, none⟩ = some (.int .i64 (f.syn : Int))) (first | assumption)
      (first | (refine step_append_runF (by rfl) _ _ rfl _ _ _ rfl rfl ra1 ?_) | (refine step_append_runF (by rfl) _ _ rfl _ _ _ rfl rfl ra2 ?_) | (refine step_append_runF (by rfl) _ _ rfl _ _ _ rfl rfl rb1 ?_) | (refine step_append_runF (by rfl) _ _ rfl _ _ _ rfl rfl rb2 ?_))
    all_goals (go_wp2_with fail)
    all_goals go_meet
    all_goals (case rel => first | exact HA | exact HBB)
  case rest =>
    clear HA HBB ra1 ra2 rb1 rb2 sA sA' sA2 sB0 sB sB2 s0 hsl
    obtain ⟨j, hj⟩ : ∃ j, j = if ris f.key l then i + 1 else i := ⟨_, rfl⟩
    have hjl : j ≤ l.length := by
      rw [hj]
      split
      · rename_i hb
        unfold ris at hb
        rw [← HI.out.1] at hb
        rcases Nat.lt_or_ge i l.length with x | x
        · omega
        · rw [List.getElem?_eq_none x] at hb; cases hb
      · exact hil
    have hij : i ≤ j := by rw [hj]; split <;> omega
    have hno2 : (if cap = j then vo else vo.map (·.add (j * 3))) = none → cap - j = 0 := by
      intro e
      by_cases hcj : cap = j
      · omega
      · rw [if_neg hcj, Option.map_eq_none_iff] at e
        have := hno e; omega
    obtain ⟨v3, w3, hr3, n3⟩ := hcut.out.app _ (l.length - j) (cap - j) (l.drop j) (by simp) hno2 ((HLd.out j hjl).touch hcut.out.2.1) (by simp; omega)
    have hput : (l.take i ++ [f]) ++ l.drop j = rput f l := by unfold rput; rw [← HI.out.1, hj]
    rw [hput] at n3
    have hv3 : ∃ ro rc, v3 = .slice ro (rput f l).length rc := by
      rcases n3.1.2 with ⟨e, h0⟩ | ⟨g, cp, cur, e, _⟩
      · exact ⟨none, 0, by rw [e, h0]⟩
      · exact ⟨_, _, e⟩
    obtain ⟨ro, rc, rfl⟩ := hv3
    have hok : ∀ x ∈ rput f l, RFOk w1 r x := by
      have tf : Touch (fun k => k = r) w w1 := (((Touch.refl _ w).alloc (fobj f)).trans HC.out.2).mono fun _ _ e => e.elim
      intro x hx
      unfold rput at hx
      simp only [List.mem_append, List.mem_singleton] at hx
      rcases hx with (hx | rfl) | hx
      · exact HC.out.1.ok x (List.mem_of_mem_take hx)
      · exact HI.out.2.touch tf
      · exact HC.out.1.ok x (List.mem_of_mem_drop hx)
    have HQ : Hid (RCore (w3.setCell ⟨r, 0, none⟩ (.slice ro (rput f l).length rc)) r (.slice ro (rput f l).length rc) (rput f l) room power ∧ Touch (fun k => k = r) w (w3.setCell ⟨r, 0, none⟩ (.slice ro (rput f l).length rc))) :=
      ⟨HC.out.1.relaid n3 hok, (((((Touch.refl (fun _ => False) w).alloc (fobj f)).trans HC.out.2).trans n3.2.1).mono fun _ _ e => e.elim).setCell _ _ fun _ => rfl⟩
    have HNb : Hid (∀ k, (Value.slice ro (rput f l).length rc).ownBlock = some k → w.heap.size ≤ k) := fun k hk => by
      have := n3.2.2 k hk
      have := (((Touch.refl (fun _ => False) w).alloc (fobj f)).trans HC.out.2).size
      omega
    have hrc : wc.heap[r]? = some (.cells #[.slice vo l.length cap, .int .i64 room, .int .i64 (leftOf power)] 63 (0, 0)) := (hcut.out.2.1.block r (lt_of_heap HC.out.1.cells) id).trans HC.out.1.cells
    have hrc3 : w3.heap[r]? = some (.cells #[.slice vo l.length cap, .int .i64 room, .int .i64 (leftOf power)] 63 (0, 0)) := (n3.2.1.block r (lt_of_heap HC.out.1.cells) id).trans HC.out.1.cells
    have k0 : wc.cell? ⟨r, 0, none⟩ = some (.slice vo l.length cap) := by rw [cell_of_block hrc]; rfl
    have k3 : w3.cell? ⟨r, 0, none⟩ = some (.slice vo l.length cap) := by rw [cell_of_block hrc3]; rfl
    have f3 := free_of_block (i := 0) hrc3
    have hsl2 := fun W => sliceF_from vo l.length cap j hjl W
    clear hij hcut n3 hput hok hrc hrc3 HC HLd HI hno2 hno
    generalize (if cap = j then vo else vo.map (·.add (j * 3))) = ao at *
    generalize (rput f l).length = N at *
    generalize l.length - j = n1 at *
    generalize cap - j = c1 at *
    cases hb : ris f.key l with
    | true =>
      rw [hb, if_pos rfl] at hj
      subst hj
      have hsl3 : ∀ W, (Instr.slice 61 (.slice vo l.length cap) (some (.int .i64 ((i : Int) + 1))) none none).run Try.prog W = .ok (.slice ao n1 c1) W := fun W => by
        have := hsl2 W
        rw [show ((i + 1 : Nat) : Int) = (i : Int) + 1 from by omega] at this; exact this
      clear hsl2
      go_wp2_with (first | (at_builtin; refine wpList_append_runF rfl _ _ rfl _ _ _ rfl rfl hr3 ?_))
      go_end0
      exact ⟨rfl, ⟨_, HQ.out.1, HNb.out⟩, HQ.out.2⟩
    | false =>
      rw [hb, if_neg (by decide)] at hj
      subst hj
      go_wp2_with (first | (at_builtin; refine wpList_append_runF rfl _ _ rfl _ _ _ rfl rfl hr3 ?_))
      go_end0
      exact ⟨rfl, ⟨_, HQ.out.1, HNb.out⟩, HQ.out.2⟩
end
end Go.Proofs.Ytfmpbkdmcgkeoaa
