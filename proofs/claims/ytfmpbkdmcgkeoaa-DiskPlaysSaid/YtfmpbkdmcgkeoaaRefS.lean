/- The document's disk in its state: Delete, Sync. -/
import Derived.Test.YtfmpbkdmcgkeoaaRefM
namespace Go.Proofs.Ytfmpbkdmcgkeoaa
open Go.RowKit Go.Maps
set_option linter.unusedVariables false

def rfoot (r : Nat) (v : Value) (l : List RFl) (k : Nat) : Prop := k = r ∨ v.ownBlock = some k ∨ ∃ f ∈ l, f.bs ≠ [] ∧ f.g = k
/-- Block r is the document's disk in the state s; its blocks are in G. -/
def RLive (w : World) (r : Nat) (G : Nat → Prop) (s : St) : Prop :=
  ∃ v l, RCore w r v l s.room s.power ∧ s.fs = absL l ∧ (∀ k, rfoot r v l k → G k) ∧ ∀ k, G k → k < w.heap.size
def RPost (r : Nat) (G : Nat → Prop) (s : St) (w w' : World) : Prop := ∃ G', RLive w' r G' s ∧ Touch (fun k => k = r) w w' ∧ ∀ k, k < w.heap.size → G' k → G k
theorem RCore.foot_lt {w : World} {r : Nat} {v : Value} {l : List RFl} {room power : Int} (h : RCore w r v l room power) {k : Nat} (hk : rfoot r v l k) : k < w.heap.size := by
  rcases hk with rfl | hk | ⟨f, hf, hb, rfl⟩
  · exact lt_of_heap h.cells
  · rcases h.owns.2 with ⟨e, _⟩ | ⟨g, cap, cur, e, _, hg, _⟩
    · rw [e] at hk; simp [Value.ownBlock] at hk
    · rw [e] at hk; simp [Value.ownBlock] at hk; subst hk; exact lt_of_heap hg
  · exact (h.ok f hf).lies.lt hb
theorem rpost_of {w w' : World} {r : Nat} {v v' : Value} {l l' : List RFl} {G : Nat → Prop} {s : St} (hG : ∀ k, rfoot r v l k → G k) (hC : RCore w' r v' l' s.room s.power) (hs : s.fs = absL l') (t : Touch (fun k => k = r) w w')
    (hv : ∀ k, v'.ownBlock = some k → v.ownBlock = some k ∨ w.heap.size ≤ k) (hl : ∀ f ∈ l', f.bs ≠ [] → f.g < w.heap.size → ∃ x ∈ l, x.bs ≠ [] ∧ x.g = f.g) : RPost r G s w w' := by
  refine ⟨fun k => k < w'.heap.size ∧ (k < w.heap.size → G k), ⟨v', l', hC, hs, fun k hk => ⟨hC.foot_lt hk, fun hlt => ?_⟩, fun k hk => hk.1⟩, t, fun k hk h => h.2 hk⟩
  rcases hk with rfl | hk | ⟨f, hf, hb, rfl⟩
  · exact hG _ (.inl rfl)
  · rcases hv k hk with e | e
    · exact hG k (.inr (.inl e))
    · omega
  · obtain ⟨x, hx, hxb, hxg⟩ := hl f hf hb hlt
    exact hG _ (.inr (.inr ⟨x, hx, hxb, hxg⟩))
theorem mem_rput {f x : RFl} {l : List RFl} (h : x ∈ rput f l) : x = f ∨ x ∈ l := by
  unfold rput at h
  simp only [List.mem_append, List.mem_singleton] at h
  rcases h with (h | rfl) | h
  · exact .inr (List.mem_of_mem_take h)
  · exact .inl rfl
  · exact .inr (List.mem_of_mem_drop h)
theorem mem_rdrop {k : Key} {x : RFl} {l : List RFl} (h : x ∈ rdrop k l) : x ∈ l := by
  unfold rdrop at h
  split at h
  · rcases List.mem_append.1 h with h | h
    · exact List.mem_of_mem_take h
    · exact List.mem_of_mem_drop h
  · exact h
theorem RLive.dead {w : World} {r : Nat} {G : Nat → Prop} {s : St} (h : RLive w r G s) : Calls Try.prog 38 #[rp r] w fun e w' => e = .returned (.bool (decide (s.power = 0))) ∧ w' = w := by
  obtain ⟨v, l, hC, _⟩ := h
  exact rDead_any hC

set_option maxRecDepth 100000 in
set_option maxHeartbeats 800000 in
theorem rdelete_any {w : World} {r : Nat} {G : Nat → Prop} {s : St} (h : RLive w r G s) (hr : Rising s.fs) (hn : s.fs.length ≤ 1073741823) (k : ByteArray) (hk : k.size ≤ 281474976710656) :
    Calls Try.prog 19 #[rp r, .string k] w fun e w' => e = .returned (.int .i64 (s.err k.data.toList)) ∧ RPost r G (mDelete s k.data.toList) w w' := by
  obtain ⟨v, l, hC, hfs, hG, hGl⟩ := h
  have HD : Hid (Calls Try.prog 38 #[rp r] w fun e w' => e = .returned (.bool (decide (s.power = 0))) ∧ w' = w) := rDead_any hC
  have hll : l.length ≤ 1073741823 := by rw [hfs] at hn; simpa [absL] using hn
  have HAt : Hid (Calls Try.prog 40 #[rp r, .string k] w fun e w' => e = .returned (.tuple #[.int .i64 (ridx k.data.toList l : Int), .bool (ris k.data.toList l)]) ∧ Touch (fun _ => False) w w') := rat_any hC k hk (by omega)
  have hrA : Rising (absL l) := hfs ▸ hr
  have hris := ris_abs (k := k.data.toList) hrA
  have HSame : Hid (∀ w', Touch (fun _ => False) w w' → s.err k.data.toList ≠ 0 → RPost r G (mDelete s k.data.toList) w w') := by
    intro w' t e
    unfold mDelete
    rw [if_neg e]
    exact rpost_of hG (hC.touch t) hfs (t.mono fun _ _ e => e.elim) (fun _ e => .inl e) (fun f hf hb _ => ⟨f, hf, hb, rfl⟩)
  by_cases hp : s.power = 0
  · have he : s.err k.data.toList = 43 := by unfold St.err; rw [if_pos hp]
    have HQ := HSame.out w (Touch.refl _ _) (by rw [he]; decide)
    have HZ : Hid (RPost r G (mDelete s k.data.toList) w w) := HQ
    rw [he]
    rw [decide_eq_true hp] at HD
    clear HQ hC hfs hG hGl HAt hris hrA HSame hp he hr hn
    go_enter Try.func19, Try.ntmps19
    go_wp2_with fail
    refine HD.out.mono ?_
    rintro e w1 ⟨rfl, hw⟩
    rw [hw]; clear hw
    go_wp2_with fail
    go_ret
    exact ⟨rfl, HZ.out⟩
  · rw [decide_eq_false hp] at HD
    cases hb : ris k.data.toList l with
    | false =>
      have he : s.err k.data.toList = 40 := by
        unfold St.err; rw [if_neg hp, hfs, ← hris, hb]; rfl
      rw [he]
      rw [hb] at HAt
      have HZ : Hid (∀ w', Touch (fun _ => False) w w' → RPost r G (mDelete s k.data.toList) w w') := fun w' t => HSame.out w' t (by rw [he]; decide)
      generalize (ridx k.data.toList l : Int) = I at *
      clear hC hfs hG hGl hris hrA HSame hp he hr hn hb
      go_enter Try.func19, Try.ntmps19
      go_wp2_with fail
      refine HD.out.mono ?_
      rintro e w1 ⟨rfl, hw⟩
      rw [hw]; clear hw
      go_wp2_with fail
      refine HAt.out.mono ?_
      rintro e w1 ⟨rfl, t⟩
      have HY : Hid (RPost r G (mDelete s k.data.toList) w w1) := HZ.out w1 t
      clear t
      go_wp2_with fail
      go_ret
      exact ⟨rfl, HY.out⟩
    | true =>
      have he : s.err k.data.toList = 0 := by
        unfold St.err; rw [if_neg hp, hfs, ← hris, hb]; rfl
      rw [he]
      rw [hb] at HAt
      have HDr : Hid (∀ w1, Touch (fun _ => False) w w1 → Calls Try.prog 46 #[rp r, .string k] w1 fun e w' => e = .returned (.tuple #[]) ∧ ∃ v', RCore w' r v' (rdrop k.data.toList l) s.room s.power ∧ (∀ k, v'.ownBlock = some k → v.ownBlock = some k ∨ w.heap.size ≤ k) ∧ Touch (fun k => k = r) w w') := by
        intro w1 t1
        refine (rdrop_any (hC.touch t1) k hk hll).mono ?_
        rintro e w' ⟨he, ⟨v', h1, h2⟩, t⟩
        exact ⟨he, v', h1, fun k' hk' => (h2 k' hk').imp id fun x => Nat.le_trans t1.size x, (t1.mono fun _ _ e => e.elim).trans t⟩
      have HEnd : Hid (∀ w1 w2 v', RCore w1 r v' (rdrop k.data.toList l) s.room s.power → (∀ k, v'.ownBlock = some k → v.ownBlock = some k ∨ w.heap.size ≤ k) → Touch (fun k => k = r) w w1 → RCore w2 r v' (rdrop k.data.toList l) s.room (spent s.power) → Touch (fun k => k = r) w1 w2 → RPost r G (mDelete s k.data.toList) w w2) := by
        intro w1 w2 v' h1 h2 t1 h3 t2
        unfold mDelete
        rw [if_pos he]
        refine rpost_of (s := s.to (adel k.data.toList s.fs)) hG h3 ?_ (t1.trans t2) h2 (fun f hf hb _ => ⟨f, mem_rdrop hf, hb, rfl⟩)
        show adel k.data.toList s.fs = _
        rw [rdrop_abs hrA, hfs]
      generalize (ridx k.data.toList l : Int) = I at *
      clear hC hfs hG hGl hris hrA HSame hp he hr hn hb
      go_enter Try.func19, Try.ntmps19
      go_wp2_with fail
      refine HD.out.mono ?_
      rintro e w1 ⟨rfl, hw⟩
      rw [hw]; clear hw
      go_wp2_with fail
      refine HAt.out.mono ?_
      rintro e w1 ⟨rfl, t⟩
      have H := HDr.out w1 t
      have HC1 : Hid (Calls Try.prog _ #[rp r, _] w1 _) := H
      clear H t
      go_wp2_with fail
      refine HC1.out.mono ?_
      rintro e w2 ⟨rfl, v', h1, h2, t2⟩
      have H1 : Hid (RCore w2 r v' (rdrop k.data.toList l) s.room s.power ∧ (∀ k, v'.ownBlock = some k → v.ownBlock = some k ∨ w.heap.size ≤ k) ∧ Touch (fun k => k = r) w w2) := ⟨h1, h2, t2⟩
      clear h1 h2 t2 HC1
      go_wp2_with fail
      refine (rdone_any H1.out.1).mono ?_
      rintro e w3 ⟨rfl, h3, t3⟩
      have HY : Hid (RPost r G (mDelete s k.data.toList) w w3) := HEnd.out w2 w3 v' H1.out.1 H1.out.2.1 H1.out.2.2 h3 t3
      clear h3 t3 H1
      go_wp2_with fail
      go_ret
      exact ⟨rfl, HY.out⟩
end Go.Proofs.Ytfmpbkdmcgkeoaa
