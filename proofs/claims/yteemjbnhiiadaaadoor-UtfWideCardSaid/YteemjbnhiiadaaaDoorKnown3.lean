/- The contract of quirelaw3.known: the chapter's examples hold. -/
import Derived.Test.YteemjbnhiiadaaaDoorUtfPlaceF
import Derived.Test.YteemjbnhiiadaaaDoorUtfCutB
namespace Go.Proofs.YteemjbnhiiadaaaDoor
open Go.RowKit
set_option linter.unusedVariables false
set_option maxRecDepth 100000

theorem ex_runes : runesOf [97, 240, 159, 152, 128, 98] = some [97, 128512, 98] := by decide +kernel
theorem ex_bad : runesOf [255] = none := by decide +kernel
theorem ex_sur : runesOf [237, 160, 128] = none := by decide +kernel

set_option maxHeartbeats 2000000 in
theorem known_any (w : World) (hT : TabsU w) : Calls Tryd.prog 9 #[] w fun e w' => e = .returned (.bool true) ∧ Touch (fun _ => False) w w' := by
  have p1 : Hid (∀ w, TabsU w → Calls Tryd.prog 21 #[.string ⟨#[97, 240, 159, 152, 128, 98]⟩, .int .i64 2] w fun e w' => e = .returned (.tuple #[.int .i64 0, .int .i64 30]) ∧ Touch (fun _ => False) w w') := fun w h => by
    have := utf_place16 ⟨#[97, 240, 159, 152, 128, 98]⟩ (by decide) 2 w h
    rwa [show ans16 (ByteArray.mk #[97, 240, 159, 152, 128, 98]).data.toList 2 = (0, 30) from by decide +kernel] at this
  have p2 : Hid (∀ w, TabsU w → Calls Tryd.prog 21 #[.string ⟨#[97, 240, 159, 152, 128, 98]⟩, .int .i64 3] w fun e w' => e = .returned (.tuple #[.int .i64 2, .int .i64 0]) ∧ Touch (fun _ => False) w w') := fun w h => by
    have := utf_place16 ⟨#[97, 240, 159, 152, 128, 98]⟩ (by decide) 3 w h
    rwa [show ans16 (ByteArray.mk #[97, 240, 159, 152, 128, 98]).data.toList 3 = (2, 0) from by decide +kernel] at this
  have p3 : Hid (∀ w, TabsU w → Calls Tryd.prog 23 #[.string ⟨#[97, 240, 159, 152, 128, 98]⟩, .int .i64 2] w fun e w' => e = .returned (.tuple #[.int .i64 3, .int .i64 0]) ∧ Touch (fun _ => False) w w') := fun w h => by
    have := utf_place ⟨#[97, 240, 159, 152, 128, 98]⟩ (by decide) 2 w h
    rwa [show ansP (ByteArray.mk #[97, 240, 159, 152, 128, 98]).data.toList 2 = (3, 0) from by decide +kernel] at this
  have p4 : Hid (∀ w, TabsU w → Calls Tryd.prog 21 #[.string ⟨#[255]⟩, .int .i64 0] w fun e w' => e = .returned (.tuple #[.int .i64 0, .int .i64 31]) ∧ Touch (fun _ => False) w w') := fun w h => by
    have := utf_place16 ⟨#[255]⟩ (by decide) 0 w h
    rwa [show ans16 (ByteArray.mk #[255]).data.toList 0 = (0, 31) from by decide +kernel] at this
  have p5 : Hid (∀ w, TabsU w → Calls Tryd.prog 12 #[.string ⟨#[97, 240, 159, 152, 128, 98]⟩] w fun e w' => e = .returned (.int .i64 3) ∧ Touch (fun _ => False) w w') := fun w h => by
    have := utf_len ⟨#[97, 240, 159, 152, 128, 98]⟩ (by decide) w h
    rwa [show rsOf (ByteArray.mk #[97, 240, 159, 152, 128, 98]).data.toList = [97, 128512, 98] from by decide +kernel] at this
  have p6 : Hid (∀ w, TabsU w → Calls Tryd.prog 14 #[.string ⟨#[97, 240, 159, 152, 128, 98]⟩] w fun e w' => e = .returned (.int .i64 4) ∧ Touch (fun _ => False) w w') := fun w h => by
    have := utf_len16 ⟨#[97, 240, 159, 152, 128, 98]⟩ (by decide) w h
    rwa [show sum16 (rsOf (ByteArray.mk #[97, 240, 159, 152, 128, 98]).data.toList) = 4 from by decide +kernel] at this
  have p7 : Hid (∀ w, TabsU w → Calls Tryd.prog 18 #[.string ⟨#[97, 240, 159, 152, 128, 98]⟩, .int .i64 1, .int .i64 9] w fun e w' => e = .returned (.string ⟨#[240, 159, 152, 128, 98]⟩) ∧ Touch (fun _ => False) w w') := fun w h => by
    have := utf_cut ⟨#[97, 240, 159, 152, 128, 98]⟩ (by decide) 1 9 w h
    rwa [show cutOf (ByteArray.mk #[97, 240, 159, 152, 128, 98]).data.toList 1 9 = ⟨#[240, 159, 152, 128, 98]⟩ from by decide +kernel] at this
  have p8 : Hid (∀ w, TabsU w → Calls Tryd.prog 10 #[.string ⟨#[97, 240, 159, 152, 128, 98]⟩] w fun e w' => e = .returned (.bool true) ∧ Touch (fun _ => False) w w') := fun w h => by
    have := utf_check ⟨#[97, 240, 159, 152, 128, 98]⟩ (by decide) w h
    rwa [show (runesOf (ByteArray.mk #[97, 240, 159, 152, 128, 98]).data.toList).isSome = true from by decide +kernel] at this
  have p9 : Hid (∀ w, TabsU w → Calls Tryd.prog 10 #[.string ⟨#[237, 160, 128]⟩] w fun e w' => e = .returned (.bool false) ∧ Touch (fun _ => False) w w') := fun w h => by
    have := utf_check ⟨#[237, 160, 128]⟩ (by decide) w h
    rwa [show (runesOf (ByteArray.mk #[237, 160, 128]).data.toList).isSome = false from by decide +kernel] at this
  have h0 := Touch.refl (fun _ => False) w
  have HT : Hid (TabsU w) := hT
  clear hT
  go_enter Tryd.func9, Tryd.ntmps9
  go_wp2_with fail
  refine (p1.out _ (HT.out.keep h0)).mono ?_
  rintro e w1 ⟨rfl, t1⟩
  have h1 := h0.trans t1
  clear h0 t1
  go_wp2_with fail
  refine (p2.out _ (HT.out.keep h1)).mono ?_
  rintro e w2 ⟨rfl, t1⟩
  have h2 := h1.trans t1
  clear h1 t1
  go_wp2_with fail
  refine (p3.out _ (HT.out.keep h2)).mono ?_
  rintro e w3 ⟨rfl, t1⟩
  have h3 := h2.trans t1
  clear h2 t1
  go_wp2_with fail
  refine (p4.out _ (HT.out.keep h3)).mono ?_
  rintro e w4 ⟨rfl, t1⟩
  have h4 := h3.trans t1
  clear h3 t1
  go_wp2_with fail
  refine (p5.out _ (HT.out.keep h4)).mono ?_
  rintro e w5 ⟨rfl, t1⟩
  have h5 := h4.trans t1
  clear h4 t1
  go_wp2_with fail
  refine (p6.out _ (HT.out.keep h5)).mono ?_
  rintro e w6 ⟨rfl, t1⟩
  have h6 := h5.trans t1
  clear h5 t1
  go_wp2_with fail
  refine (p7.out _ (HT.out.keep h6)).mono ?_
  rintro e w7 ⟨rfl, t1⟩
  have h7 := h6.trans t1
  clear h6 t1
  go_wp2_with fail
  refine (p8.out _ (HT.out.keep h7)).mono ?_
  rintro e w8 ⟨rfl, t1⟩
  have h8 := h7.trans t1
  clear h7 t1
  go_wp2_with fail
  refine (p9.out _ (HT.out.keep h8)).mono ?_
  rintro e w9 ⟨rfl, t1⟩
  have h9 := h8.trans t1
  clear h8 t1
  go_wp2_with fail
  go_ret
  exact ⟨rfl, h9⟩
end Go.Proofs.YteemjbnhiiadaaaDoor
