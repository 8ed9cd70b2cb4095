/- The law's own beginning: a small text that is scanned. -/
import Derived.Test.YtceccjgcfboflaaSame
namespace Go.Proofs.Ytceccjgcfboflaa
open Go.RowKit

def bg : ByteArray := ⟨#[83, 32, 61, 32, 34, 97, 34, 32, 35, 32, 120]⟩
def bgL : List Tk := [⟨1, 0, ⟨#[83]⟩⟩, ⟨3, 2, ⟨#[61]⟩⟩, ⟨2, 4, ⟨#[97]⟩⟩]
theorem scan_bg : scan bg = (bgL, 0, 0) := by kernel_rfl
theorem name_S1 : isNameB ⟨#[83, 49]⟩ = true := by decide +kernel
theorem name_1 : isNameB ⟨#[49]⟩ = false := by decide +kernel
theorem term_pm : isTermB ⟨#[43, 32, 45]⟩ = true := by decide +kernel
set_option maxHeartbeats 1000000 in
theorem begun_any (w : World) : Calls Try.prog 5 #[] w fun e w' => e = .returned (.bool true) ∧ Below w.heap.size w w' := by
  have hS := scan_any bg
  rw [scan_bg] at hS
  unfold bg at hS
  go_enter Try.func5, Try.ntmps5
  go_wp2_with fail
  refine (hS w (by decide)).mono ?_
  clear hS
  rintro e w1 ⟨v, rfl, hown, hb⟩
  rcases owns_shape hown with ⟨_, _, _, hz⟩ | ⟨g, cap, rfl, hg1, hg2, t⟩
  · exact absurd hz (by decide)
  have c1 := t.c1 2 (by decide)
  have c2 := t.c2 2 (by decide)
  simp only [bgL] at c1 c2
  simp at c1 c2
  clear t hown
  have hN1 := name_S1
  have hN2 := name_1
  have hT := term_pm
  simp only [bgL]
  go_wp2_with fail
  refine (name_any _ _ (by decide)).mono ?_
  rintro e wx ⟨rfl, hwx⟩; obtain rfl := hwx.symm
  go_wp2_with fail
  refine (name_any _ _ (by decide)).mono ?_
  rintro e wx ⟨rfl, hwx⟩; obtain rfl := hwx.symm
  go_wp2_with fail
  refine (term_any _ _ (by decide)).mono ?_
  rintro e wx ⟨rfl, hwx⟩; obtain rfl := hwx.symm
  go_wp2_with fail
  go_ret
  exact ⟨rfl, hb.alloc hb.size _⟩
end Go.Proofs.Ytceccjgcfboflaa
