/- The law's own beginning: a small text that is parsed. -/
import Derived.Test.YthbbfddclhcoaaaParse
import Derived.Test.YthbbfddclhcoaaaGreat
namespace Go.Proofs.Ythbbfddclhcoaaa
open Go.RowKit
def sbg : ByteArray := ⟨#[83, 32, 61, 32, 34, 97, 34, 32, 83, 32, 34, 98, 34, 32, 124, 32, 59]⟩
def sbE : Xp := ⟨4, ⟨#[]⟩, .cons 3 ⟨#[]⟩ (.cons 1 ⟨#[97]⟩ .nil (.cons 2 ⟨#[83]⟩ .nil (.cons 1 ⟨#[98]⟩ .nil .nil))) (.cons 3 ⟨#[]⟩ .nil .nil)⟩
def sbD : Df := ⟨⟨#[83]⟩, 0, sbE⟩
def sbL : List Tk := [⟨1, 0, ⟨#[83]⟩⟩, ⟨3, 2, ⟨#[61]⟩⟩, ⟨2, 4, ⟨#[97]⟩⟩, ⟨1, 8, ⟨#[83]⟩⟩, ⟨2, 10, ⟨#[98]⟩⟩, ⟨3, 14, ⟨#[124]⟩⟩, ⟨3, 16, ⟨#[59]⟩⟩]
theorem scan_sbg : scan sbg = (sbL, 0, 0) := by kernel_rfl
theorem text_sbg : text sbL 17 = .ok [sbD] 7 0 := by kernel_rfl
theorem parse_sbg : parse sbg = .ok [sbD] 7 0 := by
  unfold parse
  rw [scan_sbg]
  exact text_sbg
set_option maxHeartbeats 4000000 in
theorem sbegun_any (w : World) : Calls Try.prog 16 #[] w fun e w' => e = .returned (.bool true) ∧ Below w.heap.size w w' := by
  have P := fun w => parse_any sbg w (by decide) (by rw [scan_sbg]; decide)
  rw [parse_sbg] at P
  unfold sbg at P
  go_enter Try.func16, Try.ntmps16
  go_wp2_with fail
  refine (P _).mono ?_
  clear P
  rintro e w1 ⟨v, rfl, hds, hb⟩
  have hds' : DsV w1 All v [sbD] := hds.mono fun _ _ _ _ h => ⟨trivial, h⟩
  clear hds
  have hds := hds'
  obtain ⟨hl, ao, cap, rfl, hin⟩ := hds
  obtain h0 | ⟨b, o, rfl, _, c0, c1, ⟨x0, x1, u, x2, hfu⟩, _⟩ := hin
  · exact absurd h0 (by decide)
  obtain ⟨_, aoE, capE, rfl, hE⟩ := hfu
  obtain h0 | ⟨b2, o2, rfl, _, y0, y1, ⟨_, aoR, capR, y2, _⟩, _⟩ := hE
  · exact absurd h0 (by decide)
  have l1 := lt_of_cell x0
  have l2 := lt_of_cell y0
  have x0' : w1.cell? ⟨b, o + 2, none⟩ = some (.int .i64 4) := x0
  have x2' : w1.cell? ⟨b, o + 4, none⟩ = some (.slice (some ⟨b2, o2, none⟩) 2 capE) := x2
  have y2' : w1.cell? ⟨b2, o2 + 2, none⟩ = some (.slice aoR 3 capR) := y2
  have g0 : ∀ X Y, ((w1.alloc X).alloc Y).cell? ⟨b, o + 2, none⟩ = some (.int .i64 4) := fun X Y => by rw [World.cell?_alloc_lt _ _ _ (by simp; omega), World.cell?_alloc_lt _ _ _ l1]; exact x0'
  have g1 : ∀ X Y, ((w1.alloc X).alloc Y).cell? ⟨b, o + 4, none⟩ = some (.slice (some ⟨b2, o2, none⟩) 2 capE) := fun X Y => by rw [World.cell?_alloc_lt _ _ _ (by simp; omega), World.cell?_alloc_lt _ _ _ l1]; exact x2'
  have g2 : ∀ X Y, ((w1.alloc X).alloc Y).cell? ⟨b2, o2 + 2, none⟩ = some (.slice aoR 3 capR) := fun X Y => by rw [World.cell?_alloc_lt _ _ _ (by simp; omega), World.cell?_alloc_lt _ _ _ l2]; exact y2'
  clear x0 x1 x2 y0 y1 y2 c0 c1 hl
  rw [show [sbD].length = 1 from rfl] at hds'
  rw [show [sbD].length = 1 from rfl]
  go_wp2_with fail
  refine (same_text [sbD] [sbD] _ _ _ (hds'.below (((Below.refl _ _).alloc (Nat.le_refl _) _).alloc (by simp) _)) (hds'.below (((Below.refl _ _).alloc (Nat.le_refl _) _).alloc (by simp) _))).mono ?_
  rintro e w2 ⟨rfl, hb2⟩
  rw [show smB false [sbD] [sbD] = true from by simp [smB]]
  go_wp2_with fail
  go_ret
  exact ⟨rfl, ((hb.alloc hb.size _).alloc (by simp; have := hb.size; omega) _).trans (hb2.mono (by simp; have := hb.size; omega))⟩
end Go.Proofs.Ythbbfddclhcoaaa
