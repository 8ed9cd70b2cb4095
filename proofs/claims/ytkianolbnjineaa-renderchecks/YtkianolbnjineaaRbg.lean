/- The laws' own beginning: a small text that is parsed and printed. -/
import Derived.Test.YtkianolbnjineaaParse
import Derived.Test.YtkianolbnjineaaPt
namespace Go.Proofs.Ytkianolbnjineaa
open Go.RowKit
def rbg : ByteArray := ⟨#[83, 61, 40, 34, 97, 34, 124, 66, 41, 67, 59, 66, 61, 59, 67, 61, 59]⟩
def rbT : ByteArray := ⟨#[83, 32, 61, 32, 40, 34, 97, 34, 32, 124, 32, 66, 41, 32, 67, 59, 10, 66, 32, 61, 32, 59, 10, 67, 32, 61, 32, 59, 10]⟩
def rbD : List Df := [⟨⟨#[83]⟩, 0, ⟨3, ⟨#[]⟩, .cons 4 ⟨#[]⟩ (.cons 1 ⟨#[97]⟩ .nil (.cons 2 ⟨#[66]⟩ .nil .nil)) (.cons 2 ⟨#[67]⟩ .nil .nil)⟩⟩, ⟨⟨#[66]⟩, 11, ⟨3, ⟨#[]⟩, .nil⟩⟩, ⟨⟨#[67]⟩, 14, ⟨3, ⟨#[]⟩, .nil⟩⟩]
def rbL : List Tk := [⟨1, 0, ⟨#[83]⟩⟩, ⟨3, 1, ⟨#[61]⟩⟩, ⟨3, 2, ⟨#[40]⟩⟩, ⟨2, 3, ⟨#[97]⟩⟩, ⟨3, 6, ⟨#[124]⟩⟩, ⟨1, 7, ⟨#[66]⟩⟩, ⟨3, 8, ⟨#[41]⟩⟩, ⟨1, 9, ⟨#[67]⟩⟩, ⟨3, 10, ⟨#[59]⟩⟩, ⟨1, 11, ⟨#[66]⟩⟩, ⟨3, 12, ⟨#[61]⟩⟩, ⟨3, 13, ⟨#[59]⟩⟩, ⟨1, 14, ⟨#[67]⟩⟩, ⟨3, 15, ⟨#[61]⟩⟩, ⟨3, 16, ⟨#[59]⟩⟩]
theorem scan_rbg : scan rbg = (rbL, 0, 0) := by kernel_rfl
theorem text_rbg : text rbL 17 = .ok rbD 15 0 := by kernel_rfl
theorem parse_rbg : parse rbg = .ok rbD 15 0 := by
  unfold parse
  rw [scan_rbg]
  exact text_rbg
theorem rflt_rbg : rflt rbD = (0, 0) := by kernel_rfl
theorem tex_rbg : tex rbD = rbT.data.toList := by kernel_rfl
theorem pstr_rbg : pstr rbD = rbT := by
  unfold pstr
  rw [rflt_rbg, tex_rbg, if_pos rfl]
theorem sh_rbg : ∀ d ∈ rbD, d.sh := by
  intro d hd
  simp only [rbD, List.mem_cons, List.not_mem_nil, or_false] at hd
  rcases hd with h | h | h <;> subst h <;> simp [Df.sh, Xp.sh, Fo.sh, ByteArray.size]
set_option maxRecDepth 100000 in
set_option maxHeartbeats 4000000 in
theorem rbegun_any (w : World) : Calls Try.prog 23 #[] w fun e w' => e = .returned (.bool true) ∧ Below w.heap.size w w' := by
  have P := fun w => parse_any rbg w (by decide) (by rw [scan_rbg]; decide)
  rw [parse_rbg] at P
  unfold rbg at P
  go_enter Try.func23, Try.ntmps23
  go_wp2_with fail
  refine (P _).mono ?_
  clear P
  rintro e w1 ⟨v, rfl, hds, hb⟩
  have hds' : DsV w1 All v rbD := hds.mono fun _ _ _ _ h => ⟨trivial, h⟩
  clear hds
  obtain ⟨hl, ao, cap, rfl, hin⟩ := id hds'
  clear hin hl
  rw [show rbD.length = 3 from rfl] at hds' ⊢
  have PR := print_any rbD _ ((w1.alloc (.cells #[.slice ao 3 cap] 34)).alloc (.cells #[.int .i64 0, .int .i64 0] 25)) (hds'.kp (Kp.of_below (al2 _ _ _)) (fun _ _ h => h)) sh_rbg
  rw [pstr_rbg, rflt_rbg] at PR
  unfold rbT at PR
  have z1 := hb.size
  have c0 : ((w1.alloc (.cells #[.slice ao 3 cap] 34)).alloc (.cells #[.int .i64 0, .int .i64 0] 25)).cell? ⟨w1.heap.size + 1, 0, none⟩ = some (.int .i64 0) := by simp
  go_wp2_with fail
  refine PR.mono ?_
  rintro e w2 ⟨rfl, hb2⟩
  have d0 := alcell (bkeep hb2 c0) (.cells #[.int .i64 0, .int .i64 0] 25)
  go_wp2_with fail
  go_ret
  refine ⟨rfl, ?_⟩
  have h1 := (al2 w1 (.cells #[.slice ao 3 cap] 34) (.cells #[.int .i64 0, .int .i64 0] 25))
  exact ((hb.trans (h1.mono z1)).trans (hb2.mono (by simp; omega))).trans ((al1 w2 _).mono (by have := hb2.size; simp at this; omega))
end Go.Proofs.Ytkianolbnjineaa
