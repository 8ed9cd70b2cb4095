/- Texts laid together: Mk Xk Pl RScan Same Rd Prs Item Row Defn Sl Es. -/
import Derived.Test.YtghplmldnkcpnacL01
import Derived.Test.YtghplmldnkcpnacProg
import Derived.Deep.Quiet
import Derived.Deep.QuietTactic
import Derived.BigQuiet
import Derived.Defers
import Derived.Recover
import Derived.RegionTactic
import Derived.BigRegion
import Derived.Deep.LoopGhost
import Derived.Test.YtghplmldnkcpnacL02
import Derived.Test.YtghplmldnkcpnacL03
/- The small functions of package render: rounded, ownParts, formed, named, marks. -/
namespace Go.Proofs.Ytghplmldnkcpnac
open Go.RowKit

theorem al2 (w : World) (o p : Obj) : Below w.heap.size w ((w.alloc o).alloc p) := ((Below.refl _ _).alloc (Nat.le_refl _) _).alloc (by simp) _
theorem al1 (w : World) (o : Obj) : Below w.heap.size w (w.alloc o) := (Below.refl _ _).alloc (Nat.le_refl _) _
set_option maxRecDepth 100000 in
set_option maxHeartbeats 4000000 in
theorem rounded_any (a b : Int) (s t : ByteArray) (p q : Option Addr) (m n c d : Nat) (w : World) :
    Calls Try.prog 146 #[.agg #[.int .i64 a, .string s, .slice p m c], .agg #[.int .i64 b, .string t, .slice q n d]] w fun e w' => e = .returned (.bool (rnd b a)) ∧ Below w.heap.size w w' := by
  by_cases h4 : a = 4
  · subst h4
    by_cases h3 : b = 3
    · subst h3
      go_enter Try.func146, Try.ntmps146
      go_wp2_with fail
      go_ret
      exact ⟨rfl, al2 _ _ _⟩
    · by_cases hb4 : b = 4
      · subst hb4
        go_enter Try.func146, Try.ntmps146
        go_wp2_with fail
        go_ret
        exact ⟨rfl, al2 _ _ _⟩
      · have r : rnd b 4 = false := by simp [rnd, h3, hb4]
        rw [r]
        go_enter Try.func146, Try.ntmps146
        go_wp2_with fail
        go_ret
        exact ⟨ret_bool (by simp [h3, hb4]), al2 _ _ _⟩
  · by_cases h3 : a = 3
    · subst h3
      by_cases hb : b = 3
      · subst hb
        go_enter Try.func146, Try.ntmps146
        go_wp2_with fail
        go_ret
        exact ⟨rfl, al2 _ _ _⟩
      · have r : rnd b 3 = false := by simp [rnd, hb]
        rw [r]
        go_enter Try.func146, Try.ntmps146
        go_wp2_with fail
        go_ret
        exact ⟨ret_bool (by simp [hb]), al2 _ _ _⟩
    · have r : rnd b a = false := by simp [rnd, h3, h4]
      rw [r]
      go_enter Try.func146, Try.ntmps146
      go_wp2_with fail
      go_ret
      exact ⟨rfl, al2 _ _ _⟩
set_option maxRecDepth 100000 in
set_option maxHeartbeats 4000000 in
theorem ownParts_any (a : Int) (s : ByteArray) (p : Option Addr) (m c : Nat) (w : World) (hm : m ≤ 9223372036854775807) :
    Calls Try.prog 151 #[.agg #[.int .i64 a, .string s, .slice p m c]] w fun e w' => e = .returned (.int .i64 ((own a m : Nat) : Int)) ∧ Below w.heap.size w w' := by
  by_cases h3 : a = 3
  · subst h3
    go_enter Try.func151, Try.ntmps151
    go_wp2_with fail
    go_ret
    exact ⟨rfl, al1 _ _⟩
  · by_cases h4 : a = 4
    · subst h4
      go_enter Try.func151, Try.ntmps151
      go_wp2_with fail
      go_ret
      exact ⟨ret_int (by simp only [own]; simp; omega), al1 _ _⟩
    · have r : own a m = 1 := by simp [own, h3, h4]
      rw [r]
      go_enter Try.func151, Try.ntmps151
      go_wp2_with fail
      go_ret
      exact ⟨rfl, al1 _ _⟩
theorem toList0 {s : ByteArray} (h : s.size = 0) : s.toList = [] := by
  rw [ByteArray.toList_eq]
  exact List.eq_nil_of_length_eq_zero (by simpa using h)
theorem toList1 {s : ByteArray} (h : ¬ s.size = 0) : ¬ s.toList = [] := by
  rw [ByteArray.toList_eq]
  intro e
  exact h (by have := congrArg List.length e; simpa using this)
set_option maxRecDepth 100000 in
set_option maxHeartbeats 4000000 in
theorem formed_any (a : Int) (s : ByteArray) (p : Option Addr) (m c : Nat) (w : World) (hm : m ≤ 9223372036854775807) :
    Calls Try.prog 152 #[.agg #[.int .i64 a, .string s, .slice p m c]] w fun e w' => e = .returned (.bool (formB a s m)) ∧ Below w.heap.size w w' := by
  by_cases h1 : a = 1
  · subst h1
    go_enter Try.func152, Try.ntmps152
    go_wp2_with fail
    go_ret
    exact ⟨ret_bool (by rw [Bool.eq_iff_iff]; simp [formB]; try omega), al1 _ _⟩
  by_cases h2 : a = 2
  · subst h2
    go_enter Try.func152, Try.ntmps152
    go_wp2_with fail
    go_ret
    exact ⟨ret_bool (by rw [Bool.eq_iff_iff]; simp [formB]; try omega), al1 _ _⟩
  by_cases h3 : a = 3
  · subst h3
    by_cases hs : s.size = 0
    · have e := toList0 hs
      go_enter Try.func152, Try.ntmps152
      go_wp2_with fail
      go_ret
      exact ⟨ret_bool (by rw [Bool.eq_iff_iff]; simp only [formB]; simp [hs]; try omega), al1 _ _⟩
    · have e := toList1 hs
      go_enter Try.func152, Try.ntmps152
      go_wp2_with fail
      go_ret
      exact ⟨ret_bool (by rw [Bool.eq_iff_iff]; simp only [formB]; simp [hs]; try omega), al1 _ _⟩
  by_cases h4 : a = 4
  · subst h4
    by_cases hs : s.size = 0
    · have e := toList0 hs
      go_enter Try.func152, Try.ntmps152
      go_wp2_with fail
      go_ret
      exact ⟨ret_bool (by rw [Bool.eq_iff_iff]; simp only [formB]; simp [hs]; try omega), al1 _ _⟩
    · have e := toList1 hs
      go_enter Try.func152, Try.ntmps152
      go_wp2_with fail
      go_ret
      exact ⟨ret_bool (by rw [Bool.eq_iff_iff]; simp only [formB]; simp [hs]; try omega), al1 _ _⟩
  by_cases h5 : a = 5
  · subst h5
    by_cases hs : s.size = 0
    · have e := toList0 hs
      go_enter Try.func152, Try.ntmps152
      go_wp2_with fail
      go_ret
      exact ⟨ret_bool (by rw [Bool.eq_iff_iff]; simp only [formB]; simp [hs]; try omega), al1 _ _⟩
    · have e := toList1 hs
      go_enter Try.func152, Try.ntmps152
      go_wp2_with fail
      go_ret
      exact ⟨ret_bool (by rw [Bool.eq_iff_iff]; simp only [formB]; simp [hs]; try omega), al1 _ _⟩
  by_cases h6 : a = 6
  · subst h6
    by_cases hs : s.size = 0
    · have e := toList0 hs
      go_enter Try.func152, Try.ntmps152
      go_wp2_with fail
      go_ret
      exact ⟨ret_bool (by rw [Bool.eq_iff_iff]; simp only [formB]; simp [hs]; try omega), al1 _ _⟩
    · have e := toList1 hs
      go_enter Try.func152, Try.ntmps152
      go_wp2_with fail
      go_ret
      exact ⟨ret_bool (by rw [Bool.eq_iff_iff]; simp only [formB]; simp [hs]; try omega), al1 _ _⟩
  by_cases h7 : a = 7
  · subst h7
    by_cases hs : s.size = 0
    · have e := toList0 hs
      go_enter Try.func152, Try.ntmps152
      go_wp2_with fail
      go_ret
      exact ⟨ret_bool (by rw [Bool.eq_iff_iff]; simp only [formB]; simp [hs]; try omega), al1 _ _⟩
    · have e := toList1 hs
      go_enter Try.func152, Try.ntmps152
      go_wp2_with fail
      go_ret
      exact ⟨ret_bool (by rw [Bool.eq_iff_iff]; simp only [formB]; simp [hs]; try omega), al1 _ _⟩
  have r : formB a s m = false := by simp [formB, h1, h2, h3, h4, h5, h6, h7]
  rw [r]
  go_enter Try.func152, Try.ntmps152
  go_wp2_with fail
  go_ret
  exact ⟨rfl, al1 _ _⟩
set_option maxRecDepth 100000 in
set_option maxHeartbeats 4000000 in
theorem named_any (a : Int) (s : ByteArray) (p : Option Addr) (m c : Nat) (w : World) (hs : s.size ≤ 5000) :
    Calls Try.prog 153 #[.agg #[.int .i64 a, .string s, .slice p m c]] w fun e w' => e = .returned (.bool (namB a s)) ∧ Below w.heap.size w w' := by
  have hx : s.size ≤ maxLen := by unfold maxLen; omega
  by_cases h1 : a = 1
  · subst h1
    have T := fun w => term_any s w hx
    have r : namB 1 s = isTermB s := rfl
    rw [r]
    generalize isTermB s = B at *
    go_enter Try.func153, Try.ntmps153
    go_wp2_with fail
    refine (T _).mono ?_
    rintro e w' ⟨rfl, rfl⟩
    go_wp2_with fail
    go_ret
    exact ⟨rfl, al1 _ _⟩
  by_cases h2 : a = 2
  · subst h2
    have T := fun w => name_any s w hx
    have r : namB 2 s = isNameB s := rfl
    rw [r]
    generalize isNameB s = B at *
    go_enter Try.func153, Try.ntmps153
    go_wp2_with fail
    refine (T _).mono ?_
    rintro e w' ⟨rfl, rfl⟩
    go_wp2_with fail
    go_ret
    exact ⟨rfl, al1 _ _⟩
  have r : namB a s = true := by simp [namB, h1, h2]
  rw [r]
  go_enter Try.func153, Try.ntmps153
  go_wp2_with fail
  go_ret
  exact ⟨rfl, al1 _ _⟩
set_option maxRecDepth 100000 in
set_option maxHeartbeats 4000000 in
theorem marks_any (a : Int) (w : World) :
    Calls Try.prog 145 #[.int .i64 a] w fun e w' => e = .returned (.tuple #[.string ⟨(bef a).toArray⟩, .string ⟨(btw a).toArray⟩, .string ⟨(beh a).toArray⟩]) ∧ w' = w := by
  by_cases h1 : a = 1
  · subst h1
    go_enter Try.func145, Try.ntmps145
    go_wp2_with fail
    exact bodyPost_ret (v := .tuple #[.string ⟨(bef 1).toArray⟩, .string ⟨(btw 1).toArray⟩, .string ⟨(beh 1).toArray⟩]) (by simp [results, Try.results145, go_sem, bef, btw, beh]) rfl ⟨rfl, rfl⟩
  by_cases h3 : a = 3
  · subst h3
    go_enter Try.func145, Try.ntmps145
    go_wp2_with fail
    exact bodyPost_ret (v := .tuple #[.string ⟨(bef 3).toArray⟩, .string ⟨(btw 3).toArray⟩, .string ⟨(beh 3).toArray⟩]) (by simp [results, Try.results145, go_sem, bef, btw, beh]) rfl ⟨rfl, rfl⟩
  by_cases h4 : a = 4
  · subst h4
    go_enter Try.func145, Try.ntmps145
    go_wp2_with fail
    exact bodyPost_ret (v := .tuple #[.string ⟨(bef 4).toArray⟩, .string ⟨(btw 4).toArray⟩, .string ⟨(beh 4).toArray⟩]) (by simp [results, Try.results145, go_sem, bef, btw, beh]) rfl ⟨rfl, rfl⟩
  by_cases h5 : a = 5
  · subst h5
    go_enter Try.func145, Try.ntmps145
    go_wp2_with fail
    exact bodyPost_ret (v := .tuple #[.string ⟨(bef 5).toArray⟩, .string ⟨(btw 5).toArray⟩, .string ⟨(beh 5).toArray⟩]) (by simp [results, Try.results145, go_sem, bef, btw, beh]) rfl ⟨rfl, rfl⟩
  by_cases h6 : a = 6
  · subst h6
    go_enter Try.func145, Try.ntmps145
    go_wp2_with fail
    exact bodyPost_ret (v := .tuple #[.string ⟨(bef 6).toArray⟩, .string ⟨(btw 6).toArray⟩, .string ⟨(beh 6).toArray⟩]) (by simp [results, Try.results145, go_sem, bef, btw, beh]) rfl ⟨rfl, rfl⟩
  by_cases h7 : a = 7
  · subst h7
    go_enter Try.func145, Try.ntmps145
    go_wp2_with fail
    exact bodyPost_ret (v := .tuple #[.string ⟨(bef 7).toArray⟩, .string ⟨(btw 7).toArray⟩, .string ⟨(beh 7).toArray⟩]) (by simp [results, Try.results145, go_sem, bef, btw, beh]) rfl ⟨rfl, rfl⟩
  have r1 : bef a = [] := by simp [bef, h1, h5, h6, h7]
  have r2 : btw a = [] := by simp [btw, h3, h4]
  have r3 : beh a = [] := by simp [beh, h1, h5, h6, h7]
  rw [r1, r2, r3]
  go_enter Try.func145, Try.ntmps145
  go_wp2_with fail
  exact bodyPost_ret (v := .tuple #[.string ⟨#[]⟩, .string ⟨#[]⟩, .string ⟨#[]⟩]) (by simp [results, Try.results145, go_sem]) rfl ⟨rfl, rfl⟩
end Go.Proofs.Ytghplmldnkcpnac

/- Worlds that have more in them; expressions in them. -/
namespace Go.Proofs.Ytghplmldnkcpnac
open Go.RowKit
/-- A world in which all is as it was, and some is new. -/
structure Wd (w : World) where
  u : World
  h : Below w.heap.size w u
theorem Wd.ne (w : World) : Nonempty (Wd w) := ⟨⟨w, Below.refl _ _⟩⟩
theorem Wd.cell {w : World} (x : Wd w) {b o : Nat} {v : Value} (h : w.cell? ⟨b, o, none⟩ = some v) : x.u.cell? ⟨b, o, none⟩ = some v := by
  rw [x.h.cell (p := ⟨b, o, none⟩) (lt_of_cell h)]; exact h
abbrev All : Nat → Prop := fun _ => True
theorem XV.below {w w' : World} {S : Nat → Prop} {v : Value} {x : Xp} (h : XV w S v x) (hb : Below w.heap.size w w') : XV w' S v x := h.kp (Kp.of_below hb) (fun _ _ h => h)
theorem FoV.below {w w' : World} {S : Nat → Prop} {v : Value} {x : Fo} (h : FoV w S v x) (hb : Below w.heap.size w w') : FoV w' S v x := h.kp (Kp.of_below hb) (fun _ _ h => h)
theorem XIn.xv {w : World} {S : Nat → Prop} {x : Xp} {b o : Nat} (h : XIn w S x b o) : ∃ u, w.cell? ⟨b, o, none⟩ = some (.int .i64 x.op) ∧ w.cell? ⟨b, o + 1, none⟩ = some (.string x.nm) ∧ w.cell? ⟨b, o + 2, none⟩ = some u ∧ XV w S (.agg #[.int .i64 x.op, .string x.nm, u]) x :=
  let ⟨h1, h2, u, h3, h4⟩ := h
  ⟨u, h1, h2, h3, u, rfl, h4⟩
end Go.Proofs.Ytghplmldnkcpnac

/- What package render goes through expressions for: parts, open brackets, faults. -/
namespace Go.Proofs.Ytghplmldnkcpnac
open Go.RowKit
theorem own_le (op : Int) (n : Nat) (h : n ≤ 9223372036854775807) : ((own op n : Nat) : Int) ≤ 9223372036854775806 := by
  unfold own; (repeat' split) <;> omega
theorem alcell {wr : World} {b o : Nat} {v : Value} (h : wr.cell? ⟨b, o, none⟩ = some v) (ob : Obj) : (wr.alloc ob).cell? ⟨b, o, none⟩ = some v := by
  rw [(al1 wr ob).cell (p := ⟨b, o, none⟩) (lt_of_cell h)]; exact h
theorem bkeep {w w' : World} (h : Below w.heap.size w w') {b o : Nat} {v : Value} (hc : w.cell? ⟨b, o, none⟩ = some v) : w'.cell? ⟨b, o, none⟩ = some v := by
  rw [h.cell (p := ⟨b, o, none⟩) (lt_of_cell hc)]; exact hc
def PlOK (x : Xp) : Prop := ∀ (z : Int) (va : Value) (w : World), XV w All va x → -1 ≤ z → z ≤ 60 →
  Calls Try.prog 141 #[va, .int .i64 z] w fun e w' => ∃ q : Int, e = .returned (.int .i64 q) ∧ (0 ≤ q → q = z - x.pts) ∧ (q < 0 → z < x.pts) ∧ q ≤ 60 ∧ Below w.heap.size w w'
set_option maxRecDepth 100000 in
set_option maxHeartbeats 4000000 in
theorem pl_head (x : Xp) (ih : ∀ i, i < x.kids.len → PlOK (x.kids.at_ i)) : PlOK x := by
  intro z va w hx hz0 hz1
  obtain ⟨u, rfl, hl, ao, cap, rfl, hin⟩ := hx
  obtain ⟨W, hW⟩ : ∃ W, W = w.alloc (.cells #[.int .i64 x.op, .string x.nm, .slice ao x.kids.len cap] 64) := ⟨_, rfl⟩
  have hWz : W.heap.size = w.heap.size + 1 := by rw [hW]; simp
  have hWb : Below w.heap.size w W := by rw [hW]; exact (Below.refl _ _).alloc (Nat.le_refl _) _
  have hW0 : W.cell? ⟨w.heap.size, 0, none⟩ = some (.int .i64 x.op) := by rw [hW]; simp
  have hW1 : W.cell? ⟨w.heap.size, 1, none⟩ = some (.string x.nm) := by rw [hW]; simp
  have hW2 : W.cell? ⟨w.heap.size, 2, none⟩ = some (.slice ao x.kids.len cap) := by rw [hW]; simp
  have ho := own_le x.op x.kids.len hl
  have OP := fun w => ownParts_any x.op x.nm ao x.kids.len cap w hl
  have hpt : Hid (x.pts = own x.op x.kids.len + x.kids.pts x.op) := hd rfl
  generalize x.pts = XP at *
  generalize own x.op x.kids.len = o at *
  go_enter Try.func141, Try.ntmps141
  go_wp2_with fail
  refine (OP _).mono ?_
  rintro e w1 ⟨rfl, hb1⟩
  rw [← hW] at hb1
  have HW := hd hW
  clear hW
  have z1 := hb1.size
  have e0 : w1.cell? ⟨w.heap.size, 0, none⟩ = some (.int .i64 x.op) := by rw [hb1.cell (p := ⟨w.heap.size, 0, none⟩) (by simp; omega)]; exact hW0
  have e1 : w1.cell? ⟨w.heap.size, 1, none⟩ = some (.string x.nm) := by rw [hb1.cell (p := ⟨w.heap.size, 1, none⟩) (by simp; omega)]; exact hW1
  have e2 : w1.cell? ⟨w.heap.size, 2, none⟩ = some (.slice ao x.kids.len cap) := by rw [hb1.cell (p := ⟨w.heap.size, 2, none⟩) (by simp; omega)]; exact hW2
  have bel1 : Below w.heap.size w w1 := hWb.trans (hb1.mono (by omega))
  clear hW0 hW1 hW2 hWb hb1
  go_wp2_with fail
  go_loopw [1, 14] (fun a i wr => ∃ (k : Nat) (q : Int), k ≤ x.kids.len ∧ i = .int .i64 k ∧ a = .int .i64 q ∧ q ≤ 60 ∧ (0 ≤ q → q - (x.kids.drp k).pts x.op = z - XP) ∧ (q < 0 → z < XP) ∧ Below w1.heap.size w1 wr) (fun _ i _ => x.kids.len - (intOf i).toNat)
  case atStart =>
    refine ⟨0, z - o, Nat.zero_le _, rfl, rfl, by omega, ?_, ?_, Below.refl _ _⟩
    · rw [Fo.drp_zero]; have := hpt.out; omega
    · have := hpt.out; omega
  case round =>
    obtain ⟨k, q, hk, rfl, rfl, hq1, hqa, hqb, hb⟩ := hrel
    have hz := hb.size
    have bel : Below w.heap.size w wr := bel1.trans (hb.mono bel1.size)
    have s0 : wr.cell? ⟨w.heap.size, 0, none⟩ = some (.int .i64 x.op) := by rw [hb.cell (p := ⟨w.heap.size, 0, none⟩) (lt_of_cell e0)]; exact e0
    have s1 : wr.cell? ⟨w.heap.size, 1, none⟩ = some (.string x.nm) := by rw [hb.cell (p := ⟨w.heap.size, 1, none⟩) (lt_of_cell e1)]; exact e1
    have s2 : wr.cell? ⟨w.heap.size, 2, none⟩ = some (.slice ao x.kids.len cap) := by rw [hb.cell (p := ⟨w.heap.size, 2, none⟩) (lt_of_cell e2)]; exact e2
    by_cases hlt : k < x.kids.len
    · obtain h0 | ⟨ba, oa, rfl, hia⟩ := hin
      · omega
      have kA : ∀ b o v, All b → w.cell? ⟨b, o, none⟩ = some v → All b ∧ wr.cell? ⟨b, o, none⟩ = some v := keep_cell (fun _ _ h => h) (Kp.of_below bel).block
      obtain ⟨ua, a0, a1, a2, hxa⟩ := ((hia.mono kA).at_ k hlt).xv
      have hxa' := hxa
      obtain ⟨_, e, _, aoa', capa', rfl, _⟩ := hxa'
      simp at e; subst e
      have IH := ih k hlt
      have hpa := Fo.pts_at x.op hlt
      have hrn : rn1 x.op (x.kids.at_ k).op = if rnd x.op (x.kids.at_ k).op = true then 1 else 0 := rfl
      have RD := fun w => rounded_any (x.kids.at_ k).op x.op (x.kids.at_ k).nm x.nm aoa' (some ⟨ba, oa, none⟩) (x.kids.at_ k).kids.len x.kids.len capa' cap w
      have HLT := hd hlt
      generalize x.kids.at_ k = xk at *
      obtain ⟨ob, hob⟩ : ∃ ob : Obj, ob = .cells #[.int .i64 xk.op, .string xk.nm, .slice aoa' xk.kids.len capa'] 64 := ⟨_, rfl⟩
      have t0 := alcell s0 ob
      have t1 := alcell s1 ob
      have t2 := alcell s2 ob
      have y0 : (wr.alloc ob).cell? ⟨wr.heap.size, 0, none⟩ = some (.int .i64 xk.op) := by rw [hob]; simp
      have y1 : (wr.alloc ob).cell? ⟨wr.heap.size, 1, none⟩ = some (.string xk.nm) := by rw [hob]; simp
      have y2 : (wr.alloc ob).cell? ⟨wr.heap.size, 2, none⟩ = some (.slice aoa' xk.kids.len capa') := by rw [hob]; simp
      have bz : Below w1.heap.size w1 (wr.alloc ob) := hb.trans ((al1 wr ob).mono hb.size)
      have hxz := hxa.below (al1 wr ob)
      by_cases hq : q < 0
      · subst hob
        go_wp2_with fail
        go_ret
        exact ⟨q, rfl, fun h => by omega, hqb, hq1, bel1.trans (bz.mono bel1.size)⟩
      · subst hob
        go_wp2_with fail
        refine (RD _).mono ?_
        rintro e w2 ⟨rfl, hb2⟩
        have r0 := bkeep hb2 y0
        have r1 := bkeep hb2 y1
        have r2 := bkeep hb2 y2
        have hx2 := hxz.below hb2
        have bel2 : Below w1.heap.size w1 w2 := bz.trans (hb2.mono bz.size)
        clear bz hxz y0 y1 y2 t0 t1 t2 hb2 RD
        cases hB : rnd x.op xk.op with
        | true =>
          rw [hB] at hrn
          simp only [if_true] at hrn
          go_wp2_with fail
          refine (IH _ _ _ hx2 (by omega) (by omega)).mono ?_
          rintro e w3 ⟨q', rfl, i1, i2, i3, hb3⟩
          go_wp2_with fail
          go_roundw
          case rel => exact ⟨k + 1, q', by omega, by go_num, rfl, i3, by omega, by omega, bel2.trans (hb3.mono bel2.size)⟩
          case measure => simp [intOf]; omega
        | false =>
          rw [hB] at hrn
          simp only [Bool.false_eq_true, if_false] at hrn
          go_wp2_with fail
          refine (IH _ _ _ hx2 (by omega) (by omega)).mono ?_
          rintro e w3 ⟨q', rfl, i1, i2, i3, hb3⟩
          go_wp2_with fail
          go_roundw
          case rel => exact ⟨k + 1, q', by omega, by go_num, rfl, i3, by omega, by omega, bel2.trans (hb3.mono bel2.size)⟩
          case measure => simp [intOf]; omega
    · rw [Fo.drp_end (by omega)] at hqa
      simp only [Fo.pts] at hqa
      go_wp2_with fail
      go_ret
      exact ⟨q, rfl, by omega, hqb, hq1, bel⟩
theorem pl_all : ∀ (f : Fo) (i : Nat), i < f.len → PlOK (f.at_ i)
  | .nil, _, h => absurd h (Nat.not_lt_zero _)
  | .cons op nm kids _, 0, _ => pl_head ⟨op, nm, kids⟩ (pl_all kids)
  | .cons _ _ _ rest, i + 1, h => pl_all rest i (by simpa [Fo.len] using h)
theorem pl_any (x : Xp) : PlOK x := pl_head x (pl_all x.kids)
end Go.Proofs.Ytghplmldnkcpnac

/- The document's own scan comes to what 'scan' reckons. -/
namespace Go.Proofs.Ytghplmldnkcpnac
open Go.RowKit

end Go.Proofs.Ytghplmldnkcpnac

/- Two lists of tokens that hold the same. -/
namespace Go.Proofs.Ytghplmldnkcpnac
open Go.RowKit

/-- A row of tokens, as a walk reads it. -/
structure Toks (w : World) (g : Nat) (l : List Tk) : Prop where
  c0 : ∀ k (h : k < l.length), w.cell? ⟨g, k * 3, none⟩ = some (.int .i64 l[k].k)
  c1 : ∀ k (h : k < l.length), w.cell? ⟨g, k * 3 + 1, none⟩ = some (.int .i64 l[k].at_)
  c2 : ∀ k (h : k < l.length), w.cell? ⟨g, k * 3 + 2, none⟩ = some (.string l[k].t)
end Go.Proofs.Ytghplmldnkcpnac

/- The reader that gives up by a panic: its state, and its small functions. -/
namespace Go.Proofs.Ytghplmldnkcpnac
open Go.RowKit

/-- The reader's cells: the tokens, the next one, the end, the parts, the open ones, no fault. -/
structure RdS (w : World) (r : Nat) (ao : Option Addr) (cap : Nat) (l : List Tk) (en : Int) (n p o : Nat) : Prop where
  c0 : w.cell? ⟨r, 0, none⟩ = some (.slice ao l.length cap)
  c1 : w.cell? ⟨r, 1, none⟩ = some (.int .i64 n)
  c2 : w.cell? ⟨r, 2, none⟩ = some (.int .i64 en)
  c3 : w.cell? ⟨r, 3, none⟩ = some (.int .i64 p)
  c4 : w.cell? ⟨r, 4, none⟩ = some (.int .i64 o)
  c5 : w.cell? ⟨r, 5, none⟩ = some (.int .i64 0)
  c6 : w.cell? ⟨r, 6, none⟩ = some (.int .i64 0)
  fz : ∀ i, w.frozen? ⟨r, i, none⟩ = false
  sz : r < w.heap.size
  ln : l.length ≤ 6000
  nl : n ≤ l.length
  pl : p ≤ 60
  ol : o ≤ 40
  tk : l.length = 0 ∨ ∃ g, ao = some ⟨g, 0, none⟩ ∧ g ≠ r ∧ g < w.heap.size ∧ Toks w g l
theorem Toks.but {r : Nat} {w w' : World} {g : Nat} {l : List Tk} (h : Toks w g l) (hb : But r w w') (hg : g < w.heap.size) (hr : g ≠ r) : Toks w' g l :=
  ⟨fun k hk => by rw [hb.cell hg hr]; exact h.c0 k hk, fun k hk => by rw [hb.cell hg hr]; exact h.c1 k hk, fun k hk => by rw [hb.cell hg hr]; exact h.c2 k hk⟩
theorem RdS.tk_but {r : Nat} {w w' : World} {ao : Option Addr} {l : List Tk} (h : l.length = 0 ∨ ∃ g, ao = some ⟨g, 0, none⟩ ∧ g ≠ r ∧ g < w.heap.size ∧ Toks w g l) (hb : But r w w') :
    l.length = 0 ∨ ∃ g, ao = some ⟨g, 0, none⟩ ∧ g ≠ r ∧ g < w'.heap.size ∧ Toks w' g l :=
  h.imp id fun ⟨g, e, hr, hg, t⟩ => ⟨g, e, hr, Nat.lt_of_lt_of_le hg hb.size, t.but hb hg hr⟩
/-- The reader's state in a world in which its own block is as it was. -/
theorem RdS.keep {r : Nat} {w w' : World} {ao : Option Addr} {cap : Nat} {l : List Tk} {en : Int} {n p o : Nat} (h : RdS w r ao cap l en n p o) (hb : Below w.heap.size w w') : RdS w' r ao cap l en n p o := by
  have hc : ∀ i, w'.cell? ⟨r, i, none⟩ = w.cell? ⟨r, i, none⟩ := fun i => hb.cell (p := ⟨r, i, none⟩) h.sz
  exact ⟨by rw [hc]; exact h.c0, by rw [hc]; exact h.c1, by rw [hc]; exact h.c2, by rw [hc]; exact h.c3, by rw [hc]; exact h.c4, by rw [hc]; exact h.c5, by rw [hc]; exact h.c6, fun i => by rw [hb.frozen (p := ⟨r, i, none⟩) h.sz]; exact h.fz i, Nat.lt_of_lt_of_le h.sz hb.size, h.ln, h.nl, h.pl, h.ol, RdS.tk_but h.tk (But.of_below hb)⟩
/-- It has given up. -/
def Pan (r : Nat) (c a : Int) (w : World) (e : Ending) (w' : World) : Prop :=
  e = .panicked [{ v := .iface 29 (.agg #[.int .i64 c, .int .i64 a]), recovered := false }] ∧ w'.cell? ⟨r, 5, none⟩ = some (.int .i64 c) ∧ w'.cell? ⟨r, 6, none⟩ = some (.int .i64 a) ∧ But r w w'
theorem beq_str (s t : ByteArray) : (s.toList == t.toList) = decide (s = t) := by
  rw [ByteArray.toList_eq, ByteArray.toList_eq]
  by_cases h : s = t
  · subst h; simp
  · have : s.data ≠ t.data := fun e => h (by cases s; cases t; simp at e; rw [e])
    simp [h, this]
section
variable {r : Nat} {ao : Option Addr} {cap : Nat} {l : List Tk} {en : Int} {n p o : Nat} {w : World}
end
end Go.Proofs.Ytghplmldnkcpnac

/- Brackets and items: the reader's own functions. -/
namespace Go.Proofs.Ytghplmldnkcpnac
open Go.RowKit

section
variable (r : Nat) (ao : Option Addr) (cap : Nat) (l : List Tk) (en : Int)
end
theorem Pan.but {r : Nat} {c a : Int} {w w1 : World} {e : Ending} {w' : World} (h : Pan r c a w1 e w') (hb : But r w w1) : Pan r c a w e w' :=
  ⟨h.1, h.2.1, h.2.2.1, hb.trans h.2.2.2⟩
section
variable {r : Nat} {ao : Option Addr} {cap : Nat} {l : List Tk} {en : Int} {n p o : Nat} {w : World}
end
end Go.Proofs.Ytghplmldnkcpnac

/- Items: the reader's own function. -/
namespace Go.Proofs.Ytghplmldnkcpnac
open Go.RowKit
section
variable {r : Nat} {ao : Option Addr} {cap : Nat} {l : List Tk} {en : Int} {n p o : Nat} {w : World}
end
end Go.Proofs.Ytghplmldnkcpnac

/- Rows and alternatives: the reader's own functions. -/
namespace Go.Proofs.Ytghplmldnkcpnac
open Go.RowKit
theorem owns_slice {w : World} {base : Nat} {e : TypeId} {size : Nat} {v : Value} {n : Nat} {xs : List Value} (h : w.ownsRow base e size v n xs) : ∃ ao cap, v = .slice ao n cap := by
  obtain ⟨h1, h2 | ⟨g, cap, cur, e1, e2, e3, e4⟩⟩ := h
  · exact ⟨none, 0, by rw [h2.1, h2.2]⟩
  · exact ⟨_, _, e1⟩
section
variable {r : Nat} {ao : Option Addr} {cap : Nat} {l : List Tk} {en : Int}
theorem RdS.kp {w w' : World} {n p o : Nat} {S : Nat → Prop} (h : RdS w r ao cap l en n p o) (hk : Kp S w w') (hr : S r) (hg : ∀ g, ao = some ⟨g, 0, none⟩ → l.length = 0 ∨ S g) : RdS w' r ao cap l en n p o := by
  have hc : ∀ b i, b < w.heap.size → S b → w'.cell? ⟨b, i, none⟩ = w.cell? ⟨b, i, none⟩ := fun b i hb hs => World.cell?_of_block (w := w) (a := ⟨b, i, none⟩) (hk.block b hb hs)
  have hf : ∀ b i, b < w.heap.size → S b → w'.frozen? ⟨b, i, none⟩ = w.frozen? ⟨b, i, none⟩ := fun b i hb hs => World.frozen?_of_block (w := w) (a := ⟨b, i, none⟩) (hk.block b hb hs)
  have sz := h.sz
  refine ⟨by rw [hc _ _ sz hr]; exact h.c0, by rw [hc _ _ sz hr]; exact h.c1, by rw [hc _ _ sz hr]; exact h.c2, by rw [hc _ _ sz hr]; exact h.c3, by rw [hc _ _ sz hr]; exact h.c4, by rw [hc _ _ sz hr]; exact h.c5, by rw [hc _ _ sz hr]; exact h.c6, fun i => by rw [hf _ _ sz hr]; exact h.fz i, Nat.lt_of_lt_of_le sz hk.size, h.ln, h.nl, h.pl, h.ol, ?_⟩
  rcases h.tk with h0 | ⟨g, e, h1, h2, t⟩
  · exact .inl h0
  · rcases hg g e with h3 | h3
    · exact .inl h3
    · exact .inr ⟨g, e, h1, Nat.lt_of_lt_of_le h2 hk.size, fun k hk' => by rw [hc _ _ h2 h3]; exact t.c0 k hk', fun k hk' => by rw [hc _ _ h2 h3]; exact t.c1 k hk', fun k hk' => by rw [hc _ _ h2 h3]; exact t.c2 k hk'⟩
end
end Go.Proofs.Ytghplmldnkcpnac

/- Definitions: as they lie in memory, and the reader's own function. -/
namespace Go.Proofs.Ytghplmldnkcpnac
open Go.RowKit
/-- A definition's value. -/
def DV (w : World) (S : Nat → Prop) (v : Value) (d : Df) : Prop := ∃ u, v = .agg #[.string d.nm, .int .i64 d.at_, .int .i64 d.e.op, .string d.e.nm, u] ∧ FoV w S u d.e.kids
/-- Definitions lie in a block from a place on. -/
def DsIn (w : World) (S : Nat → Prop) : List Df → Nat → Nat → Prop
  | [], _, _ => True
  | d :: l, b, o => S b ∧ w.cell? ⟨b, o, none⟩ = some (.string d.nm) ∧ w.cell? ⟨b, o + 1, none⟩ = some (.int .i64 d.at_) ∧ XIn w S d.e b (o + 2) ∧ DsIn w S l b (o + 5)
def DsV (w : World) (S : Nat → Prop) (v : Value) (ds : List Df) : Prop :=
  ds.length ≤ 9223372036854775807 ∧ ∃ ao cap, v = .slice ao ds.length cap ∧ (ds.length = 0 ∨ ∃ b o, ao = some ⟨b, o, none⟩ ∧ DsIn w S ds b o)
/-- The cells of definitions. -/
def DC (w : World) (S : Nat → Prop) : List Value → List Df → Prop
  | [], [] => True
  | a :: b :: c :: d :: e :: xs, x :: l => a = .string x.nm ∧ b = .int .i64 x.at_ ∧ c = .int .i64 x.e.op ∧ d = .string x.e.nm ∧ FoV w S e x.e.kids ∧ DC w S xs l
  | _, _ => False
theorem DC.mono {w w' : World} {S T : Nat → Prop} (hc : ∀ b o v, S b → w.cell? ⟨b, o, none⟩ = some v → T b ∧ w'.cell? ⟨b, o, none⟩ = some v) :
    ∀ {xs : List Value} {f : List Df}, DC w S xs f → DC w' T xs f
  | [], [], _ => trivial
  | a :: b :: c :: d :: e :: xs, x :: l, ⟨h1, h2, h3, h4, h5, h6⟩ => ⟨h1, h2, h3, h4, FoV.mono hc h5, DC.mono hc h6⟩
  | [], _ :: _, h => by simp [DC] at h
  | [_], _, h => by simp [DC] at h
  | [_, _], _, h => by simp [DC] at h
  | [_, _, _], _, h => by simp [DC] at h
  | [_, _, _, _], _, h => by simp [DC] at h
  | _ :: _ :: _ :: _ :: _ :: _, [], h => by simp [DC] at h
theorem DC.kp {w w' : World} {S T : Nat → Prop} {v : List Value} {x : List Df} (h : DC w S v x) (hk : Kp S w w') (hT : ∀ k, k < w.heap.size → S k → T k) : DC w' T v x := h.mono (keep_cell hT hk.block)
theorem DC.snoc {w : World} {S : Nat → Prop} {x : Df} {u : Value} (hu : FoV w S u x.e.kids) :
    ∀ {xs : List Value} {f : List Df}, DC w S xs f → DC w S (xs ++ [.string x.nm, .int .i64 x.at_, .int .i64 x.e.op, .string x.e.nm, u]) (f ++ [x])
  | [], [], _ => ⟨rfl, rfl, rfl, rfl, hu, trivial⟩
  | a :: b :: c :: d :: e :: xs, x :: l, ⟨h1, h2, h3, h4, h5, h6⟩ => ⟨h1, h2, h3, h4, h5, DC.snoc hu h6⟩
  | [], _ :: _, h => by simp [DC] at h
  | [_], _, h => by simp [DC] at h
  | [_, _], _, h => by simp [DC] at h
  | [_, _, _], _, h => by simp [DC] at h
  | [_, _, _, _], _, h => by simp [DC] at h
  | _ :: _ :: _ :: _ :: _ :: _, [], h => by simp [DC] at h
theorem DC.in_ {w : World} {S T : Nat → Prop} {b : Nat} (hb : T b) (hST : ∀ k, S k → T k) :
    ∀ {xs : List Value} {f : List Df} {o : Nat}, DC w S xs f → (∀ j v, xs[j]? = some v → w.cell? ⟨b, o + j, none⟩ = some v) → DsIn w T f b o
  | [], [], _, _, _ => trivial
  | a :: x :: c :: d :: e :: xs, y :: l, o, ⟨h1, h2, h3, h4, h5, h6⟩, hx => by
    refine ⟨hb, by have := hx 0 a rfl; rw [h1] at this; simpa using this, by have := hx 1 x rfl; rw [h2] at this; simpa using this, ⟨by have := hx 2 c rfl; rw [h3] at this; simpa using this, by have := hx 3 d rfl; rw [h4] at this; simpa using this, e, hx 4 _ rfl, h5.mono fun _ _ _ hs h => ⟨hST _ hs, h⟩⟩, ?_⟩
    refine DC.in_ hb hST h6 fun j v hj => ?_
    have := hx (j + 5) v (by simpa using hj)
    rwa [show o + (j + 5) = o + 5 + j by omega] at this
  | [], _ :: _, _, h, _ => by simp [DC] at h
  | [_], _, _, h, _ => by simp [DC] at h
  | [_, _], _, _, h, _ => by simp [DC] at h
  | [_, _, _], _, _, h, _ => by simp [DC] at h
  | [_, _, _, _], _, _, h, _ => by simp [DC] at h
  | _ :: _ :: _ :: _ :: _ :: _, [], _, h, _ => by simp [DC] at h
theorem XIn.mono {w w' : World} {S T : Nat → Prop} (hc : ∀ b o v, S b → w.cell? ⟨b, o, none⟩ = some v → T b ∧ w'.cell? ⟨b, o, none⟩ = some v) {x : Xp} {b o : Nat} (hb : S b) (h : XIn w S x b o) : XIn w' T x b o :=
  let ⟨h1, h2, u, h3, h4⟩ := h
  ⟨(hc _ _ _ hb h1).2, (hc _ _ _ hb h2).2, u, (hc _ _ _ hb h3).2, h4.mono hc⟩
theorem DsIn.mono {w w' : World} {S T : Nat → Prop} (hc : ∀ b o v, S b → w.cell? ⟨b, o, none⟩ = some v → T b ∧ w'.cell? ⟨b, o, none⟩ = some v) :
    ∀ {f : List Df} {b o : Nat}, DsIn w S f b o → DsIn w' T f b o
  | [], _, _, _ => trivial
  | _ :: _, _, _, ⟨h0, h1, h2, h3, h4⟩ => ⟨(hc _ _ _ h0 h1).1, (hc _ _ _ h0 h1).2, (hc _ _ _ h0 h2).2, h3.mono hc h0, DsIn.mono hc h4⟩
theorem DsV.mono {w w' : World} {S T : Nat → Prop} (hc : ∀ b o v, S b → w.cell? ⟨b, o, none⟩ = some v → T b ∧ w'.cell? ⟨b, o, none⟩ = some v) {v : Value} {f : List Df} (h : DsV w S v f) : DsV w' T v f :=
  let ⟨h1, ao, cap, h2, h3⟩ := h
  ⟨h1, ao, cap, h2, h3.imp id fun ⟨b, o, e, h⟩ => ⟨b, o, e, DsIn.mono hc h⟩⟩
theorem DsV.kp {w w' : World} {S T : Nat → Prop} {v : Value} {x : List Df} (h : DsV w S v x) (hk : Kp S w w') (hT : ∀ k, k < w.heap.size → S k → T k) : DsV w' T v x := h.mono (keep_cell hT hk.block)
section
variable {r : Nat} {ao : Option Addr} {cap : Nat} {l : List Tk} {en : Int}
variable {n p : Nat} {w : World}
end
end Go.Proofs.Ytghplmldnkcpnac

/- Lists of strings in memory: where a name stands in one, are two the same. -/
namespace Go.Proofs.Ytghplmldnkcpnac
open Go.RowKit

/-- A slice of strings. -/
def SsV (w : World) (v : Value) (l : List ByteArray) : Prop :=
  l.length ≤ 9223372036854775807 ∧ ∃ ao cap, v = .slice ao l.length cap ∧ l.length ≤ cap ∧ (l.length = 0 ∨ ∃ b o, ao = some ⟨b, o, none⟩ ∧ ∀ i (h : i < l.length), w.cell? ⟨b, o + i, none⟩ = some (.string l[i]))
theorem SsV.below {w w' : World} {v : Value} {l : List ByteArray} (h : SsV w v l) (hb : Below w.heap.size w w') : SsV w' v l :=
  let ⟨h1, ao, cap, h2, h3, h4⟩ := h
  ⟨h1, ao, cap, h2, h3, h4.imp id fun ⟨b, o, e, hc⟩ => ⟨b, o, e, fun i hi => bkeep hb (hc i hi)⟩⟩
theorem SsV.take {w : World} {ao : Option Addr} {n cap : Nat} {l : List ByteArray} (h : SsV w (.slice ao n cap) l) {k : Nat} (hk : k ≤ l.length) : SsV w (.slice ao k cap) (l.take k) := by
  obtain ⟨h1, ao', cap', h2, h3, h4⟩ := h
  simp at h2
  obtain ⟨rfl, rfl, rfl⟩ := h2
  have hl : (l.take k).length = k := by simp; omega
  refine ⟨by omega, ao, cap, by rw [hl], by omega, ?_⟩
  rcases h4 with h4 | ⟨b, o, e, hc⟩
  · exact .inl (by omega)
  · exact .inr ⟨b, o, e, fun i hi => by rw [List.getElem_take]; exact hc i (by omega)⟩
theorem SsV_nil (w : World) : SsV w (.slice none 0 0) [] := ⟨by simp, none, 0, rfl, Nat.zero_le _, .inl rfl⟩
theorem SsV_owned {w : World} {base : Nat} {e : TypeId} {v : Value} {l : List ByteArray} (h : w.ownsRow base e 1 v l.length (l.map .string)) (hl : l.length ≤ 9223372036854775807) : SsV w v l := by
  have h0 := h
  obtain ⟨h1, h2 | ⟨g, cap, cur, e1, e2, e3, e4, e5⟩⟩ := h
  · exact ⟨hl, none, 0, by rw [h2.1, h2.2], by omega, .inl h2.2⟩
  · refine ⟨hl, _, cap, e1, e4, .inr ⟨g, 0, rfl, fun i hi => ?_⟩⟩
    subst e1
    have := World.ownsRow.cellAt h0 i (by simpa using hi)
    rw [show 0 + i = i by omega, this]
    simp [hi]
theorem SsV.slice {w : World} {v : Value} {l : List ByteArray} (h : SsV w v l) : ∃ ao cap, v = .slice ao l.length cap := let ⟨_, ao, cap, e, _⟩ := h; ⟨ao, cap, e⟩

set_option maxRecDepth 100000 in
set_option maxHeartbeats 4000000 in
theorem placeOf_any (l : List ByteArray) (s : ByteArray) (v : Value) (w : World) (h : SsV w v l) :
    Calls Try.prog 69 #[v, .string s] w fun e w' => e = .returned (.int .i64 (whr l s)) ∧ w' = w := by
  obtain ⟨hl, ao, cap, rfl, hcap, hin⟩ := h
  go_enter Try.func69, Try.ntmps69
  go_wp2_with fail
  go_loopw [5] (fun i wr => ∃ k : Nat, k ≤ l.length ∧ i = .int .i64 k ∧ wr = w ∧ Hid (∀ j, j < k → decide (l[j]? = some s) = false)) (fun i _ => l.length - (intOf i).toNat)
  case atStart => exact ⟨0, Nat.zero_le _, rfl, rfl, hd (fun j hj => absurd hj (Nat.not_lt_zero _))⟩
  case round =>
    obtain ⟨k, hk, rfl, rfl, hall⟩ := hrel
    by_cases hlt : k < l.length
    · obtain h0 | ⟨b, o, rfl, hc⟩ := hin
      · omega
      have c0 := hc k hlt
      have HK : Hid (l[k]? = some l[k]) := hd (List.getElem?_eq_getElem hlt)
      have HL := hd hlt
      clear hc
      generalize l[k] = t at *
      by_cases hs : t = s
      · subst hs
        go_wp2_with fail
        go_ret
        exact ⟨by rw [whr, fstI_hit (k := k) (decide_eq_true HK.out) hall.out HL.out]; rfl, rfl⟩
      · have hs' : (t.toList == s.toList) = false := by rw [beq_str]; simpa using hs
        go_wp2_with fail
        go_roundw
        case rel => exact ⟨k + 1, by omega, by go_num, trivial, hd (fun j hj => by
          by_cases e : j = k
          · subst e; rw [HK.out]; simpa using hs
          · exact hall.out j (by omega))⟩
        case measure => simp [intOf]; omega
    · go_wp2_with fail
      go_ret
      exact ⟨by rw [whr, fstI_none (fun j hj => hall.out j (by omega))]; rfl, rfl⟩
set_option maxRecDepth 100000 in
set_option maxHeartbeats 4000000 in
theorem index_any (l : List ByteArray) (s : ByteArray) (v : Value) (w : World) (h : SsV w v l) :
    Calls Try.prog 117 #[v, .string s] w fun e w' => e = .returned (.int .i64 (whr l s)) ∧ w' = w := by
  obtain ⟨hl, ao, cap, rfl, hcap, hin⟩ := h
  go_enter Try.func117, Try.ntmps117
  go_wp2_with fail
  go_loopw [8] (fun i wr => ∃ k : Nat, k ≤ l.length ∧ i = .int .i64 k ∧ wr = w ∧ Hid (∀ j, j < k → decide (l[j]? = some s) = false)) (fun i _ => l.length - (intOf i).toNat)
  case atStart => exact ⟨0, Nat.zero_le _, rfl, rfl, hd (fun j hj => absurd hj (Nat.not_lt_zero _))⟩
  case round =>
    obtain ⟨k, hk, rfl, rfl, hall⟩ := hrel
    by_cases hlt : k < l.length
    · obtain h0 | ⟨b, o, rfl, hc⟩ := hin
      · omega
      have c0 := hc k hlt
      have HK : Hid (l[k]? = some l[k]) := hd (List.getElem?_eq_getElem hlt)
      have HL := hd hlt
      clear hc
      generalize l[k] = t at *
      by_cases hs : t = s
      · subst hs
        go_wp2_with fail
        go_ret
        exact ⟨by rw [whr, fstI_hit (k := k) (decide_eq_true HK.out) hall.out HL.out]; rfl, rfl⟩
      · have hs' : (s.toList == t.toList) = false := by rw [beq_str]; simpa using fun e : s = t => hs e.symm
        go_wp2_with fail
        go_roundw
        case rel => exact ⟨k + 1, by omega, by go_num, trivial, hd (fun j hj => by
          by_cases e : j = k
          · subst e; rw [HK.out]; simpa using hs
          · exact hall.out j (by omega))⟩
        case measure => simp [intOf]; omega
    · go_wp2_with fail
      go_ret
      exact ⟨by rw [whr, fstI_none (fun j hj => hall.out j (by omega))]; rfl, rfl⟩
theorem contains_any (l : List ByteArray) (s : ByteArray) (v : Value) (w : World) (h : SsV w v l) :
    Calls Try.prog 112 #[v, .string s] w fun e w' => e = .returned (.bool (inB s l)) ∧ w' = w := by
  have IA := index_any l s v w h
  have hm := whr_mem l s
  obtain ⟨ao, cap, rfl⟩ := h.slice
  generalize whr l s = r at *
  rw [show inB s l = decide (0 ≤ r) from by rw [Bool.eq_iff_iff, inB_iff, ← hm]; simp]
  clear hm
  go_enter Try.func112, Try.ntmps112
  go_wp2_with (go_at_call 117; refine IA.mono ?_; rintro e wx ⟨rfl, hwx⟩; obtain rfl := hwx.symm)
  go_ret
  exact ⟨rfl, rfl⟩

end Go.Proofs.Ytghplmldnkcpnac

/- On the way to a grammar: the state in memory, and what stays. -/
namespace Go.Proofs.Ytghplmldnkcpnac
open Go.RowKit G

/-- All blocks but one, and but the rules' own, are as they were. -/
structure Fm (r : Nat) (q : Option Nat) (w w' : World) : Prop where
  os : w'.os = w.os
  tape : w'.tape = w.tape
  output : w'.output = w.output
  size : w.heap.size ≤ w'.heap.size
  block : ∀ k, k < w.heap.size → k ≠ r → q ≠ some k → w'.heap[k]? = w.heap[k]?
/-- The rules' own block: the same one, or a new one. -/
def Own (w : World) (q q' : Option Nat) : Prop := q' = q ∨ ∃ g, q' = some g ∧ w.heap.size ≤ g
theorem Own.refl (w : World) (q : Option Nat) : Own w q q := .inl rfl
theorem Own.trans {a b : World} {p q s : Option Nat} (h : Own a p q) (k : Own b q s) (hab : a.heap.size ≤ b.heap.size) : Own a p s := by
  rcases k with rfl | ⟨g, e, hg⟩
  · exact h
  · exact .inr ⟨g, e, by omega⟩
theorem Own.ne {w : World} {q q' : Option Nat} (h : Own w q q') {k : Nat} (hk : k < w.heap.size) (hq : q ≠ some k) : q' ≠ some k := by
  rcases h with rfl | ⟨g, rfl, hg⟩
  · exact hq
  · intro e; simp at e; omega
theorem Fm.refl (r : Nat) (q : Option Nat) (w : World) : Fm r q w w := ⟨rfl, rfl, rfl, Nat.le_refl _, fun _ _ _ _ => rfl⟩
theorem Fm.trans {r : Nat} {q q' : Option Nat} {a b c : World} (h : Fm r q a b) (k : Fm r q' b c) (ho : Own a q q') : Fm r q a c :=
  ⟨k.os.trans h.os, k.tape.trans h.tape, k.output.trans h.output, Nat.le_trans h.size k.size, fun i hi hr hq => (k.block i (Nat.lt_of_lt_of_le hi h.size) hr (ho.ne hi hq)).trans (h.block i hi hr hq)⟩
theorem Fm.of_below {r : Nat} {q : Option Nat} {w w' : World} (h : Below w.heap.size w w') : Fm r q w w' := ⟨h.os, h.tape, h.output, h.size, fun k hk _ _ => h.block k hk⟩
theorem Fm.below {r : Nat} {q : Option Nat} {w w' : World} (h : Fm r q w w') {B : Nat} (hr : B ≤ r) (hq : ∀ k, q = some k → B ≤ k) (hB : B ≤ w.heap.size) : Below B w w' :=
  ⟨h.os, h.tape, h.output, h.size, fun k hk => h.block k (by omega) (by omega) (fun e => by have := hq k e; omega)⟩
theorem Fm.thenB {r : Nat} {q : Option Nat} {a b c : World} (h : Fm r q a b) (k : Below b.heap.size b c) : Fm r q a c := h.trans (Fm.of_below (q := q) k) (.inl rfl)
theorem Fm.setCell {r : Nat} {q : Option Nat} {a w : World} (h : Fm r q a w) {p : Addr} (hp : p.block = r ∨ a.heap.size ≤ p.block) (u : Value) : Fm r q a (w.setCell p u) :=
  ⟨h.os, h.tape, h.output, by simpa [World.setCell] using h.size, fun k hk hr hq => by rw [Below.heap_setCell _ _ _ _ (by omega)]; exact h.block k hk hr hq⟩
theorem Fm.grown {r : Nat} {q row : Option Nat} {a w w' : World} (h : Fm r q a w) (hg : w.grownBy w' row) (hr : row = q ∨ ∀ k, row = some k → a.heap.size ≤ k) : Fm r q a w' :=
  ⟨hg.os.trans h.os, hg.tape.trans h.tape, hg.output.trans h.output, Nat.le_trans h.size hg.size, fun k hk hk' hq => by
    rw [hg.block k (Nat.lt_of_lt_of_le hk h.size) (fun e => by
      rcases hr with hr | hr
      · exact hq (hr ▸ e.symm)
      · have := hr k e.symm; omega)]
    exact h.block k hk hk' hq⟩
theorem Fm.cell {r : Nat} {q : Option Nat} {w w' : World} (h : Fm r q w w') {b o : Nat} {v : Value} (hc : w.cell? ⟨b, o, none⟩ = some v) (hr : b ≠ r) (hq : q ≠ some b) : w'.cell? ⟨b, o, none⟩ = some v := by
  rw [World.cell?_of_block (w := w) (a := ⟨b, o, none⟩) (h.block b (lt_of_cell hc) hr hq)]; exact hc
theorem Fm.frozen {r : Nat} {q : Option Nat} {w w' : World} (h : Fm r q w w') {b o : Nat} (hb : b < w.heap.size) (hr : b ≠ r) (hq : q ≠ some b) : w'.frozen? ⟨b, o, none⟩ = w.frozen? ⟨b, o, none⟩ :=
  World.frozen?_of_block (w := w) (a := ⟨b, o, none⟩) (h.block b hb hr hq)
theorem owns_fr {r : Nat} {q : Option Nat} {w w' : World} {base : Nat} {e : TypeId} {size : Nat} {v : Value} {n : Nat} {xs : List Value} (h : w.ownsRow base e size v n xs) (hb : Fm r q w w') (hr : ∀ k, v.ownBlock = some k → k ≠ r ∧ q ≠ some k) : w'.ownsRow base e size v n xs := by
  obtain ⟨h1, h2⟩ := h
  refine ⟨h1, ?_⟩
  rcases h2 with h2 | ⟨g, cap, cur, hv, hg, hh, rest⟩
  · exact Or.inl h2
  · refine Or.inr ⟨g, cap, cur, hv, hg, ?_, rest⟩
    have hlt : g < w.heap.size := by
      rcases Nat.lt_or_ge g w.heap.size with h' | h'
      · exact h'
      · rw [Array.getElem?_eq_none h'] at hh; cases hh
    have := hr g (by rw [hv]; rfl)
    rw [hb.block g hlt this.1 this.2]; exact hh

/-- A slice of strings that lies ahead of a block. -/
def SsL (w : World) (r : Nat) (v : Value) (l : List ByteArray) : Prop := SsV w v l ∧ ∀ b o n c, v = .slice (some ⟨b, o, none⟩) n c → b < r
theorem SsL.below {w w' : World} {r : Nat} {v : Value} {l : List ByteArray} (h : SsL w r v l) (hb : Below r w w') : SsL w' r v l := by
  obtain ⟨⟨h1, ao, cap, h2, h3, h4⟩, h5⟩ := h
  refine ⟨⟨h1, ao, cap, h2, h3, h4.imp id fun ⟨b, o, e, hc⟩ => ⟨b, o, e, fun i hi => ?_⟩⟩, h5⟩
  rw [hb.cell (p := ⟨b, o + i, none⟩) (h5 b o _ _ (by rw [h2, e]))]; exact hc i hi
/-- The class of what the rules' right sides lie in. -/
def Rg1 (r : Nat) (q : Option Nat) (X : Nat → Prop) : Nat → Prop := fun k => r + 1 ≤ k ∧ q ≠ some k ∧ ¬ X k
/-- A slice more that is being written. -/
def op1 (X : Nat → Prop) (v : Value) : Nat → Prop := fun k => X k ∨ v.ownBlock = some k
/-- The state: names, terminals, how many nonterminals, the rules; X: blocks that are being written, of slices beside. -/
structure StB (w : World) (r : Nat) (vn vt : Value) (N T : List ByteArray) (s : Sp) (q : Option Nat) (X : Nat → Prop) : Prop where
  c0 : w.cell? ⟨r, 0, none⟩ = some vn
  c1 : w.cell? ⟨r, 1, none⟩ = some vt
  c2 : w.cell? ⟨r, 2, none⟩ = some (.int .i64 (s.vars : Int))
  c3 : ∃ vr xs, w.cell? ⟨r, 3, none⟩ = some vr ∧ w.ownsRow (r + 1) 37 2 vr s.rules.length xs ∧ RC w (Rg1 r q X) xs s.rules ∧ vr.ownBlock = q
  fz : ∀ i, w.frozen? ⟨r, i, none⟩ = false
  sz : r < w.heap.size
  nn : SsL w r vn N
  tt : SsL w r vt T
  rl : s.rules.length ≤ 160
  vl : s.vars ≤ 64
  xo : ∀ k, X k → r + 1 ≤ k ∧ k < w.heap.size ∧ q ≠ some k
section
variable {w w' : World} {r : Nat} {vn vt : Value} {N T : List ByteArray} {s : Sp} {q : Option Nat} {X : Nat → Prop}
theorem StB.own (h : StB w r vn vt N T s q X) : ∀ k, q = some k → r + 1 ≤ k ∧ k < w.heap.size := by
  obtain ⟨vr, xs, _, ho, _, e⟩ := h.c3
  intro k hk
  exact ho.lt k (e.trans hk)
theorem StB.low (h : StB w r vn vt N T s q X) (hf : Fm r q w w') : Below r w w' := hf.below (Nat.le_refl _) (fun k hk => by have := h.own k hk; omega) (by have := h.sz; omega)
theorem StB.lw (h : StB w r vn vt N T s q X) (hb : Below w.heap.size w w') : StB w' r vn vt N T s q X := by
  obtain ⟨c0, c1, c2, ⟨vr, xs, c3, ho, hc, e⟩, fz, sz, nn, tt, rl, vl, xo⟩ := h
  have hl : Below r w w' := hb.mono (by omega)
  exact ⟨bkeep hb c0, bkeep hb c1, bkeep hb c2, ⟨vr, xs, bkeep hb c3, G.owns_below ho hb, hc.mono fun b o v hs h => ⟨hs, bkeep hb h⟩, e⟩, fun i => by rw [hb.frozen (p := ⟨r, i, none⟩) sz]; exact fz i, Nat.lt_of_lt_of_le sz hb.size, nn.below hl, tt.below hl, rl, vl, fun k hk => by have := xo k hk; have := hb.size; exact ⟨(xo k hk).1, by omega, (xo k hk).2.2⟩⟩
/-- A new number of nonterminals. -/
theorem StB.setVars (h : StB w r vn vt N T s q X) {n : Nat} (hn : n ≤ 64) : StB (w.setCell ⟨r, 2, none⟩ (.int .i64 (n : Int))) r vn vt N T { s with vars := n } q X := by
  have hb : Below r w (w.setCell ⟨r, 2, none⟩ (.int .i64 (n : Int))) := (Below.refl _ _).setCell (p := ⟨r, 2, none⟩) (Nat.le_refl r) _
  obtain ⟨c0, c1, c2, ⟨vr, xs, c3, ho, hc, e⟩, fz, sz, nn, tt, rl, vl, xo⟩ := h
  refine ⟨by simp [go_sem, c0], by simp [go_sem, c1], by simp [go_sem, c2], ⟨vr, xs, by simp [go_sem, c3], owns_setCell ho (by simp), hc.mono fun b o v hs h => ⟨hs, ?_⟩, e⟩, by simp [go_sem, fz], by simpa [World.setCell] using sz, nn.below hb, tt.below hb, rl, hn, fun k hk => by simpa [World.setCell] using xo k hk⟩
  have : b ≠ r := by have := hs.1; omega
  rw [World.cell?_of_block (a := ⟨b, o, none⟩) (Below.heap_setCell _ _ _ _ this)]; exact h
theorem StB.setOther (h : StB w r vn vt N T s q X) {i : Nat} (hi : 4 ≤ i) (u : Value) : StB (w.setCell ⟨r, i, none⟩ u) r vn vt N T s q X := by
  have hb : Below r w (w.setCell ⟨r, i, none⟩ u) := (Below.refl _ _).setCell (p := ⟨r, i, none⟩) (Nat.le_refl r) _
  obtain ⟨c0, c1, c2, ⟨vr, xs, c3, ho, hc, e⟩, fz, sz, nn, tt, rl, vl, xo⟩ := h
  refine ⟨?_, ?_, ?_, ⟨vr, xs, ?_, owns_setCell ho (by simp), hc.mono fun b o v hs h => ⟨hs, ?_⟩, e⟩, by simp [go_sem, fz], by simpa [World.setCell] using sz, nn.below hb, tt.below hb, rl, vl, fun k hk => by simpa [World.setCell] using xo k hk⟩
  · rw [World.cell?_setCell_other _ _ _ _ (fun e => by injection e with _ e; omega)]; exact c0
  · rw [World.cell?_setCell_other _ _ _ _ (fun e => by injection e with _ e; omega)]; exact c1
  · rw [World.cell?_setCell_other _ _ _ _ (fun e => by injection e with _ e; omega)]; exact c2
  · rw [World.cell?_setCell_other _ _ _ _ (fun e => by injection e with _ e; omega)]; exact c3
  · have : b ≠ r := by have := hs.1; omega
    rw [World.cell?_of_block (a := ⟨b, o, none⟩) (Below.heap_setCell _ _ _ _ this)]; exact h
theorem StB.of_bad {b : Bool} (h : StB w r vn vt N T s q X) : StB w r vn vt N T { s with bad := b } q X := ⟨h.c0, h.c1, h.c2, h.c3, h.fz, h.sz, h.nn, h.tt, h.rl, h.vl, h.xo⟩
/-- One rule more: the rules are appended to, and kept. -/
theorem StB.put (h : StB w r vn vt N T s q X) {w1 w2 : World} {vr vr' u : Value} {xs : List Value} {v : Int} {l : List Int} (hb1 : Below w.heap.size w w1)
    (h3 : w.cell? ⟨r, 3, none⟩ = some vr) (_ho : w.ownsRow (r + 1) 37 2 vr s.rules.length xs) (hc : RC w (Rg1 r q X) xs s.rules) (he : vr.ownBlock = q)
    (hu : IsV w1 (Rg1 r q X) u l) (own2 : w2.ownsRow (r + 1) 37 2 vr' (s.rules.length + 1) (xs ++ [.int .i64 v, u])) (grow2 : w1.grownBy w2 vr.ownBlock) (hat : vr'.ownBlock = vr.ownBlock ∨ vr'.ownBlock = some w1.heap.size) (hl : s.rules.length < 160) :
    ∃ q', StB (w2.setCell ⟨r, 3, none⟩ vr') r vn vt N T { s with rules := s.rules ++ [⟨v, l⟩] } q' X ∧ Fm r q w (w2.setCell ⟨r, 3, none⟩ vr') ∧ Own w q q' := by
  have hown := h.own
  have hf1 : Fm r q w w1 := Fm.of_below hb1
  have hf2 : Fm r q w w2 := hf1.grown grow2 (.inl he)
  have hf3 : Fm r q w (w2.setCell ⟨r, 3, none⟩ vr') := hf2.setCell (.inl rfl) _
  have hOwn : Own w q vr'.ownBlock := by
    rcases hat with e | e
    · exact .inl (e.trans he)
    · exact .inr ⟨_, e, hb1.size⟩
  have hlow := h.low hf3
  have hsz := h.sz
  have z1 := hb1.size
  have z2 := grow2.size
  have keep1 : ∀ b, b < w1.heap.size → r + 1 ≤ b → q ≠ some b → (w2.setCell ⟨r, 3, none⟩ vr').heap[b]? = w1.heap[b]? := fun b h1 h2 h4 => by
    rw [Below.heap_setCell _ _ _ _ (by simp; omega), grow2.block b h1 (fun e => h4 (he ▸ e.symm))]
  have hr2 : ∀ i, w2.cell? ⟨r, i, none⟩ = w.cell? ⟨r, i, none⟩ := fun i => by
    rw [World.cell?_of_block (w := w1) (a := ⟨r, i, none⟩) (grow2.block r (by omega) (fun e => by have := hown r (he ▸ e.symm); omega)), hb1.cell (p := ⟨r, i, none⟩) hsz]
  have hrf : ∀ i, w2.frozen? ⟨r, i, none⟩ = w.frozen? ⟨r, i, none⟩ := fun i => by
    rw [World.frozen?_of_block (w := w1) (a := ⟨r, i, none⟩) (grow2.block r (by omega) (fun e => by have := hown r (he ▸ e.symm); omega)), hb1.frozen (p := ⟨r, i, none⟩) hsz]
  have c0 := h.c0
  have c1 := h.c1
  have c2 := h.c2
  rw [← hr2] at c0 c1 c2 h3
  have hnew : ∀ k, k < w1.heap.size → Rg1 r q X k → Rg1 r vr'.ownBlock X k := fun k hk hs => ⟨hs.1, fun e => by
    rcases hat with e' | e'
    · exact hs.2.1 (by rw [← he, ← e', e])
    · rw [e'] at e; simp at e; omega, hs.2.2⟩
  refine ⟨vr'.ownBlock, ⟨?_, ?_, ?_, ⟨vr', xs ++ [.int .i64 v, u], World.cell?_setCell_same _ _ _ h3, ?_, ?_, rfl⟩, ?_, ?_, h.nn.below hlow, h.tt.below hlow, ?_, h.vl, fun k hk => ?_⟩, hf3, hOwn⟩
  · rw [World.cell?_setCell_other _ _ _ _ (by simp)]; exact c0
  · rw [World.cell?_setCell_other _ _ _ _ (by simp)]; exact c1
  · rw [World.cell?_setCell_other _ _ _ _ (by simp)]; exact c2
  · rw [show (s.rules ++ [(⟨v, l⟩ : Ru)]).length = s.rules.length + 1 by simp]
    exact owns_setCell own2 (by simp)
  · refine RC.snoc (r := ⟨v, l⟩) ?_ ?_
    · exact hu.mono fun b o x hs hx => ⟨hnew b (lt_of_cell hx) hs, by rw [World.cell?_of_block (a := ⟨b, o, none⟩) (keep1 b (lt_of_cell hx) hs.1 hs.2.1)]; exact hx⟩
    · refine hc.mono fun b o x hs hx => ?_
      have hlt := lt_of_cell hx
      exact ⟨hnew b (by omega) hs, by rw [World.cell?_of_block (a := ⟨b, o, none⟩) (keep1 b (by omega) hs.1 hs.2.1), hb1.cell (p := ⟨b, o, none⟩) hlt]; exact hx⟩
  · intro i
    rw [show (w2.setCell ⟨r, 3, none⟩ vr').frozen? ⟨r, i, none⟩ = w2.frozen? ⟨r, i, none⟩ by simp [go_sem], hrf]; exact h.fz i
  · have : (w2.setCell ⟨r, 3, none⟩ vr').heap.size = w2.heap.size := by simp [World.setCell]
    omega
  · simp; omega
  · have := h.xo k hk
    have hz : (w2.setCell ⟨r, 3, none⟩ vr').heap.size = w2.heap.size := by simp [World.setCell]
    exact ⟨this.1, by omega, hOwn.ne this.2.1 this.2.2⟩
theorem StB.weak {Y : Nat → Prop} (h : StB w r vn vt N T s q X) (hY : ∀ k, Y k → X k) : StB w r vn vt N T s q Y := by
  obtain ⟨c0, c1, c2, ⟨vr, xs, c3, ho, hc, e⟩, fz, sz, nn, tt, rl, vl, xo⟩ := h
  exact ⟨c0, c1, c2, ⟨vr, xs, c3, ho, hc.mono fun b o v hs h => ⟨⟨hs.1, hs.2.1, fun hx => hs.2.2 (hY b hx)⟩, h⟩, e⟩, fz, sz, nn, tt, rl, vl, fun k hk => xo k (hY k hk)⟩
/-- A slice that is being written grows. -/
theorem StB.grow {v v' : Value} (h : StB w r vn vt N T s q (op1 X v)) (hg : w.grownBy w' v.ownBlock) (hat : v'.ownBlock = v.ownBlock ∨ v'.ownBlock = some w.heap.size) (hv' : ∀ k, v'.ownBlock = some k → k < w'.heap.size) : StB w' r vn vt N T s q (op1 X v') := by
  have hown := h.own
  obtain ⟨c0, c1, c2, ⟨vr, xs, c3, ho, hc, e⟩, fz, sz, nn, tt, rl, vl, xo⟩ := h
  have hz := hg.size
  have kp : ∀ b, b < w.heap.size → v.ownBlock ≠ some b → w'.heap[b]? = w.heap[b]? := fun b hb hn => hg.block b hb (fun e => hn e.symm)
  have nr : v.ownBlock ≠ some r := fun e => by have := (xo r (.inr e)).1; omega
  have hr : ∀ i u, w.cell? ⟨r, i, none⟩ = some u → w'.cell? ⟨r, i, none⟩ = some u := fun i u hu => by rw [World.cell?_of_block (w := w) (a := ⟨r, i, none⟩) (kp r sz nr)]; exact hu
  have hl : Below r w w' := ⟨hg.os, hg.tape, hg.output, hz, fun k hk => kp k (by omega) (fun e => by have := (xo k (.inr e)).1; omega)⟩
  have hc' : RC w' (Rg1 r q (op1 X v')) xs s.rules := by
    refine hc.mono fun b o u hs hu => ⟨⟨hs.1, hs.2.1, ?_⟩, ?_⟩
    · rw [World.cell?_of_block (w := w) (a := ⟨b, o, none⟩) (kp b (lt_of_cell hu) (fun e' => hs.2.2 (.inr e')))]; exact hu
    · intro hx
      rcases hx with hx | hx
      · exact hs.2.2 (.inl hx)
      · rcases hat with e' | e'
        · exact hs.2.2 (.inr (e' ▸ hx))
        · rw [e'] at hx; simp at hx; have := lt_of_cell hu; omega
  refine ⟨hr _ _ c0, hr _ _ c1, hr _ _ c2, ⟨vr, xs, hr _ _ c3, ?_, hc', e⟩, fun i => by rw [World.frozen?_of_block (w := w) (a := ⟨r, i, none⟩) (kp r sz nr)]; exact fz i, by omega, nn.below hl, tt.below hl, rl, vl, fun k hk => ?_⟩
  · obtain ⟨h1, h2⟩ := ho
    refine ⟨h1, ?_⟩
    rcases h2 with h2 | ⟨g, cap, cur, hv, hgb, hh, rest⟩
    · exact Or.inl h2
    · refine Or.inr ⟨g, cap, cur, hv, hgb, ?_, rest⟩
      have hq : q = some g := by rw [← e, hv]; rfl
      rw [kp g (hown g hq).2 (fun e' => (xo g (.inr e')).2.2 hq)]; exact hh
  · rcases hk with hk | hk
    · have := xo k (.inl hk); exact ⟨this.1, by omega, this.2.2⟩
    · rcases hat with e' | e'
      · have := xo k (.inr (e' ▸ hk)); exact ⟨this.1, by omega, this.2.2⟩
      · have h1 := hv' k hk
        rw [e'] at hk; simp at hk
        exact ⟨by omega, h1, fun hq => by have := (hown k hq).2; omega⟩
/-- A slice more that is being written: a new one. -/
theorem StB.open_ {v : Value} (h : StB w r vn vt N T s q X) (hb : Below w.heap.size w w') (hv : ∀ k, v.ownBlock = some k → w.heap.size ≤ k ∧ k < w'.heap.size) : StB w' r vn vt N T s q (op1 X v) := by
  have h' := h.lw hb
  have hown := h.own
  obtain ⟨vr, xs, c3, ho, hc, e⟩ := h.c3
  have hsz := h.sz
  have hc' : RC w' (Rg1 r q (op1 X v)) xs s.rules := by
    refine hc.mono fun b o u hs hu => ⟨⟨hs.1, hs.2.1, fun hx => ?_⟩, bkeep hb hu⟩
    rcases hx with hx | hx
    · exact hs.2.2 hx
    · have := (hv b hx).1; have := lt_of_cell hu; omega
  refine ⟨h'.c0, h'.c1, h'.c2, ⟨vr, xs, bkeep hb c3, G.owns_below ho hb, hc', e⟩, h'.fz, h'.sz, h'.nn, h'.tt, h'.rl, h'.vl, fun k hk => ?_⟩
  · rcases hk with hk | hk
    · exact h'.xo k hk
    · have := hv k hk
      exact ⟨by omega, this.2, fun hq => by have := (hown k hq).2; omega⟩
end
/-- The ways of an expression, in memory. -/
def WyV (w : World) (r : Nat) (S : Nat → Prop) (v : Value) (f : Fo) : Prop :=
  f.len ≤ 9223372036854775807 ∧ ∃ ao cap, v = .slice ao f.len cap ∧ (f.len = 0 ∨ ∃ b o, ao = some ⟨b, o, none⟩ ∧ S b ∧ ∀ i, i < f.len → XIn w (fun k => k < r) (f.at_ i) b (o + i * 3))
theorem WyV.slice {w : World} {r : Nat} {S : Nat → Prop} {v : Value} {f : Fo} (h : WyV w r S v f) : ∃ ao cap, v = .slice ao f.len cap := let ⟨_, ao, cap, e, _⟩ := h; ⟨ao, cap, e⟩
theorem XIn.mono2 {w w' : World} {S T : Nat → Prop} {x : Xp} {b o : Nat} (h : XIn w S x b o) (hb : ∀ o v, w.cell? ⟨b, o, none⟩ = some v → w'.cell? ⟨b, o, none⟩ = some v) (hc : ∀ b o v, S b → w.cell? ⟨b, o, none⟩ = some v → T b ∧ w'.cell? ⟨b, o, none⟩ = some v) : XIn w' T x b o := by
  obtain ⟨h1, h2, u, h3, h4⟩ := h
  exact ⟨hb _ _ h1, hb _ _ h2, u, hb _ _ h3, h4.mono hc⟩
theorem WyV_fov {w : World} {r : Nat} {S : Nat → Prop} {v : Value} {f : Fo} (h : FoV w (fun k => k < r) v f) (hS : ∀ k, k < r → S k) : WyV w r S v f := by
  obtain ⟨h1, ao, cap, h2, h3⟩ := h
  refine ⟨h1, ao, cap, h2, ?_⟩
  rcases h3 with h3 | ⟨b, o, e, h4⟩
  · exact .inl h3
  · by_cases h0 : f.len = 0
    · exact .inl h0
    · refine .inr ⟨b, o, e, hS b ?_, fun i hi => h4.at_ i hi⟩
      cases f with
      | nil => simp [Fo.len] at h0
      | cons => exact h4.1
theorem WyV.fr {w w' : World} {r : Nat} {q q' : Option Nat} {v : Value} {f : Fo} (h : WyV w r (fun k => k ≠ r ∧ q ≠ some k) v f) (hf : Fm r q w w') (hl : Below r w w') (ho : Own w q q') : WyV w' r (fun k => k ≠ r ∧ q' ≠ some k) v f := by
  obtain ⟨h1, ao, cap, h2, h3⟩ := h
  refine ⟨h1, ao, cap, h2, ?_⟩
  rcases h3 with h3 | ⟨b, o, e, hs, h4⟩
  · exact .inl h3
  · by_cases h0 : f.len = 0
    · exact .inl h0
    · refine .inr ⟨b, o, e, ⟨hs.1, ho.ne (lt_of_cell (h4 0 (by omega)).1) hs.2⟩, fun i hi => (h4 i hi).mono2 (fun o v hc => hf.cell hc hs.1 hs.2) fun b o v hb hc => ⟨hb, ?_⟩⟩
      rw [hl.cell (p := ⟨b, o, none⟩) hb]; exact hc
end Go.Proofs.Ytghplmldnkcpnac
