/- Texts laid together: Mk Xk Pl RScan Same Rd Prs Item Row Defn Sl. -/
import Derived.Test.YtcanphhmflbdmacL04
import Derived.Test.YtcanphhmflbdmacL03
import Derived.Test.YtcanphhmflbdmacProg
import Derived.Test.YtcanphhmflbdmacL02
import Derived.Deep.Quiet
import Derived.Deep.QuietTactic
import Derived.BigQuiet
import Derived.Defers
import Derived.Recover
import Derived.RegionTactic
import Derived.BigRegion
import Derived.Deep.LoopGhost
import Derived.Test.YtcanphhmflbdmacL05
/- The small functions of package render: rounded, ownParts, formed, named, marks. -/
namespace Go.Proofs.Ytcanphhmflbdmac
open Go.RowKit

theorem al2 (w : World) (o p : Obj) : Below w.heap.size w ((w.alloc o).alloc p) := ((Below.refl _ _).alloc (Nat.le_refl _) _).alloc (by simp) _
theorem al1 (w : World) (o : Obj) : Below w.heap.size w (w.alloc o) := (Below.refl _ _).alloc (Nat.le_refl _) _
set_option maxRecDepth 100000 in
set_option maxHeartbeats 4000000 in
theorem rounded_any (a b : Int) (s t : ByteArray) (p q : Option Addr) (m n c d : Nat) (w : World) :
    Calls Try.prog 103 #[.agg #[.int .i64 a, .string s, .slice p m c], .agg #[.int .i64 b, .string t, .slice q n d]] w fun e w' => e = .returned (.bool (rnd b a)) ∧ Below w.heap.size w w' := by
  by_cases h4 : a = 4
  · subst h4
    by_cases h3 : b = 3
    · subst h3
      go_enter Try.func103, Try.ntmps103
      go_wp2_with fail
      go_ret
      exact ⟨rfl, al2 _ _ _⟩
    · by_cases hb4 : b = 4
      · subst hb4
        go_enter Try.func103, Try.ntmps103
        go_wp2_with fail
        go_ret
        exact ⟨rfl, al2 _ _ _⟩
      · have r : rnd b 4 = false := by simp [rnd, h3, hb4]
        rw [r]
        go_enter Try.func103, Try.ntmps103
        go_wp2_with fail
        go_ret
        exact ⟨ret_bool (by simp [h3, hb4]), al2 _ _ _⟩
  · by_cases h3 : a = 3
    · subst h3
      by_cases hb : b = 3
      · subst hb
        go_enter Try.func103, Try.ntmps103
        go_wp2_with fail
        go_ret
        exact ⟨rfl, al2 _ _ _⟩
      · have r : rnd b 3 = false := by simp [rnd, hb]
        rw [r]
        go_enter Try.func103, Try.ntmps103
        go_wp2_with fail
        go_ret
        exact ⟨ret_bool (by simp [hb]), al2 _ _ _⟩
    · have r : rnd b a = false := by simp [rnd, h3, h4]
      rw [r]
      go_enter Try.func103, Try.ntmps103
      go_wp2_with fail
      go_ret
      exact ⟨rfl, al2 _ _ _⟩
set_option maxRecDepth 100000 in
set_option maxHeartbeats 4000000 in
theorem ownParts_any (a : Int) (s : ByteArray) (p : Option Addr) (m c : Nat) (w : World) (hm : m ≤ 9223372036854775807) :
    Calls Try.prog 108 #[.agg #[.int .i64 a, .string s, .slice p m c]] w fun e w' => e = .returned (.int .i64 ((own a m : Nat) : Int)) ∧ Below w.heap.size w w' := by
  by_cases h3 : a = 3
  · subst h3
    go_enter Try.func108, Try.ntmps108
    go_wp2_with fail
    go_ret
    exact ⟨rfl, al1 _ _⟩
  · by_cases h4 : a = 4
    · subst h4
      go_enter Try.func108, Try.ntmps108
      go_wp2_with fail
      go_ret
      exact ⟨ret_int (by simp only [own]; simp; omega), al1 _ _⟩
    · have r : own a m = 1 := by simp [own, h3, h4]
      rw [r]
      go_enter Try.func108, Try.ntmps108
      go_wp2_with fail
      go_ret
      exact ⟨rfl, al1 _ _⟩
theorem toList0 {s : ByteArray} (h : s.size = 0) : s.toList = [] := by
  rw [ByteArray.toList_eq]
  exact List.eq_nil_of_length_eq_zero (by simpa using h)
theorem toList1 {s : ByteArray} (h : ¬ s.size = 0) : ¬ s.toList = [] := by
  rw [ByteArray.toList_eq]
  intro e
  exact h (by have := congrArg List.length e; simpa using this)
set_option maxRecDepth 100000 in
set_option maxHeartbeats 4000000 in
theorem formed_any (a : Int) (s : ByteArray) (p : Option Addr) (m c : Nat) (w : World) (hm : m ≤ 9223372036854775807) :
    Calls Try.prog 109 #[.agg #[.int .i64 a, .string s, .slice p m c]] w fun e w' => e = .returned (.bool (formB a s m)) ∧ Below w.heap.size w w' := by
  by_cases h1 : a = 1
  · subst h1
    go_enter Try.func109, Try.ntmps109
    go_wp2_with fail
    go_ret
    exact ⟨ret_bool (by rw [Bool.eq_iff_iff]; simp [formB]; try omega), al1 _ _⟩
  by_cases h2 : a = 2
  · subst h2
    go_enter Try.func109, Try.ntmps109
    go_wp2_with fail
    go_ret
    exact ⟨ret_bool (by rw [Bool.eq_iff_iff]; simp [formB]; try omega), al1 _ _⟩
  by_cases h3 : a = 3
  · subst h3
    by_cases hs : s.size = 0
    · have e := toList0 hs
      go_enter Try.func109, Try.ntmps109
      go_wp2_with fail
      go_ret
      exact ⟨ret_bool (by rw [Bool.eq_iff_iff]; simp only [formB]; simp [hs]; try omega), al1 _ _⟩
    · have e := toList1 hs
      go_enter Try.func109, Try.ntmps109
      go_wp2_with fail
      go_ret
      exact ⟨ret_bool (by rw [Bool.eq_iff_iff]; simp only [formB]; simp [hs]; try omega), al1 _ _⟩
  by_cases h4 : a = 4
  · subst h4
    by_cases hs : s.size = 0
    · have e := toList0 hs
      go_enter Try.func109, Try.ntmps109
      go_wp2_with fail
      go_ret
      exact ⟨ret_bool (by rw [Bool.eq_iff_iff]; simp only [formB]; simp [hs]; try omega), al1 _ _⟩
    · have e := toList1 hs
      go_enter Try.func109, Try.ntmps109
      go_wp2_with fail
      go_ret
      exact ⟨ret_bool (by rw [Bool.eq_iff_iff]; simp only [formB]; simp [hs]; try omega), al1 _ _⟩
  by_cases h5 : a = 5
  · subst h5
    by_cases hs : s.size = 0
    · have e := toList0 hs
      go_enter Try.func109, Try.ntmps109
      go_wp2_with fail
      go_ret
      exact ⟨ret_bool (by rw [Bool.eq_iff_iff]; simp only [formB]; simp [hs]; try omega), al1 _ _⟩
    · have e := toList1 hs
      go_enter Try.func109, Try.ntmps109
      go_wp2_with fail
      go_ret
      exact ⟨ret_bool (by rw [Bool.eq_iff_iff]; simp only [formB]; simp [hs]; try omega), al1 _ _⟩
  by_cases h6 : a = 6
  · subst h6
    by_cases hs : s.size = 0
    · have e := toList0 hs
      go_enter Try.func109, Try.ntmps109
      go_wp2_with fail
      go_ret
      exact ⟨ret_bool (by rw [Bool.eq_iff_iff]; simp only [formB]; simp [hs]; try omega), al1 _ _⟩
    · have e := toList1 hs
      go_enter Try.func109, Try.ntmps109
      go_wp2_with fail
      go_ret
      exact ⟨ret_bool (by rw [Bool.eq_iff_iff]; simp only [formB]; simp [hs]; try omega), al1 _ _⟩
  by_cases h7 : a = 7
  · subst h7
    by_cases hs : s.size = 0
    · have e := toList0 hs
      go_enter Try.func109, Try.ntmps109
      go_wp2_with fail
      go_ret
      exact ⟨ret_bool (by rw [Bool.eq_iff_iff]; simp only [formB]; simp [hs]; try omega), al1 _ _⟩
    · have e := toList1 hs
      go_enter Try.func109, Try.ntmps109
      go_wp2_with fail
      go_ret
      exact ⟨ret_bool (by rw [Bool.eq_iff_iff]; simp only [formB]; simp [hs]; try omega), al1 _ _⟩
  have r : formB a s m = false := by simp [formB, h1, h2, h3, h4, h5, h6, h7]
  rw [r]
  go_enter Try.func109, Try.ntmps109
  go_wp2_with fail
  go_ret
  exact ⟨rfl, al1 _ _⟩
set_option maxRecDepth 100000 in
set_option maxHeartbeats 4000000 in
theorem named_any (a : Int) (s : ByteArray) (p : Option Addr) (m c : Nat) (w : World) (hs : s.size ≤ 5000) :
    Calls Try.prog 110 #[.agg #[.int .i64 a, .string s, .slice p m c]] w fun e w' => e = .returned (.bool (namB a s)) ∧ Below w.heap.size w w' := by
  have hx : s.size ≤ maxLen := by unfold maxLen; omega
  by_cases h1 : a = 1
  · subst h1
    have T := fun w => term_any s w hx
    have r : namB 1 s = isTermB s := rfl
    rw [r]
    generalize isTermB s = B at *
    go_enter Try.func110, Try.ntmps110
    go_wp2_with fail
    refine (T _).mono ?_
    rintro e w' ⟨rfl, rfl⟩
    go_wp2_with fail
    go_ret
    exact ⟨rfl, al1 _ _⟩
  by_cases h2 : a = 2
  · subst h2
    have T := fun w => name_any s w hx
    have r : namB 2 s = isNameB s := rfl
    rw [r]
    generalize isNameB s = B at *
    go_enter Try.func110, Try.ntmps110
    go_wp2_with fail
    refine (T _).mono ?_
    rintro e w' ⟨rfl, rfl⟩
    go_wp2_with fail
    go_ret
    exact ⟨rfl, al1 _ _⟩
  have r : namB a s = true := by simp [namB, h1, h2]
  rw [r]
  go_enter Try.func110, Try.ntmps110
  go_wp2_with fail
  go_ret
  exact ⟨rfl, al1 _ _⟩
set_option maxRecDepth 100000 in
set_option maxHeartbeats 4000000 in
theorem marks_any (a : Int) (w : World) :
    Calls Try.prog 102 #[.int .i64 a] w fun e w' => e = .returned (.tuple #[.string ⟨(bef a).toArray⟩, .string ⟨(btw a).toArray⟩, .string ⟨(beh a).toArray⟩]) ∧ w' = w := by
  by_cases h1 : a = 1
  · subst h1
    go_enter Try.func102, Try.ntmps102
    go_wp2_with fail
    exact bodyPost_ret (v := .tuple #[.string ⟨(bef 1).toArray⟩, .string ⟨(btw 1).toArray⟩, .string ⟨(beh 1).toArray⟩]) (by simp [results, Try.results102, go_sem, bef, btw, beh]) rfl ⟨rfl, rfl⟩
  by_cases h3 : a = 3
  · subst h3
    go_enter Try.func102, Try.ntmps102
    go_wp2_with fail
    exact bodyPost_ret (v := .tuple #[.string ⟨(bef 3).toArray⟩, .string ⟨(btw 3).toArray⟩, .string ⟨(beh 3).toArray⟩]) (by simp [results, Try.results102, go_sem, bef, btw, beh]) rfl ⟨rfl, rfl⟩
  by_cases h4 : a = 4
  · subst h4
    go_enter Try.func102, Try.ntmps102
    go_wp2_with fail
    exact bodyPost_ret (v := .tuple #[.string ⟨(bef 4).toArray⟩, .string ⟨(btw 4).toArray⟩, .string ⟨(beh 4).toArray⟩]) (by simp [results, Try.results102, go_sem, bef, btw, beh]) rfl ⟨rfl, rfl⟩
  by_cases h5 : a = 5
  · subst h5
    go_enter Try.func102, Try.ntmps102
    go_wp2_with fail
    exact bodyPost_ret (v := .tuple #[.string ⟨(bef 5).toArray⟩, .string ⟨(btw 5).toArray⟩, .string ⟨(beh 5).toArray⟩]) (by simp [results, Try.results102, go_sem, bef, btw, beh]) rfl ⟨rfl, rfl⟩
  by_cases h6 : a = 6
  · subst h6
    go_enter Try.func102, Try.ntmps102
    go_wp2_with fail
    exact bodyPost_ret (v := .tuple #[.string ⟨(bef 6).toArray⟩, .string ⟨(btw 6).toArray⟩, .string ⟨(beh 6).toArray⟩]) (by simp [results, Try.results102, go_sem, bef, btw, beh]) rfl ⟨rfl, rfl⟩
  by_cases h7 : a = 7
  · subst h7
    go_enter Try.func102, Try.ntmps102
    go_wp2_with fail
    exact bodyPost_ret (v := .tuple #[.string ⟨(bef 7).toArray⟩, .string ⟨(btw 7).toArray⟩, .string ⟨(beh 7).toArray⟩]) (by simp [results, Try.results102, go_sem, bef, btw, beh]) rfl ⟨rfl, rfl⟩
  have r1 : bef a = [] := by simp [bef, h1, h5, h6, h7]
  have r2 : btw a = [] := by simp [btw, h3, h4]
  have r3 : beh a = [] := by simp [beh, h1, h5, h6, h7]
  rw [r1, r2, r3]
  go_enter Try.func102, Try.ntmps102
  go_wp2_with fail
  exact bodyPost_ret (v := .tuple #[.string ⟨#[]⟩, .string ⟨#[]⟩, .string ⟨#[]⟩]) (by simp [results, Try.results102, go_sem]) rfl ⟨rfl, rfl⟩
end Go.Proofs.Ytcanphhmflbdmac

/- Worlds that have more in them; expressions in them. -/
namespace Go.Proofs.Ytcanphhmflbdmac
open Go.RowKit
/-- A region that draws its order, whose operations read and whose calls make memory of their own alone. -/
theorem region_quiet_lit {P : Program} {id : Nat} {Q : Exit → Act → World → Prop} {a : Act} {w : World} {l : List Oper} {C : World → Prop} (hm : P.follows .mixedOrders = true) (hB : Region.lexB .any l.toArray = true) (hC : C { w with drawn := w.drawn + 1 })
    (h : wpQuiet P l.toArray C (fun a' => ∀ w', C w' → Q .normal a' w') l a) : (Code.region id l.toArray true).wp P Q a w :=
  wp_region_quiet hm hB hC (by simpa using h)
/-- A world in which all is as it was, and some is new. -/
structure Wd (w : World) where
  u : World
  h : Below w.heap.size w u
theorem Wd.drawn (w : World) : ∃ z : Wd w, { w with drawn := w.drawn + 1 } = z.u := ⟨⟨{ w with drawn := w.drawn + 1 }, ⟨rfl, rfl, rfl, Nat.le_refl _, fun _ _ => rfl⟩⟩, rfl⟩
theorem Wd.ne (w : World) : Nonempty (Wd w) := ⟨⟨w, Below.refl _ _⟩⟩
theorem Wd.cell {w : World} (x : Wd w) {b o : Nat} {v : Value} (h : w.cell? ⟨b, o, none⟩ = some v) : x.u.cell? ⟨b, o, none⟩ = some v := by
  rw [x.h.cell (p := ⟨b, o, none⟩) (lt_of_cell h)]; exact h
theorem calls_wd {P : Program} {f : FuncId} {args : Array Value} {w : World} {x : Wd w} {v : Value} (h : Calls P f args x.u fun e w' => e = .returned v ∧ Below x.u.heap.size x.u w') :
    Calls P f args x.u fun e w'' => e = .returned v ∧ ∃ y : Wd w, w'' = y.u :=
  h.mono fun _ _ ⟨he, hb⟩ => ⟨he, ⟨_, x.h.trans (hb.mono x.h.size)⟩, rfl⟩
abbrev All : Nat → Prop := fun _ => True
theorem XV.below {w w' : World} {S : Nat → Prop} {v : Value} {x : Xp} (h : XV w S v x) (hb : Below w.heap.size w w') : XV w' S v x := h.kp (Kp.of_below hb) (fun _ _ h => h)
theorem FoV.below {w w' : World} {S : Nat → Prop} {v : Value} {x : Fo} (h : FoV w S v x) (hb : Below w.heap.size w w') : FoV w' S v x := h.kp (Kp.of_below hb) (fun _ _ h => h)
theorem XIn.xv {w : World} {S : Nat → Prop} {x : Xp} {b o : Nat} (h : XIn w S x b o) : ∃ u, w.cell? ⟨b, o, none⟩ = some (.int .i64 x.op) ∧ w.cell? ⟨b, o + 1, none⟩ = some (.string x.nm) ∧ w.cell? ⟨b, o + 2, none⟩ = some u ∧ XV w S (.agg #[.int .i64 x.op, .string x.nm, u]) x :=
  let ⟨h1, h2, u, h3, h4⟩ := h
  ⟨u, h1, h2, h3, u, rfl, h4⟩
end Go.Proofs.Ytcanphhmflbdmac

/- What package render goes through expressions for: parts, open brackets, faults. -/
namespace Go.Proofs.Ytcanphhmflbdmac
open Go.RowKit
theorem own_le (op : Int) (n : Nat) (h : n ≤ 9223372036854775807) : ((own op n : Nat) : Int) ≤ 9223372036854775806 := by
  unfold own; (repeat' split) <;> omega
theorem alcell {wr : World} {b o : Nat} {v : Value} (h : wr.cell? ⟨b, o, none⟩ = some v) (ob : Obj) : (wr.alloc ob).cell? ⟨b, o, none⟩ = some v := by
  rw [(al1 wr ob).cell (p := ⟨b, o, none⟩) (lt_of_cell h)]; exact h
theorem bkeep {w w' : World} (h : Below w.heap.size w w') {b o : Nat} {v : Value} (hc : w.cell? ⟨b, o, none⟩ = some v) : w'.cell? ⟨b, o, none⟩ = some v := by
  rw [h.cell (p := ⟨b, o, none⟩) (lt_of_cell hc)]; exact hc
def PlOK (x : Xp) : Prop := ∀ (z : Int) (va : Value) (w : World), XV w All va x → -1 ≤ z → z ≤ 60 →
  Calls Try.prog 98 #[va, .int .i64 z] w fun e w' => ∃ q : Int, e = .returned (.int .i64 q) ∧ (0 ≤ q → q = z - x.pts) ∧ (q < 0 → z < x.pts) ∧ q ≤ 60 ∧ Below w.heap.size w w'
set_option maxRecDepth 100000 in
set_option maxHeartbeats 4000000 in
theorem pl_head (x : Xp) (ih : ∀ i, i < x.kids.len → PlOK (x.kids.at_ i)) : PlOK x := by
  intro z va w hx hz0 hz1
  obtain ⟨u, rfl, hl, ao, cap, rfl, hin⟩ := hx
  obtain ⟨W, hW⟩ : ∃ W, W = w.alloc (.cells #[.int .i64 x.op, .string x.nm, .slice ao x.kids.len cap] 64) := ⟨_, rfl⟩
  have hWz : W.heap.size = w.heap.size + 1 := by rw [hW]; simp
  have hWb : Below w.heap.size w W := by rw [hW]; exact (Below.refl _ _).alloc (Nat.le_refl _) _
  have hW0 : W.cell? ⟨w.heap.size, 0, none⟩ = some (.int .i64 x.op) := by rw [hW]; simp
  have hW1 : W.cell? ⟨w.heap.size, 1, none⟩ = some (.string x.nm) := by rw [hW]; simp
  have hW2 : W.cell? ⟨w.heap.size, 2, none⟩ = some (.slice ao x.kids.len cap) := by rw [hW]; simp
  have ho := own_le x.op x.kids.len hl
  have OP := fun w => ownParts_any x.op x.nm ao x.kids.len cap w hl
  have hpt : Hid (x.pts = own x.op x.kids.len + x.kids.pts x.op) := hd rfl
  generalize x.pts = XP at *
  generalize own x.op x.kids.len = o at *
  go_enter Try.func98, Try.ntmps98
  go_wp2_with fail
  refine (OP _).mono ?_
  rintro e w1 ⟨rfl, hb1⟩
  rw [← hW] at hb1
  have HW := hd hW
  clear hW
  have z1 := hb1.size
  have e0 : w1.cell? ⟨w.heap.size, 0, none⟩ = some (.int .i64 x.op) := by rw [hb1.cell (p := ⟨w.heap.size, 0, none⟩) (by simp; omega)]; exact hW0
  have e1 : w1.cell? ⟨w.heap.size, 1, none⟩ = some (.string x.nm) := by rw [hb1.cell (p := ⟨w.heap.size, 1, none⟩) (by simp; omega)]; exact hW1
  have e2 : w1.cell? ⟨w.heap.size, 2, none⟩ = some (.slice ao x.kids.len cap) := by rw [hb1.cell (p := ⟨w.heap.size, 2, none⟩) (by simp; omega)]; exact hW2
  have bel1 : Below w.heap.size w w1 := hWb.trans (hb1.mono (by omega))
  clear hW0 hW1 hW2 hWb hb1
  go_wp2_with fail
  go_loopw [1, 14] (fun a i wr => ∃ (k : Nat) (q : Int), k ≤ x.kids.len ∧ i = .int .i64 k ∧ a = .int .i64 q ∧ q ≤ 60 ∧ (0 ≤ q → q - (x.kids.drp k).pts x.op = z - XP) ∧ (q < 0 → z < XP) ∧ Below w1.heap.size w1 wr) (fun _ i _ => x.kids.len - (intOf i).toNat)
  case atStart =>
    refine ⟨0, z - o, Nat.zero_le _, rfl, rfl, by omega, ?_, ?_, Below.refl _ _⟩
    · rw [Fo.drp_zero]; have := hpt.out; omega
    · have := hpt.out; omega
  case round =>
    obtain ⟨k, q, hk, rfl, rfl, hq1, hqa, hqb, hb⟩ := hrel
    have hz := hb.size
    have bel : Below w.heap.size w wr := bel1.trans (hb.mono bel1.size)
    have s0 : wr.cell? ⟨w.heap.size, 0, none⟩ = some (.int .i64 x.op) := by rw [hb.cell (p := ⟨w.heap.size, 0, none⟩) (lt_of_cell e0)]; exact e0
    have s1 : wr.cell? ⟨w.heap.size, 1, none⟩ = some (.string x.nm) := by rw [hb.cell (p := ⟨w.heap.size, 1, none⟩) (lt_of_cell e1)]; exact e1
    have s2 : wr.cell? ⟨w.heap.size, 2, none⟩ = some (.slice ao x.kids.len cap) := by rw [hb.cell (p := ⟨w.heap.size, 2, none⟩) (lt_of_cell e2)]; exact e2
    by_cases hlt : k < x.kids.len
    · obtain h0 | ⟨ba, oa, rfl, hia⟩ := hin
      · omega
      have kA : ∀ b o v, All b → w.cell? ⟨b, o, none⟩ = some v → All b ∧ wr.cell? ⟨b, o, none⟩ = some v := keep_cell (fun _ _ h => h) (Kp.of_below bel).block
      obtain ⟨ua, a0, a1, a2, hxa⟩ := ((hia.mono kA).at_ k hlt).xv
      have hxa' := hxa
      obtain ⟨_, e, _, aoa', capa', rfl, _⟩ := hxa'
      simp at e; subst e
      have IH := ih k hlt
      have hpa := Fo.pts_at x.op hlt
      have hrn : rn1 x.op (x.kids.at_ k).op = if rnd x.op (x.kids.at_ k).op = true then 1 else 0 := rfl
      have RD := fun w => rounded_any (x.kids.at_ k).op x.op (x.kids.at_ k).nm x.nm aoa' (some ⟨ba, oa, none⟩) (x.kids.at_ k).kids.len x.kids.len capa' cap w
      have HLT := hd hlt
      generalize x.kids.at_ k = xk at *
      obtain ⟨ob, hob⟩ : ∃ ob : Obj, ob = .cells #[.int .i64 xk.op, .string xk.nm, .slice aoa' xk.kids.len capa'] 64 := ⟨_, rfl⟩
      have t0 := alcell s0 ob
      have t1 := alcell s1 ob
      have t2 := alcell s2 ob
      have y0 : (wr.alloc ob).cell? ⟨wr.heap.size, 0, none⟩ = some (.int .i64 xk.op) := by rw [hob]; simp
      have y1 : (wr.alloc ob).cell? ⟨wr.heap.size, 1, none⟩ = some (.string xk.nm) := by rw [hob]; simp
      have y2 : (wr.alloc ob).cell? ⟨wr.heap.size, 2, none⟩ = some (.slice aoa' xk.kids.len capa') := by rw [hob]; simp
      have bz : Below w1.heap.size w1 (wr.alloc ob) := hb.trans ((al1 wr ob).mono hb.size)
      have hxz := hxa.below (al1 wr ob)
      by_cases hq : q < 0
      · subst hob
        go_wp2_with fail
        go_ret
        exact ⟨q, rfl, fun h => by omega, hqb, hq1, bel1.trans (bz.mono bel1.size)⟩
      · subst hob
        go_wp2_with fail
        refine (RD _).mono ?_
        rintro e w2 ⟨rfl, hb2⟩
        have r0 := bkeep hb2 y0
        have r1 := bkeep hb2 y1
        have r2 := bkeep hb2 y2
        have hx2 := hxz.below hb2
        have bel2 : Below w1.heap.size w1 w2 := bz.trans (hb2.mono bz.size)
        clear bz hxz y0 y1 y2 t0 t1 t2 hb2 RD
        cases hB : rnd x.op xk.op with
        | true =>
          rw [hB] at hrn
          simp only [if_true] at hrn
          go_wp2_with fail
          refine (IH _ _ _ hx2 (by omega) (by omega)).mono ?_
          rintro e w3 ⟨q', rfl, i1, i2, i3, hb3⟩
          go_wp2_with fail
          go_roundw
          case rel => exact ⟨k + 1, q', by omega, by go_num, rfl, i3, by omega, by omega, bel2.trans (hb3.mono bel2.size)⟩
          case measure => simp [intOf]; omega
        | false =>
          rw [hB] at hrn
          simp only [Bool.false_eq_true, if_false] at hrn
          go_wp2_with fail
          refine (IH _ _ _ hx2 (by omega) (by omega)).mono ?_
          rintro e w3 ⟨q', rfl, i1, i2, i3, hb3⟩
          go_wp2_with fail
          go_roundw
          case rel => exact ⟨k + 1, q', by omega, by go_num, rfl, i3, by omega, by omega, bel2.trans (hb3.mono bel2.size)⟩
          case measure => simp [intOf]; omega
    · rw [Fo.drp_end (by omega)] at hqa
      simp only [Fo.pts] at hqa
      go_wp2_with fail
      go_ret
      exact ⟨q, rfl, by omega, hqb, hq1, bel⟩
theorem pl_all : ∀ (f : Fo) (i : Nat), i < f.len → PlOK (f.at_ i)
  | .nil, _, h => absurd h (Nat.not_lt_zero _)
  | .cons op nm kids _, 0, _ => pl_head ⟨op, nm, kids⟩ (pl_all kids)
  | .cons _ _ _ rest, i + 1, h => pl_all rest i (by simpa [Fo.len] using h)
theorem pl_any (x : Xp) : PlOK x := pl_head x (pl_all x.kids)
end Go.Proofs.Ytcanphhmflbdmac

/- The document's own scan comes to what 'scan' reckons. -/
namespace Go.Proofs.Ytcanphhmflbdmac
open Go.RowKit

theorem one3 (a b : Int) (t : ByteArray) : ∀ u ∈ [Value.int .i64 a, Value.int .i64 b, Value.string t], u.oneCell' = true := by
  intro u hu; simp at hu; rcases hu with rfl | rfl | rfl <;> rfl
end Go.Proofs.Ytcanphhmflbdmac

/- Two lists of tokens that hold the same. -/
namespace Go.Proofs.Ytcanphhmflbdmac
open Go.RowKit

theorem cellsOf_get (l : List Tk) (k : Nat) (h : k < l.length) : (cellsOf l)[k * 3]? = some (.int .i64 l[k].k) ∧ (cellsOf l)[k * 3 + 1]? = some (.int .i64 l[k].at_) ∧ (cellsOf l)[k * 3 + 2]? = some (.string l[k].t) := by
  induction l generalizing k with
  | nil => simp at h
  | cons x l ih =>
    cases k with
    | zero => simp [cellsOf, Tk.cs]
    | succ k =>
      have := ih k (by simpa using h)
      have e : cellsOf (x :: l) = .int .i64 x.k :: .int .i64 x.at_ :: .string x.t :: cellsOf l := rfl
      rw [e, show (k + 1) * 3 = k * 3 + 1 + 1 + 1 from by omega]
      simpa using this
/-- A row of tokens, as a walk reads it. -/
structure Toks (w : World) (g : Nat) (l : List Tk) : Prop where
  c0 : ∀ k (h : k < l.length), w.cell? ⟨g, k * 3, none⟩ = some (.int .i64 l[k].k)
  c1 : ∀ k (h : k < l.length), w.cell? ⟨g, k * 3 + 1, none⟩ = some (.int .i64 l[k].at_)
  c2 : ∀ k (h : k < l.length), w.cell? ⟨g, k * 3 + 2, none⟩ = some (.string l[k].t)
theorem owns_shape {w : World} {base : Nat} {e : TypeId} {v : Value} {l : List Tk} (h : w.ownsRow base e 3 v l.length (cellsOf l)) :
    (∃ ao cap, v = .slice ao l.length cap ∧ l.length = 0) ∨ (∃ g cap, v = .slice (some ⟨g, 0, none⟩) l.length cap ∧ base ≤ g ∧ g < w.heap.size ∧ Toks w g l) := by
  have h0 := h
  obtain ⟨h1, h2 | ⟨g, cap, cur, e1, e2, e3, e4⟩⟩ := h
  · exact .inl ⟨none, 0, by rw [h2.1, h2.2], h2.2⟩
  · right
    subst e1
    refine ⟨g, cap, rfl, e2, (h0.lt g rfl).2, ?_⟩
    have hc := fun j hj => World.ownsRow.cellAt h0 j hj
    constructor
    · intro k hk; rw [hc _ (by omega)]; exact (cellsOf_get l k hk).1
    · intro k hk; rw [hc _ (by omega)]; exact (cellsOf_get l k hk).2.1
    · intro k hk; rw [hc _ (by omega)]; exact (cellsOf_get l k hk).2.2

theorem drewN_add (w : World) (m n : Nat) : (w.drewN m).drewN n = w.drewN (m + n) := by
  simp [World.drewN, Nat.add_assoc]
end Go.Proofs.Ytcanphhmflbdmac

/- The reader that gives up by a panic: its state, and its small functions. -/
namespace Go.Proofs.Ytcanphhmflbdmac
open Go.RowKit

/-- The reader's cells: the tokens, the next one, the end, the parts, the open ones, no fault. -/
structure RdS (w : World) (r : Nat) (ao : Option Addr) (cap : Nat) (l : List Tk) (en : Int) (n p o : Nat) : Prop where
  c0 : w.cell? ⟨r, 0, none⟩ = some (.slice ao l.length cap)
  c1 : w.cell? ⟨r, 1, none⟩ = some (.int .i64 n)
  c2 : w.cell? ⟨r, 2, none⟩ = some (.int .i64 en)
  c3 : w.cell? ⟨r, 3, none⟩ = some (.int .i64 p)
  c4 : w.cell? ⟨r, 4, none⟩ = some (.int .i64 o)
  c5 : w.cell? ⟨r, 5, none⟩ = some (.int .i64 0)
  c6 : w.cell? ⟨r, 6, none⟩ = some (.int .i64 0)
  fz : ∀ i, w.frozen? ⟨r, i, none⟩ = false
  sz : r < w.heap.size
  ln : l.length ≤ 6000
  nl : n ≤ l.length
  pl : p ≤ 60
  ol : o ≤ 40
  tk : l.length = 0 ∨ ∃ g, ao = some ⟨g, 0, none⟩ ∧ g ≠ r ∧ g < w.heap.size ∧ Toks w g l
theorem Toks.but {r : Nat} {w w' : World} {g : Nat} {l : List Tk} (h : Toks w g l) (hb : But r w w') (hg : g < w.heap.size) (hr : g ≠ r) : Toks w' g l :=
  ⟨fun k hk => by rw [hb.cell hg hr]; exact h.c0 k hk, fun k hk => by rw [hb.cell hg hr]; exact h.c1 k hk, fun k hk => by rw [hb.cell hg hr]; exact h.c2 k hk⟩
theorem RdS.tk_but {r : Nat} {w w' : World} {ao : Option Addr} {l : List Tk} (h : l.length = 0 ∨ ∃ g, ao = some ⟨g, 0, none⟩ ∧ g ≠ r ∧ g < w.heap.size ∧ Toks w g l) (hb : But r w w') :
    l.length = 0 ∨ ∃ g, ao = some ⟨g, 0, none⟩ ∧ g ≠ r ∧ g < w'.heap.size ∧ Toks w' g l :=
  h.imp id fun ⟨g, e, hr, hg, t⟩ => ⟨g, e, hr, Nat.lt_of_lt_of_le hg hb.size, t.but hb hg hr⟩
/-- The reader's state in a world in which its own block is as it was. -/
theorem RdS.keep {r : Nat} {w w' : World} {ao : Option Addr} {cap : Nat} {l : List Tk} {en : Int} {n p o : Nat} (h : RdS w r ao cap l en n p o) (hb : Below w.heap.size w w') : RdS w' r ao cap l en n p o := by
  have hc : ∀ i, w'.cell? ⟨r, i, none⟩ = w.cell? ⟨r, i, none⟩ := fun i => hb.cell (p := ⟨r, i, none⟩) h.sz
  exact ⟨by rw [hc]; exact h.c0, by rw [hc]; exact h.c1, by rw [hc]; exact h.c2, by rw [hc]; exact h.c3, by rw [hc]; exact h.c4, by rw [hc]; exact h.c5, by rw [hc]; exact h.c6, fun i => by rw [hb.frozen (p := ⟨r, i, none⟩) h.sz]; exact h.fz i, Nat.lt_of_lt_of_le h.sz hb.size, h.ln, h.nl, h.pl, h.ol, RdS.tk_but h.tk (But.of_below hb)⟩
/-- It has given up. -/
def Pan (r : Nat) (c a : Int) (w : World) (e : Ending) (w' : World) : Prop :=
  e = .panicked [{ v := .iface 29 (.agg #[.int .i64 c, .int .i64 a]), recovered := false }] ∧ w'.cell? ⟨r, 5, none⟩ = some (.int .i64 c) ∧ w'.cell? ⟨r, 6, none⟩ = some (.int .i64 a) ∧ But r w w'
theorem beq_str (s t : ByteArray) : (s.toList == t.toList) = decide (s = t) := by
  rw [ByteArray.toList_eq, ByteArray.toList_eq]
  by_cases h : s = t
  · subst h; simp
  · have : s.data ≠ t.data := fun e => h (by cases s; cases t; simp at e; rw [e])
    simp [h, this]
theorem beq_one (s : ByteArray) (c : UInt8) : (s.toList == [c]) = decide (s = ⟨#[c]⟩) := by
  have := beq_str s ⟨#[c]⟩
  rw [ByteArray.toList_eq ⟨#[c]⟩] at this
  exact this
section
variable {r : Nat} {ao : Option Addr} {cap : Nat} {l : List Tk} {en : Int} {n p o : Nat} {w : World}
theorem below_drewN0 {B : Nat} {a w : World} (h : Below B a w) (n : Nat) : Below B a (w.drewN n) := ⟨h.os, h.tape, h.output, h.size, h.block⟩
theorem RdS.setNext (h : RdS w r ao cap l en n p o) (hn : n < l.length) : RdS (w.setCell ⟨r, 1, none⟩ (.int .i64 ((n + 1 : Nat) : Int))) r ao cap l en (n + 1) p o := by
  obtain ⟨c0, c1, c2, c3, c4, c5, c6, fz, sz, ln, nl, pl, ol, tk⟩ := h
  exact ⟨by simp [go_sem, c0], by simp [go_sem, c1], by simp [go_sem, c2], by simp [go_sem, c3], by simp [go_sem, c4], by simp [go_sem, c5], by simp [go_sem, c6], by simp [go_sem, fz], by simpa [World.setCell] using sz, ln, hn, pl, ol, RdS.tk_but tk ((But.refl r w).setCell (.inl rfl) _)⟩
theorem RdS.setParts (h : RdS w r ao cap l en n p o) {q : Nat} (hn : q ≤ 60) : RdS (w.setCell ⟨r, 3, none⟩ (.int .i64 (q : Int))) r ao cap l en n q o := by
  obtain ⟨c0, c1, c2, c3, c4, c5, c6, fz, sz, ln, nl, pl, ol, tk⟩ := h
  exact ⟨by simp [go_sem, c0], by simp [go_sem, c1], by simp [go_sem, c2], by simp [go_sem, c3], by simp [go_sem, c4], by simp [go_sem, c5], by simp [go_sem, c6], by simp [go_sem, fz], by simpa [World.setCell] using sz, ln, nl, hn, ol, RdS.tk_but tk ((But.refl r w).setCell (.inl rfl) _)⟩
theorem RdS.setOpen (h : RdS w r ao cap l en n p o) {q : Nat} (hn : q ≤ 40) : RdS (w.setCell ⟨r, 4, none⟩ (.int .i64 (q : Int))) r ao cap l en n p q := by
  obtain ⟨c0, c1, c2, c3, c4, c5, c6, fz, sz, ln, nl, pl, ol, tk⟩ := h
  exact ⟨by simp [go_sem, c0], by simp [go_sem, c1], by simp [go_sem, c2], by simp [go_sem, c3], by simp [go_sem, c4], by simp [go_sem, c5], by simp [go_sem, c6], by simp [go_sem, fz], by simpa [World.setCell] using sz, ln, nl, pl, hn, RdS.tk_but tk ((But.refl r w).setCell (.inl rfl) _)⟩
theorem RdS.drew_ (h : RdS w r ao cap l en n p o) (m : Nat) : RdS (w.drewN m) r ao cap l en n p o := h.keep (below_drewN0 (Below.refl _ _) m)
end
end Go.Proofs.Ytcanphhmflbdmac

/- Brackets and items: the reader's own functions. -/
namespace Go.Proofs.Ytcanphhmflbdmac
open Go.RowKit

section
variable (r : Nat) (ao : Option Addr) (cap : Nat) (l : List Tk) (en : Int)
/-- How the reading of an expression ends. -/
def OutX (o : Nat) (w : World) (res : Res Xp) (e : Ending) (w' : World) : Prop :=
  match res with
  | .ok x n p => ∃ v, e = .returned v ∧ XV w' (fun k => w.heap.size ≤ k) v x ∧ RdS w' r ao cap l en n p o ∧ But r w w'
  | .err c a => Pan r c a w e w'
  | .out => False
def OutI (o : Nat) (w : World) (res : Res (Option Xp)) (e : Ending) (w' : World) : Prop :=
  match res with
  | .ok none n p => e = .returned (.tuple #[.agg #[.int .i64 0, .string ⟨#[]⟩, .slice none 0 0], .bool false]) ∧ RdS w' r ao cap l en n p o ∧ But r w w'
  | .ok (some x) n p => ∃ v, e = .returned (.tuple #[v, .bool true]) ∧ XV w' (fun k => w.heap.size ≤ k) v x ∧ RdS w' r ao cap l en n p o ∧ But r w w'
  | .err c a => Pan r c a w e w'
  | .out => False
end
theorem But.bcell {r : Nat} {W w1 : World} (hb : But r W w1) : (∀ b o, b < W.heap.size → ¬ b = r → w1.cell? ⟨b, o, none⟩ = W.cell? ⟨b, o, none⟩) ∧ (∀ b o, b < W.heap.size → ¬ b = r → w1.frozen? ⟨b, o, none⟩ = W.frozen? ⟨b, o, none⟩) :=
  ⟨fun _ _ h h' => hb.cell h h', fun _ _ h h' => hb.frozen h h'⟩
theorem Pan.but {r : Nat} {c a : Int} {w w1 : World} {e : Ending} {w' : World} (h : Pan r c a w1 e w') (hb : But r w w1) : Pan r c a w e w' :=
  ⟨h.1, h.2.1, h.2.2.1, hb.trans h.2.2.2⟩
section
variable {r : Nat} {ao : Option Addr} {cap : Nat} {l : List Tk} {en : Int} {n p o : Nat} {w : World}
theorem RdS.alloc_ (h : RdS w r ao cap l en n p o) (x : Obj) : RdS (w.alloc x) r ao cap l en n p o := h.keep ((Below.refl _ _).alloc (Nat.le_refl _) _)
theorem RdS.off (h : RdS w r ao cap l en n p o) {q : Addr} (hq : q.block ≠ r) (hg : ∀ g, ao = some ⟨g, 0, none⟩ → l.length = 0 ∨ q.block ≠ g) (u : Value) : RdS (w.setCell q u) r ao cap l en n p o := by
  have hc : ∀ b i, b ≠ q.block → (w.setCell q u).cell? ⟨b, i, none⟩ = w.cell? ⟨b, i, none⟩ := fun b i hb => World.cell?_of_block (w := w) (a := ⟨b, i, none⟩) (Below.heap_setCell _ _ _ _ hb)
  have hf : ∀ b i, b ≠ q.block → (w.setCell q u).frozen? ⟨b, i, none⟩ = w.frozen? ⟨b, i, none⟩ := fun b i hb => World.frozen?_of_block (w := w) (a := ⟨b, i, none⟩) (Below.heap_setCell _ _ _ _ hb)
  have hr := Ne.symm hq
  refine ⟨by rw [hc _ _ hr]; exact h.c0, by rw [hc _ _ hr]; exact h.c1, by rw [hc _ _ hr]; exact h.c2, by rw [hc _ _ hr]; exact h.c3, by rw [hc _ _ hr]; exact h.c4, by rw [hc _ _ hr]; exact h.c5, by rw [hc _ _ hr]; exact h.c6, fun i => by rw [hf _ _ hr]; exact h.fz i, by simpa [World.setCell] using h.sz, h.ln, h.nl, h.pl, h.ol, ?_⟩
  rcases h.tk with h0 | ⟨g, e, h1, h2, t⟩
  · exact .inl h0
  · rcases hg g e with h3 | h3
    · exact .inl h3
    · exact .inr ⟨g, e, h1, by simpa [World.setCell] using h2, fun k hk => by rw [hc _ _ (Ne.symm h3)]; exact t.c0 k hk, fun k hk => by rw [hc _ _ (Ne.symm h3)]; exact t.c1 k hk, fun k hk => by rw [hc _ _ (Ne.symm h3)]; exact t.c2 k hk⟩
end
end Go.Proofs.Ytcanphhmflbdmac

/- Items: the reader's own function. -/
namespace Go.Proofs.Ytcanphhmflbdmac
open Go.RowKit
section
variable {r : Nat} {ao : Option Addr} {cap : Nat} {l : List Tk} {en : Int} {n p o : Nat} {w : World}
theorem FoV_none (W : World) (T : Nat → Prop) : FoV W T (.slice none 0 0) .nil := ⟨by simp [Fo.len], none, 0, rfl, .inl rfl⟩
theorem RdS.hao (h : RdS w r ao cap l en n p o) : ∀ b, w.heap.size ≤ b → ∀ g, ao = some ⟨g, 0, none⟩ → l.length = 0 ∨ b ≠ g := fun b hb g e => by
  rcases h.tk with h0 | ⟨g', e', h1', h2', _⟩
  · exact .inl h0
  · rw [e] at e'; cases e'; right; omega
end
end Go.Proofs.Ytcanphhmflbdmac

/- Rows and alternatives: the reader's own functions. -/
namespace Go.Proofs.Ytcanphhmflbdmac
open Go.RowKit
theorem Try.infoExpr : (Try.prog.info? 64).map (fun i => (i.zero, i.size, i.bytes)) = some (some (.agg #[.int .i64 0, .string ⟨#[]⟩, .slice none 0 0]), 3, 48) := by kernel_rfl
theorem cell3_new2 (w : World) (E : Obj) (v0 v1 v2 : Value) (t : TypeId) : ∀ j u, [v0, v1, v2][j]? = some u → ((w.alloc E).alloc (.cells #[v0, v1, v2] t)).cell? ((⟨w.heap.size + 1, 0, none⟩ : Addr).add j) = some u := by
  have := cell3_new (w.alloc E) v0 v1 v2 t
  rw [World.size_alloc] at this
  exact this
theorem oneX (a : Int) (t : ByteArray) (ao : Option Addr) (n c : Nat) : ∀ u ∈ [Value.int .i64 a, Value.string t, Value.slice ao n c], u.oneCell' = true := by
  intro u hu; simp at hu; rcases hu with rfl | rfl | rfl <;> rfl
/-- One expression more at the end of a row that the call owns. -/
theorem FoC_step {wr w1 w3 : World} {base g : Nat} {v v' : Value} {xs : List Value} {acc : Fo} {x : Xp} {u : Value}
    (hc : FoC wr (fun q => base ≤ q ∧ v.ownBlock ≠ some q) xs acc) (hu : FoV w1 (fun k => wr.heap.size ≤ k) u x.kids) (hbase : base ≤ wr.heap.size) (hz : w1.heap.size ≤ g)
    (k1 : Kp (fun q => base ≤ q ∧ v.ownBlock ≠ some q) wr w3) (k2 : Kp (fun k => wr.heap.size ≤ k) w1 w3) (hv : ∀ q, v.ownBlock = some q → q < wr.heap.size) (hzz : wr.heap.size ≤ w1.heap.size)
    (hat : v'.ownBlock = v.ownBlock ∨ v'.ownBlock = some g) : FoC w3 (fun q => base ≤ q ∧ v'.ownBlock ≠ some q) (xs ++ [.int .i64 x.op, .string x.nm, u]) (acc.snoc x) := by
  refine FoC.snoc ?_ ?_
  · refine hu.kp k2 fun q hq hs => ⟨by omega, fun e => ?_⟩
    rcases hat with h | h
    · have := hv q (h ▸ e); omega
    · rw [h] at e; cases e; omega
  · refine hc.kp k1 fun q hq hs => ⟨hs.1, fun e => ?_⟩
    rcases hat with h | h
    · exact hs.2 (h ▸ e)
    · rw [h] at e; cases e; omega
theorem FoC_one {w : World} {S : Nat → Prop} {xs : List Value} {f : Fo} (h : FoC w S xs f) (h1 : f.len = 1) : ∃ u, xs = [.int .i64 (f.at_ 0).op, .string (f.at_ 0).nm, u] ∧ FoV w S u (f.at_ 0).kids := by
  match xs, f, h with
  | a :: b :: c :: xs, .cons op nm kids rest, ⟨e1, e2, e3, e4⟩ =>
    have : rest = .nil := Fo.len_zero (by simpa [Fo.len] using h1)
    subst this
    match xs, e4 with
    | [], _ => exact ⟨c, by rw [e1, e2]; rfl, e3⟩
    | [_], h => simp [FoC] at h
    | [_, _], h => simp [FoC] at h
    | _ :: _ :: _ :: _, h => simp [FoC] at h
  | [], .nil, _ => simp [Fo.len] at h1
theorem owns_slice {w : World} {base : Nat} {e : TypeId} {size : Nat} {v : Value} {n : Nat} {xs : List Value} (h : w.ownsRow base e size v n xs) : ∃ ao cap, v = .slice ao n cap := by
  obtain ⟨h1, h2 | ⟨g, cap, cur, e1, e2, e3, e4⟩⟩ := h
  · exact ⟨none, 0, by rw [h2.1, h2.2]⟩
  · exact ⟨_, _, e1⟩
theorem owns_first {w : World} {base : Nat} {e : TypeId} {v a b c : Value} (h : w.ownsRow base e 3 v 1 [a, b, c]) : ∃ g cap, v = .slice (some ⟨g, 0, none⟩) 1 cap ∧ base ≤ g ∧ g < w.heap.size ∧ w.cell? ⟨g, 0, none⟩ = some a ∧ w.cell? ⟨g, 1, none⟩ = some b ∧ w.cell? ⟨g, 2, none⟩ = some c := by
  have h0 := h
  obtain ⟨h1, h2 | ⟨g, cap, cur, e1, e2, e3, e4⟩⟩ := h
  · exact absurd h2.2 (by decide)
  · subst e1
    have hc := fun j hj => World.ownsRow.cellAt h0 j hj
    exact ⟨g, cap, rfl, e2, (h0.lt g rfl).2, by rw [hc 0 (by omega)]; rfl, by rw [hc 1 (by omega)]; rfl, by rw [hc 2 (by omega)]; rfl⟩
section
variable {r : Nat} {ao : Option Addr} {cap : Nat} {l : List Tk} {en : Int}
theorem RdS.kp {w w' : World} {n p o : Nat} {S : Nat → Prop} (h : RdS w r ao cap l en n p o) (hk : Kp S w w') (hr : S r) (hg : ∀ g, ao = some ⟨g, 0, none⟩ → l.length = 0 ∨ S g) : RdS w' r ao cap l en n p o := by
  have hc : ∀ b i, b < w.heap.size → S b → w'.cell? ⟨b, i, none⟩ = w.cell? ⟨b, i, none⟩ := fun b i hb hs => World.cell?_of_block (w := w) (a := ⟨b, i, none⟩) (hk.block b hb hs)
  have hf : ∀ b i, b < w.heap.size → S b → w'.frozen? ⟨b, i, none⟩ = w.frozen? ⟨b, i, none⟩ := fun b i hb hs => World.frozen?_of_block (w := w) (a := ⟨b, i, none⟩) (hk.block b hb hs)
  have sz := h.sz
  refine ⟨by rw [hc _ _ sz hr]; exact h.c0, by rw [hc _ _ sz hr]; exact h.c1, by rw [hc _ _ sz hr]; exact h.c2, by rw [hc _ _ sz hr]; exact h.c3, by rw [hc _ _ sz hr]; exact h.c4, by rw [hc _ _ sz hr]; exact h.c5, by rw [hc _ _ sz hr]; exact h.c6, fun i => by rw [hf _ _ sz hr]; exact h.fz i, Nat.lt_of_lt_of_le sz hk.size, h.ln, h.nl, h.pl, h.ol, ?_⟩
  rcases h.tk with h0 | ⟨g, e, h1, h2, t⟩
  · exact .inl h0
  · rcases hg g e with h3 | h3
    · exact .inl h3
    · exact .inr ⟨g, e, h1, Nat.lt_of_lt_of_le h2 hk.size, fun k hk' => by rw [hc _ _ h2 h3]; exact t.c0 k hk', fun k hk' => by rw [hc _ _ h2 h3]; exact t.c1 k hk', fun k hk' => by rw [hc _ _ h2 h3]; exact t.c2 k hk'⟩
theorem RdS.tkb {w : World} {n p o : Nat} (h : RdS w r ao cap l en n p o) : ∀ g, ao = some ⟨g, 0, none⟩ → l.length = 0 ∨ g < w.heap.size := fun g e => by
  rcases h.tk with h0 | ⟨g', e', h1', h2', _⟩
  · exact .inl h0
  · rw [e] at e'; cases e'; exact .inr h2'
theorem owns_lit (w : World) (a b c : Value) (t : TypeId) (base : Nat) (hb : base ≤ w.heap.size) : (w.alloc (.cells #[a, b, c] t)).ownsRow base t 3 (.slice (some ⟨w.heap.size, 0, none⟩) 1 1) 1 [a, b, c] :=
  ⟨rfl, .inr ⟨w.heap.size, 1, #[a, b, c], rfl, hb, by show (w.heap.push _)[w.heap.size]? = _; simp, Nat.le_refl _, by decide, rfl, rfl⟩⟩
end
end Go.Proofs.Ytcanphhmflbdmac

/- Definitions: as they lie in memory, and the reader's own function. -/
namespace Go.Proofs.Ytcanphhmflbdmac
open Go.RowKit
/-- A definition's value. -/
def DV (w : World) (S : Nat → Prop) (v : Value) (d : Df) : Prop := ∃ u, v = .agg #[.string d.nm, .int .i64 d.at_, .int .i64 d.e.op, .string d.e.nm, u] ∧ FoV w S u d.e.kids
/-- Definitions lie in a block from a place on. -/
def DsIn (w : World) (S : Nat → Prop) : List Df → Nat → Nat → Prop
  | [], _, _ => True
  | d :: l, b, o => S b ∧ w.cell? ⟨b, o, none⟩ = some (.string d.nm) ∧ w.cell? ⟨b, o + 1, none⟩ = some (.int .i64 d.at_) ∧ XIn w S d.e b (o + 2) ∧ DsIn w S l b (o + 5)
def DsV (w : World) (S : Nat → Prop) (v : Value) (ds : List Df) : Prop :=
  ds.length ≤ 9223372036854775807 ∧ ∃ ao cap, v = .slice ao ds.length cap ∧ (ds.length = 0 ∨ ∃ b o, ao = some ⟨b, o, none⟩ ∧ DsIn w S ds b o)
/-- The cells of definitions. -/
def DC (w : World) (S : Nat → Prop) : List Value → List Df → Prop
  | [], [] => True
  | a :: b :: c :: d :: e :: xs, x :: l => a = .string x.nm ∧ b = .int .i64 x.at_ ∧ c = .int .i64 x.e.op ∧ d = .string x.e.nm ∧ FoV w S e x.e.kids ∧ DC w S xs l
  | _, _ => False
theorem DC.mono {w w' : World} {S T : Nat → Prop} (hc : ∀ b o v, S b → w.cell? ⟨b, o, none⟩ = some v → T b ∧ w'.cell? ⟨b, o, none⟩ = some v) :
    ∀ {xs : List Value} {f : List Df}, DC w S xs f → DC w' T xs f
  | [], [], _ => trivial
  | a :: b :: c :: d :: e :: xs, x :: l, ⟨h1, h2, h3, h4, h5, h6⟩ => ⟨h1, h2, h3, h4, FoV.mono hc h5, DC.mono hc h6⟩
  | [], _ :: _, h => by simp [DC] at h
  | [_], _, h => by simp [DC] at h
  | [_, _], _, h => by simp [DC] at h
  | [_, _, _], _, h => by simp [DC] at h
  | [_, _, _, _], _, h => by simp [DC] at h
  | _ :: _ :: _ :: _ :: _ :: _, [], h => by simp [DC] at h
theorem DC.kp {w w' : World} {S T : Nat → Prop} {v : List Value} {x : List Df} (h : DC w S v x) (hk : Kp S w w') (hT : ∀ k, k < w.heap.size → S k → T k) : DC w' T v x := h.mono (keep_cell hT hk.block)
theorem DC.snoc {w : World} {S : Nat → Prop} {x : Df} {u : Value} (hu : FoV w S u x.e.kids) :
    ∀ {xs : List Value} {f : List Df}, DC w S xs f → DC w S (xs ++ [.string x.nm, .int .i64 x.at_, .int .i64 x.e.op, .string x.e.nm, u]) (f ++ [x])
  | [], [], _ => ⟨rfl, rfl, rfl, rfl, hu, trivial⟩
  | a :: b :: c :: d :: e :: xs, x :: l, ⟨h1, h2, h3, h4, h5, h6⟩ => ⟨h1, h2, h3, h4, h5, DC.snoc hu h6⟩
  | [], _ :: _, h => by simp [DC] at h
  | [_], _, h => by simp [DC] at h
  | [_, _], _, h => by simp [DC] at h
  | [_, _, _], _, h => by simp [DC] at h
  | [_, _, _, _], _, h => by simp [DC] at h
  | _ :: _ :: _ :: _ :: _ :: _, [], h => by simp [DC] at h
theorem DC.in_ {w : World} {S T : Nat → Prop} {b : Nat} (hb : T b) (hST : ∀ k, S k → T k) :
    ∀ {xs : List Value} {f : List Df} {o : Nat}, DC w S xs f → (∀ j v, xs[j]? = some v → w.cell? ⟨b, o + j, none⟩ = some v) → DsIn w T f b o
  | [], [], _, _, _ => trivial
  | a :: x :: c :: d :: e :: xs, y :: l, o, ⟨h1, h2, h3, h4, h5, h6⟩, hx => by
    refine ⟨hb, by have := hx 0 a rfl; rw [h1] at this; simpa using this, by have := hx 1 x rfl; rw [h2] at this; simpa using this, ⟨by have := hx 2 c rfl; rw [h3] at this; simpa using this, by have := hx 3 d rfl; rw [h4] at this; simpa using this, e, hx 4 _ rfl, h5.mono fun _ _ _ hs h => ⟨hST _ hs, h⟩⟩, ?_⟩
    refine DC.in_ hb hST h6 fun j v hj => ?_
    have := hx (j + 5) v (by simpa using hj)
    rwa [show o + (j + 5) = o + 5 + j by omega] at this
  | [], _ :: _, _, h, _ => by simp [DC] at h
  | [_], _, _, h, _ => by simp [DC] at h
  | [_, _], _, _, h, _ => by simp [DC] at h
  | [_, _, _], _, _, h, _ => by simp [DC] at h
  | [_, _, _, _], _, _, h, _ => by simp [DC] at h
  | _ :: _ :: _ :: _ :: _ :: _, [], _, h, _ => by simp [DC] at h
theorem DsV_owned {w : World} {S T : Nat → Prop} {base : Nat} {e : TypeId} {v : Value} {xs : List Value} {f : List Df} (hown : w.ownsRow base e 5 v f.length xs) (hc : DC w S xs f) (hST : ∀ k, S k → T k) (hT : ∀ k, base ≤ k → T k) (hl : f.length ≤ 9223372036854775807) : DsV w T v f := by
  have h0 := hown
  obtain ⟨h1, h2 | ⟨g, cap, cur, e1, e2, e3, e4⟩⟩ := hown
  · exact ⟨hl, none, 0, by rw [h2.1, h2.2], .inl h2.2⟩
  · refine ⟨hl, some ⟨g, 0, none⟩, cap, e1, .inr ⟨g, 0, rfl, DC.in_ (hT g e2) hST hc fun j u hj => ?_⟩⟩
    subst e1
    have hj' : j < xs.length := by
      rcases Nat.lt_or_ge j xs.length with h | h
      · exact h
      · rw [List.getElem?_eq_none h] at hj; cases hj
    have := World.ownsRow.cellAt h0 j (by omega)
    rw [show 0 + j = j by omega, this]; exact hj
theorem XIn.mono {w w' : World} {S T : Nat → Prop} (hc : ∀ b o v, S b → w.cell? ⟨b, o, none⟩ = some v → T b ∧ w'.cell? ⟨b, o, none⟩ = some v) {x : Xp} {b o : Nat} (hb : S b) (h : XIn w S x b o) : XIn w' T x b o :=
  let ⟨h1, h2, u, h3, h4⟩ := h
  ⟨(hc _ _ _ hb h1).2, (hc _ _ _ hb h2).2, u, (hc _ _ _ hb h3).2, h4.mono hc⟩
theorem DsIn.mono {w w' : World} {S T : Nat → Prop} (hc : ∀ b o v, S b → w.cell? ⟨b, o, none⟩ = some v → T b ∧ w'.cell? ⟨b, o, none⟩ = some v) :
    ∀ {f : List Df} {b o : Nat}, DsIn w S f b o → DsIn w' T f b o
  | [], _, _, _ => trivial
  | _ :: _, _, _, ⟨h0, h1, h2, h3, h4⟩ => ⟨(hc _ _ _ h0 h1).1, (hc _ _ _ h0 h1).2, (hc _ _ _ h0 h2).2, h3.mono hc h0, DsIn.mono hc h4⟩
theorem DsV.mono {w w' : World} {S T : Nat → Prop} (hc : ∀ b o v, S b → w.cell? ⟨b, o, none⟩ = some v → T b ∧ w'.cell? ⟨b, o, none⟩ = some v) {v : Value} {f : List Df} (h : DsV w S v f) : DsV w' T v f :=
  let ⟨h1, ao, cap, h2, h3⟩ := h
  ⟨h1, ao, cap, h2, h3.imp id fun ⟨b, o, e, h⟩ => ⟨b, o, e, DsIn.mono hc h⟩⟩
theorem DsV.kp {w w' : World} {S T : Nat → Prop} {v : Value} {x : List Df} (h : DsV w S v x) (hk : Kp S w w') (hT : ∀ k, k < w.heap.size → S k → T k) : DsV w' T v x := h.mono (keep_cell hT hk.block)
section
variable {r : Nat} {ao : Option Addr} {cap : Nat} {l : List Tk} {en : Int}
def OutD (r : Nat) (ao : Option Addr) (cap : Nat) (l : List Tk) (en : Int) (w : World) (res : Res Df) (e : Ending) (w' : World) : Prop :=
  match res with
  | .ok d n p => ∃ v, e = .returned v ∧ DV w' (fun k => w.heap.size ≤ k) v d ∧ RdS w' r ao cap l en n p 0 ∧ But r w w'
  | .err c a => Pan r c a w e w'
  | .out => False
variable {n p : Nat} {w : World}
end
end Go.Proofs.Ytcanphhmflbdmac

/- Lists of strings in memory: where a name stands in one, are two the same. -/
namespace Go.Proofs.Ytcanphhmflbdmac
open Go.RowKit

/-- A slice of strings. -/
def SsV (w : World) (v : Value) (l : List ByteArray) : Prop :=
  l.length ≤ 9223372036854775807 ∧ ∃ ao cap, v = .slice ao l.length cap ∧ l.length ≤ cap ∧ (l.length = 0 ∨ ∃ b o, ao = some ⟨b, o, none⟩ ∧ ∀ i (h : i < l.length), w.cell? ⟨b, o + i, none⟩ = some (.string l[i]))
theorem SsV.below {w w' : World} {v : Value} {l : List ByteArray} (h : SsV w v l) (hb : Below w.heap.size w w') : SsV w' v l :=
  let ⟨h1, ao, cap, h2, h3, h4⟩ := h
  ⟨h1, ao, cap, h2, h3, h4.imp id fun ⟨b, o, e, hc⟩ => ⟨b, o, e, fun i hi => bkeep hb (hc i hi)⟩⟩
theorem SsV.take {w : World} {ao : Option Addr} {n cap : Nat} {l : List ByteArray} (h : SsV w (.slice ao n cap) l) {k : Nat} (hk : k ≤ l.length) : SsV w (.slice ao k cap) (l.take k) := by
  obtain ⟨h1, ao', cap', h2, h3, h4⟩ := h
  simp at h2
  obtain ⟨rfl, rfl, rfl⟩ := h2
  have hl : (l.take k).length = k := by simp; omega
  refine ⟨by omega, ao, cap, by rw [hl], by omega, ?_⟩
  rcases h4 with h4 | ⟨b, o, e, hc⟩
  · exact .inl (by omega)
  · exact .inr ⟨b, o, e, fun i hi => by rw [List.getElem_take]; exact hc i (by omega)⟩
theorem SsV_nil (w : World) : SsV w (.slice none 0 0) [] := ⟨by simp, none, 0, rfl, Nat.zero_le _, .inl rfl⟩
theorem SsV_owned {w : World} {base : Nat} {e : TypeId} {v : Value} {l : List ByteArray} (h : w.ownsRow base e 1 v l.length (l.map .string)) (hl : l.length ≤ 9223372036854775807) : SsV w v l := by
  have h0 := h
  obtain ⟨h1, h2 | ⟨g, cap, cur, e1, e2, e3, e4, e5⟩⟩ := h
  · exact ⟨hl, none, 0, by rw [h2.1, h2.2], by omega, .inl h2.2⟩
  · refine ⟨hl, _, cap, e1, e4, .inr ⟨g, 0, rfl, fun i hi => ?_⟩⟩
    subst e1
    have := World.ownsRow.cellAt h0 i (by simpa using hi)
    rw [show 0 + i = i by omega, this]
    simp [hi]
theorem SsV.slice {w : World} {v : Value} {l : List ByteArray} (h : SsV w v l) : ∃ ao cap, v = .slice ao l.length cap := let ⟨_, ao, cap, e, _⟩ := h; ⟨ao, cap, e⟩

set_option maxRecDepth 100000 in
set_option maxHeartbeats 4000000 in
theorem placeOf_any (l : List ByteArray) (s : ByteArray) (v : Value) (w : World) (h : SsV w v l) :
    Calls Try.prog 50 #[v, .string s] w fun e w' => e = .returned (.int .i64 (whr l s)) ∧ w' = w := by
  obtain ⟨hl, ao, cap, rfl, hcap, hin⟩ := h
  go_enter Try.func50, Try.ntmps50
  go_wp2_with fail
  go_loopw [5] (fun i wr => ∃ k : Nat, k ≤ l.length ∧ i = .int .i64 k ∧ wr = w ∧ Hid (∀ j, j < k → decide (l[j]? = some s) = false)) (fun i _ => l.length - (intOf i).toNat)
  case atStart => exact ⟨0, Nat.zero_le _, rfl, rfl, hd (fun j hj => absurd hj (Nat.not_lt_zero _))⟩
  case round =>
    obtain ⟨k, hk, rfl, rfl, hall⟩ := hrel
    by_cases hlt : k < l.length
    · obtain h0 | ⟨b, o, rfl, hc⟩ := hin
      · omega
      have c0 := hc k hlt
      have HK : Hid (l[k]? = some l[k]) := hd (List.getElem?_eq_getElem hlt)
      have HL := hd hlt
      clear hc
      generalize l[k] = t at *
      by_cases hs : t = s
      · subst hs
        go_wp2_with fail
        go_ret
        exact ⟨by rw [whr, fstI_hit (k := k) (decide_eq_true HK.out) hall.out HL.out]; rfl, rfl⟩
      · have hs' : (t.toList == s.toList) = false := by rw [beq_str]; simpa using hs
        go_wp2_with fail
        go_roundw
        case rel => exact ⟨k + 1, by omega, by go_num, trivial, hd (fun j hj => by
          by_cases e : j = k
          · subst e; rw [HK.out]; simpa using hs
          · exact hall.out j (by omega))⟩
        case measure => simp [intOf]; omega
    · go_wp2_with fail
      go_ret
      exact ⟨by rw [whr, fstI_none (fun j hj => hall.out j (by omega))]; rfl, rfl⟩
set_option maxRecDepth 100000 in
set_option maxHeartbeats 4000000 in
theorem index_any (l : List ByteArray) (s : ByteArray) (v : Value) (w : World) (h : SsV w v l) :
    Calls Try.prog 78 #[v, .string s] w fun e w' => e = .returned (.int .i64 (whr l s)) ∧ w' = w := by
  obtain ⟨hl, ao, cap, rfl, hcap, hin⟩ := h
  go_enter Try.func78, Try.ntmps78
  go_wp2_with fail
  go_loopw [8] (fun i wr => ∃ k : Nat, k ≤ l.length ∧ i = .int .i64 k ∧ wr = w ∧ Hid (∀ j, j < k → decide (l[j]? = some s) = false)) (fun i _ => l.length - (intOf i).toNat)
  case atStart => exact ⟨0, Nat.zero_le _, rfl, rfl, hd (fun j hj => absurd hj (Nat.not_lt_zero _))⟩
  case round =>
    obtain ⟨k, hk, rfl, rfl, hall⟩ := hrel
    by_cases hlt : k < l.length
    · obtain h0 | ⟨b, o, rfl, hc⟩ := hin
      · omega
      have c0 := hc k hlt
      have HK : Hid (l[k]? = some l[k]) := hd (List.getElem?_eq_getElem hlt)
      have HL := hd hlt
      clear hc
      generalize l[k] = t at *
      by_cases hs : t = s
      · subst hs
        go_wp2_with fail
        go_ret
        exact ⟨by rw [whr, fstI_hit (k := k) (decide_eq_true HK.out) hall.out HL.out]; rfl, rfl⟩
      · have hs' : (s.toList == t.toList) = false := by rw [beq_str]; simpa using fun e : s = t => hs e.symm
        go_wp2_with fail
        go_roundw
        case rel => exact ⟨k + 1, by omega, by go_num, trivial, hd (fun j hj => by
          by_cases e : j = k
          · subst e; rw [HK.out]; simpa using hs
          · exact hall.out j (by omega))⟩
        case measure => simp [intOf]; omega
    · go_wp2_with fail
      go_ret
      exact ⟨by rw [whr, fstI_none (fun j hj => hall.out j (by omega))]; rfl, rfl⟩
theorem contains_any (l : List ByteArray) (s : ByteArray) (v : Value) (w : World) (h : SsV w v l) :
    Calls Try.prog 73 #[v, .string s] w fun e w' => e = .returned (.bool (inB s l)) ∧ w' = w := by
  have IA := index_any l s v w h
  have hm := whr_mem l s
  obtain ⟨ao, cap, rfl⟩ := h.slice
  generalize whr l s = r at *
  rw [show inB s l = decide (0 ≤ r) from by rw [Bool.eq_iff_iff, inB_iff, ← hm]; simp]
  clear hm
  go_enter Try.func73, Try.ntmps73
  go_wp2_with (go_at_call 78; refine IA.mono ?_; rintro e wx ⟨rfl, hwx⟩; obtain rfl := hwx.symm)
  go_ret
  exact ⟨rfl, rfl⟩

set_option maxRecDepth 100000 in
set_option maxHeartbeats 4000000 in
theorem sameStrings_any (l : List ByteArray) (va vb : Value) (w : World) (ha : SsV w va l) (hb : SsV w vb l) :
    Calls Try.prog 25 #[va, vb] w fun e w' => e = .returned (.bool true) ∧ Below w.heap.size w w' := by
  obtain ⟨hl, ao, cap, rfl, hcap, hin⟩ := ha
  obtain ⟨_, ao', cap', rfl, hcap', hin'⟩ := hb
  go_enter Try.func25, Try.ntmps25
  go_wp2_with fail
  go_loopw [5] (fun i wr => ∃ k : Nat, k ≤ l.length ∧ i = .int .i64 k ∧ Below w.heap.size w wr) (fun i _ => l.length - (intOf i).toNat)
  case atStart => exact ⟨0, Nat.zero_le _, rfl, Below.refl _ _⟩
  case round =>
    obtain ⟨k, hk, rfl, bel⟩ := hrel
    by_cases hlt : k < l.length
    · obtain h0 | ⟨b, o, rfl, hc⟩ := hin
      · omega
      obtain h0 | ⟨b', o', rfl, hc'⟩ := hin'
      · omega
      have c0 := bkeep bel (hc k hlt)
      have c1 := bkeep bel (hc' k hlt)
      clear hc hc'
      generalize l[k] = t at *
      go_wp2_with fail
      go_region
      all_goals
        go_wp2_with fail
        go_roundw
        case rel => exact ⟨k + 1, by omega, by go_num, bel.drew⟩
        case measure => simp [intOf]; omega
    · go_wp2_with fail
      go_ret
      exact ⟨rfl, bel⟩
end Go.Proofs.Ytcanphhmflbdmac
