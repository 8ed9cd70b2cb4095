/- The document's reader: items. -/
import Derived.Test.YthbbfddclhcoaaaOpn
namespace Go.Proofs.Ythbbfddclhcoaaa
open Go.RowKit
section
variable (r : Nat) (ao : Option Addr) (cap : Nat) (l : List Tk) (en : Int)
def ROutX (o : Nat) (w : World) (res : Res Xp) (e : Ending) (w' : World) : Prop :=
  match res with
  | .ok x n p => ∃ v, e = .returned v ∧ XV w' (fun k => w.heap.size ≤ k) v x ∧ RgS w' r ao cap l en n p o ∧ But r w w'
  | .err c a => ∃ i s q m k, e = .returned (.agg #[.int .i64 i, .string s, .slice q m k]) ∧ RgE w' r o c a ∧ But r w w'
  | .out => False
def ROutI (o : Nat) (w : World) (res : Res (Option Xp)) (e : Ending) (w' : World) : Prop :=
  match res with
  | .ok none n p => e = .returned (.tuple #[.agg #[.int .i64 0, .string ⟨#[]⟩, .slice none 0 0], .bool false]) ∧ RgS w' r ao cap l en n p o ∧ But r w w'
  | .ok (some x) n p => ∃ v, e = .returned (.tuple #[v, .bool true]) ∧ XV w' (fun k => w.heap.size ≤ k) v x ∧ RgS w' r ao cap l en n p o ∧ But r w w'
  | .err c a => ∃ i s q m k, e = .returned (.tuple #[.agg #[.int .i64 i, .string s, .slice q m k], .bool false]) ∧ RgE w' r o c a ∧ But r w w'
  | .out => False
def RAltOK (k : Nat) : Prop := ∀ n p o w, RgS w r ao cap l en n p o → 4 * (l.length - n) + 3 ≤ k →
  Calls Try.prog 40 #[.pointer (some ⟨r, 0, none⟩)] w (ROutX r ao cap l en o w (alt l en k n p o))
def RRowOK (k : Nat) : Prop := ∀ n p o w, RgS w r ao cap l en n p o → 4 * (l.length - n) + 2 ≤ k →
  Calls Try.prog 54 #[.pointer (some ⟨r, 0, none⟩)] w (ROutX r ao cap l en o w (rowL l en k n p o .nil))
def RItemOK (k : Nat) : Prop := ∀ n p o w, RgS w r ao cap l en n p o → 4 * (l.length - n) + 1 ≤ k →
  Calls Try.prog 65 #[.pointer (some ⟨r, 0, none⟩)] w (ROutI r ao cap l en o w (item l en k n p o))
end
section
variable {r : Nat} {ao : Option Addr} {cap : Nat} {l : List Tk} {en : Int} {n p o : Nat} {w : World}
set_option maxHeartbeats 4000000 in
theorem ritem_name (h : RgS w r ao cap l en n p o) (hk : knd l n = 1) (hp : ¬ p = 60) :
    Calls Try.prog 65 #[.pointer (some ⟨r, 0, none⟩)] w (ROutI r ao cap l en o w (.ok (some ⟨2, txt l n, .nil⟩) (n + 1) (p + 1))) := by
  have hn := lt_of_knd hk (by decide)
  have sz := h.sz
  have hne : ¬ w.heap.size = r := by omega
  have ha := h.hao _ (Nat.le_refl _)
  have K := kind_any (h.alloc_ (.cells #[.int .i64 0, .string ⟨#[]⟩, .slice none 0 0] 49))
  rw [hk] at K
  have TK := fun w' (h' : RgS w' r ao cap l en n (p + 1) o) => take_any h' hn
  unfold ROutI
  generalize txt l n = tt at *
  go_enter Try.func65, Try.ntmps65
  go_wp2_with fail
  refine K.mono ?_
  rintro e w1 ⟨rfl, m1, rfl⟩
  have h1 := (h.alloc_ (.cells #[.int .i64 0, .string ⟨#[]⟩, .slice none 0 0] 49)).drew_ m1
  have bb1 : But r w ((w.alloc (.cells #[.int .i64 0, .string ⟨#[]⟩, .slice none 0 0] 49)).drewN m1) := ((But.refl r w).alloc _).drewN m1
  go_wp2_with fail
  refine (rpart_yes h1 hp).mono ?_
  rintro e w2 ⟨rfl, h2, hb2⟩
  have z2 := hb2.size
  simp at z2
  go_wp2_with fail
  refine (ok_yes h2).mono ?_
  rintro e wx ⟨rfl, hwx⟩; obtain rfl := hwx.symm
  go_wp2_with fail
  refine (TK _ h2).mono ?_
  rintro e w3 ⟨rfl, h3, hb3⟩
  have bb := hb2.trans hb3
  have e0 : w3.cell? ⟨w.heap.size, 0, none⟩ = some (.int .i64 0) := by rw [bb.cell (by simp) hne]; simp
  have e1 : w3.cell? ⟨w.heap.size, 1, none⟩ = some (.string ⟨#[]⟩) := by rw [bb.cell (by simp) hne]; simp
  have e2 : w3.cell? ⟨w.heap.size, 2, none⟩ = some (.slice none 0 0) := by rw [bb.cell (by simp) hne]; simp
  have ef : ∀ i, w3.frozen? ⟨w.heap.size, i, none⟩ = false := fun i => by rw [bb.frozen (by simp) hne]; simp
  clear K TK hb2 hb3
  go_wp2_with fail
  refine bodyPost_ret (v := .tuple #[.agg #[.int .i64 2, .string tt, .slice none 0 0], .bool true]) (by simp [results, Try.results65, go_sem, e0, e1, e2]) rfl ⟨_, rfl, ⟨_, rfl, FoV_none _ _⟩, ?_, ?_⟩
  · exact ((h3.off (by simp; omega) ha _).off (by simp; omega) ha _).off (by simp; omega) ha _
  · exact (((bb1.trans bb).setCell (.inr (Nat.le_refl _)) _).setCell (.inr (Nat.le_refl _)) _).setCell (.inr (Nat.le_refl _)) _
set_option maxHeartbeats 4000000 in
theorem ritem_term (h : RgS w r ao cap l en n p o) (hk : knd l n = 2) (hp : ¬ p = 60) :
    Calls Try.prog 65 #[.pointer (some ⟨r, 0, none⟩)] w (ROutI r ao cap l en o w (.ok (some ⟨1, txt l n, .nil⟩) (n + 1) (p + 1))) := by
  have hn := lt_of_knd hk (by decide)
  have sz := h.sz
  have hne : ¬ w.heap.size = r := by omega
  have ha := h.hao _ (Nat.le_refl _)
  have K := kind_any (h.alloc_ (.cells #[.int .i64 0, .string ⟨#[]⟩, .slice none 0 0] 49))
  rw [hk] at K
  have TK := fun w' (h' : RgS w' r ao cap l en n (p + 1) o) => take_any h' hn
  unfold ROutI
  generalize txt l n = tt at *
  go_enter Try.func65, Try.ntmps65
  go_wp2_with fail
  refine K.mono ?_
  rintro e w1 ⟨rfl, m1, rfl⟩
  have h1 := (h.alloc_ (.cells #[.int .i64 0, .string ⟨#[]⟩, .slice none 0 0] 49)).drew_ m1
  have bb1 : But r w ((w.alloc (.cells #[.int .i64 0, .string ⟨#[]⟩, .slice none 0 0] 49)).drewN m1) := ((But.refl r w).alloc _).drewN m1
  go_wp2_with fail
  refine (rpart_yes h1 hp).mono ?_
  rintro e w2 ⟨rfl, h2, hb2⟩
  have z2 := hb2.size
  simp at z2
  go_wp2_with fail
  refine (ok_yes h2).mono ?_
  rintro e wx ⟨rfl, hwx⟩; obtain rfl := hwx.symm
  go_wp2_with fail
  refine (TK _ h2).mono ?_
  rintro e w3 ⟨rfl, h3, hb3⟩
  have bb := hb2.trans hb3
  have e0 : w3.cell? ⟨w.heap.size, 0, none⟩ = some (.int .i64 0) := by rw [bb.cell (by simp) hne]; simp
  have e1 : w3.cell? ⟨w.heap.size, 1, none⟩ = some (.string ⟨#[]⟩) := by rw [bb.cell (by simp) hne]; simp
  have e2 : w3.cell? ⟨w.heap.size, 2, none⟩ = some (.slice none 0 0) := by rw [bb.cell (by simp) hne]; simp
  have ef : ∀ i, w3.frozen? ⟨w.heap.size, i, none⟩ = false := fun i => by rw [bb.frozen (by simp) hne]; simp
  clear K TK hb2 hb3
  go_wp2_with fail
  refine bodyPost_ret (v := .tuple #[.agg #[.int .i64 1, .string tt, .slice none 0 0], .bool true]) (by simp [results, Try.results65, go_sem, e0, e1, e2]) rfl ⟨_, rfl, ⟨_, rfl, FoV_none _ _⟩, ?_, ?_⟩
  · exact ((h3.off (by simp; omega) ha _).off (by simp; omega) ha _).off (by simp; omega) ha _
  · exact (((bb1.trans bb).setCell (.inr (Nat.le_refl _)) _).setCell (.inr (Nat.le_refl _)) _).setCell (.inr (Nat.le_refl _)) _
set_option maxHeartbeats 4000000 in
theorem ritem_name_no (h : RgS w r ao cap l en n p o) (hk : knd l n = 1) (hp : p = 60) :
    Calls Try.prog 65 #[.pointer (some ⟨r, 0, none⟩)] w (ROutI r ao cap l en o w (.err 6 (plc l en n))) := by
  have hn := lt_of_knd hk (by decide)
  have sz := h.sz
  have hne : ¬ w.heap.size = r := by omega
  have ha := h.hao _ (Nat.le_refl _)
  have K := kind_any (h.alloc_ (.cells #[.int .i64 0, .string ⟨#[]⟩, .slice none 0 0] 49))
  rw [hk] at K
  unfold ROutI
  go_enter Try.func65, Try.ntmps65
  go_wp2_with fail
  refine K.mono ?_
  rintro e w1 ⟨rfl, m1, rfl⟩
  have h1 := (h.alloc_ (.cells #[.int .i64 0, .string ⟨#[]⟩, .slice none 0 0] 49)).drew_ m1
  have bb1 : But r w ((w.alloc (.cells #[.int .i64 0, .string ⟨#[]⟩, .slice none 0 0] 49)).drewN m1) := ((But.refl r w).alloc _).drewN m1
  go_wp2_with fail
  refine (rpart_no h1 hn hp).mono ?_
  rintro e w2 ⟨rfl, h2, hb2⟩
  have e0 : w2.cell? ⟨w.heap.size, 0, none⟩ = some (.int .i64 0) := by rw [hb2.cell (by simp) hne]; simp
  have e1 : w2.cell? ⟨w.heap.size, 1, none⟩ = some (.string ⟨#[]⟩) := by rw [hb2.cell (by simp) hne]; simp
  have e2 : w2.cell? ⟨w.heap.size, 2, none⟩ = some (.slice none 0 0) := by rw [hb2.cell (by simp) hne]; simp
  have ef : ∀ i, w2.frozen? ⟨w.heap.size, i, none⟩ = false := fun i => by rw [hb2.frozen (by simp) hne]; simp
  go_wp2_with fail
  refine (ok_no h2).mono ?_
  rintro e wx ⟨rfl, hwx⟩; obtain rfl := hwx.symm
  clear K
  go_wp2_with fail
  refine bodyPost_ret (v := .tuple #[.agg #[.int .i64 0, .string ⟨#[]⟩, .slice none 0 0], .bool false]) (by simp [results, Try.results65, go_sem, e0, e1, e2]) rfl ⟨_, _, _, _, _, rfl, ?_, ?_⟩
  · exact ((h2.off (by simp; omega) _).off (by simp; omega) _).off (by simp; omega) _
  · exact (((bb1.trans hb2).setCell (.inr (Nat.le_refl _)) _).setCell (.inr (Nat.le_refl _)) _).setCell (.inr (Nat.le_refl _)) _
set_option maxHeartbeats 4000000 in
theorem ritem_term_no (h : RgS w r ao cap l en n p o) (hk : knd l n = 2) (hp : p = 60) :
    Calls Try.prog 65 #[.pointer (some ⟨r, 0, none⟩)] w (ROutI r ao cap l en o w (.err 6 (plc l en n))) := by
  have hn := lt_of_knd hk (by decide)
  have sz := h.sz
  have hne : ¬ w.heap.size = r := by omega
  have ha := h.hao _ (Nat.le_refl _)
  have K := kind_any (h.alloc_ (.cells #[.int .i64 0, .string ⟨#[]⟩, .slice none 0 0] 49))
  rw [hk] at K
  unfold ROutI
  go_enter Try.func65, Try.ntmps65
  go_wp2_with fail
  refine K.mono ?_
  rintro e w1 ⟨rfl, m1, rfl⟩
  have h1 := (h.alloc_ (.cells #[.int .i64 0, .string ⟨#[]⟩, .slice none 0 0] 49)).drew_ m1
  have bb1 : But r w ((w.alloc (.cells #[.int .i64 0, .string ⟨#[]⟩, .slice none 0 0] 49)).drewN m1) := ((But.refl r w).alloc _).drewN m1
  go_wp2_with fail
  refine (rpart_no h1 hn hp).mono ?_
  rintro e w2 ⟨rfl, h2, hb2⟩
  have e0 : w2.cell? ⟨w.heap.size, 0, none⟩ = some (.int .i64 0) := by rw [hb2.cell (by simp) hne]; simp
  have e1 : w2.cell? ⟨w.heap.size, 1, none⟩ = some (.string ⟨#[]⟩) := by rw [hb2.cell (by simp) hne]; simp
  have e2 : w2.cell? ⟨w.heap.size, 2, none⟩ = some (.slice none 0 0) := by rw [hb2.cell (by simp) hne]; simp
  have ef : ∀ i, w2.frozen? ⟨w.heap.size, i, none⟩ = false := fun i => by rw [hb2.frozen (by simp) hne]; simp
  go_wp2_with fail
  refine (ok_no h2).mono ?_
  rintro e wx ⟨rfl, hwx⟩; obtain rfl := hwx.symm
  clear K
  go_wp2_with fail
  refine bodyPost_ret (v := .tuple #[.agg #[.int .i64 0, .string ⟨#[]⟩, .slice none 0 0], .bool false]) (by simp [results, Try.results65, go_sem, e0, e1, e2]) rfl ⟨_, _, _, _, _, rfl, ?_, ?_⟩
  · exact ((h2.off (by simp; omega) _).off (by simp; omega) _).off (by simp; omega) _
  · exact (((bb1.trans hb2).setCell (.inr (Nat.le_refl _)) _).setCell (.inr (Nat.le_refl _)) _).setCell (.inr (Nat.le_refl _)) _
set_option maxHeartbeats 4000000 in
theorem ritem_none (h : RgS w r ao cap l en n p o) (hk1 : ¬ knd l n = 1) (hk2 : ¬ knd l n = 2) (ho : opn l n = false) :
    Calls Try.prog 65 #[.pointer (some ⟨r, 0, none⟩)] w (ROutI r ao cap l en o w (.ok none n p)) := by
  have sz := h.sz
  have hne : ¬ w.heap.size = r := by omega
  have ha := h.hao _ (Nat.le_refl _)
  have K := kind_any (h.alloc_ (.cells #[.int .i64 0, .string ⟨#[]⟩, .slice none 0 0] 49))
  have OP := fun w' (h' : RgS w' r ao cap l en n p o) => opened_no h' ho
  generalize knd l n = kk at *
  have b1 : (kk == 1) = false := by simpa using hk1
  have b2 : (kk == 2) = false := by simpa using hk2
  unfold ROutI
  go_enter Try.func65, Try.ntmps65
  go_wp2_with fail
  refine K.mono ?_
  rintro e w1 ⟨rfl, m1, rfl⟩
  have h1 := (h.alloc_ (.cells #[.int .i64 0, .string ⟨#[]⟩, .slice none 0 0] 49)).drew_ m1
  have bb1 : But r w ((w.alloc (.cells #[.int .i64 0, .string ⟨#[]⟩, .slice none 0 0] 49)).drewN m1) := ((But.refl r w).alloc _).drewN m1
  go_wp2_with fail
  refine (OP _ h1).mono ?_
  rintro e w2 ⟨rfl, hb2⟩
  have hb2' : But r ((w.alloc (.cells #[.int .i64 0, .string ⟨#[]⟩, .slice none 0 0] 49)).drewN m1) w2 := But.of_below hb2
  have e0 : w2.cell? ⟨w.heap.size, 0, none⟩ = some (.int .i64 0) := by rw [hb2'.cell (by simp) hne]; simp
  have e1 : w2.cell? ⟨w.heap.size, 1, none⟩ = some (.string ⟨#[]⟩) := by rw [hb2'.cell (by simp) hne]; simp
  have e2 : w2.cell? ⟨w.heap.size, 2, none⟩ = some (.slice none 0 0) := by rw [hb2'.cell (by simp) hne]; simp
  have ef : ∀ i, w2.frozen? ⟨w.heap.size, i, none⟩ = false := fun i => by rw [hb2'.frozen (by simp) hne]; simp
  have h2 := h1.keep hb2
  clear K OP
  go_wp2_with fail
  refine bodyPost_ret (v := .tuple #[.agg #[.int .i64 0, .string ⟨#[]⟩, .slice none 0 0], .bool false]) (by simp [results, Try.results65, go_sem, e0, e1, e2]) rfl ⟨rfl, ?_, ?_⟩
  · exact ((h2.off (by simp; omega) ha _).off (by simp; omega) ha _).off (by simp; omega) ha _
  · exact (((bb1.trans hb2').setCell (.inr (Nat.le_refl _)) _).setCell (.inr (Nat.le_refl _)) _).setCell (.inr (Nat.le_refl _)) _
set_option maxHeartbeats 4000000 in
theorem ritem_deep (h : RgS w r ao cap l en n p o) (hk1 : ¬ knd l n = 1) (hk2 : ¬ knd l n = 2) (hop : opn l n = true) (ho : o = 40) :
    Calls Try.prog 65 #[.pointer (some ⟨r, 0, none⟩)] w (ROutI r ao cap l en o w (.err 5 (plc l en n))) := by
  have sz := h.sz
  have hne : ¬ w.heap.size = r := by omega
  have ha := h.hao _ (Nat.le_refl _)
  have K := kind_any (h.alloc_ (.cells #[.int .i64 0, .string ⟨#[]⟩, .slice none 0 0] 49))
  have OP := fun w' (h' : RgS w' r ao cap l en n p o) => opened_yes h' hop
  have hn := lt_of_opn hop
  have hcl : ((brk (txt l n)).2.toList == []) = false := by
    have := beq_str (brk (txt l n)).2 ⟨#[]⟩
    rw [ByteArray.toList_eq ⟨#[]⟩] at this
    simp [opn] at hop
    exact this.trans (by simpa using hop.2)
  unfold ROutI
  generalize (brk (txt l n)).2 = cl at *
  generalize (brk (txt l n)).1 = op at *
  generalize knd l n = kk at *
  have b1 : (kk == 1) = false := by simpa using hk1
  have b2 : (kk == 2) = false := by simpa using hk2
  subst ho
  go_enter Try.func65, Try.ntmps65
  go_wp2_with fail
  refine K.mono ?_
  rintro e w1 ⟨rfl, m1, rfl⟩
  have h1 := (h.alloc_ (.cells #[.int .i64 0, .string ⟨#[]⟩, .slice none 0 0] 49)).drew_ m1
  have bb1 : But r w ((w.alloc (.cells #[.int .i64 0, .string ⟨#[]⟩, .slice none 0 0] 49)).drewN m1) := ((But.refl r w).alloc _).drewN m1
  go_wp2_with fail
  refine (OP _ h1).mono ?_
  rintro e w2 ⟨rfl, hb2⟩
  have hb2' : But r ((w.alloc (.cells #[.int .i64 0, .string ⟨#[]⟩, .slice none 0 0] 49)).drewN m1) w2 := But.of_below hb2
  have h2 := h1.keep hb2
  have q3 := h2.c3
  have qf := h2.fz
  go_wp2_with fail
  refine (wrong_at h2 hn 5 (by decide)).mono ?_
  rintro e w3 ⟨rfl, h3, hb3⟩
  go_wp2_with fail
  refine (rpart_err h3).mono ?_
  rintro e w4 ⟨rfl, h4, hb4⟩
  have bb := (hb2'.trans hb3).trans hb4
  have e0 : w4.cell? ⟨w.heap.size, 0, none⟩ = some (.int .i64 0) := by rw [bb.cell (by simp) hne]; simp
  have e1 : w4.cell? ⟨w.heap.size, 1, none⟩ = some (.string ⟨#[]⟩) := by rw [bb.cell (by simp) hne]; simp
  have e2 : w4.cell? ⟨w.heap.size, 2, none⟩ = some (.slice none 0 0) := by rw [bb.cell (by simp) hne]; simp
  have ef : ∀ i, w4.frozen? ⟨w.heap.size, i, none⟩ = false := fun i => by rw [bb.frozen (by simp) hne]; simp
  go_wp2_with fail
  refine (ok_no h4).mono ?_
  rintro e wx ⟨rfl, hwx⟩; obtain rfl := hwx.symm
  clear K OP
  go_wp2_with fail
  refine bodyPost_ret (v := .tuple #[.agg #[.int .i64 0, .string ⟨#[]⟩, .slice none 0 0], .bool false]) (by simp [results, Try.results65, go_sem, e0, e1, e2]) rfl ⟨_, _, _, _, _, rfl, ?_, ?_⟩
  · exact ((h4.off (by simp; omega) _).off (by simp; omega) _).off (by simp; omega) _
  · exact (((bb1.trans bb).setCell (.inr (Nat.le_refl _)) _).setCell (.inr (Nat.le_refl _)) _).setCell (.inr (Nat.le_refl _)) _
set_option maxHeartbeats 4000000 in
theorem ritem_many (h : RgS w r ao cap l en n p o) (hk1 : ¬ knd l n = 1) (hk2 : ¬ knd l n = 2) (hop : opn l n = true) (ho : ¬ o = 40) (hp : p = 60) :
    Calls Try.prog 65 #[.pointer (some ⟨r, 0, none⟩)] w (ROutI r ao cap l en o w (.err 6 (plc l en n))) := by
  have sz := h.sz
  have hne : ¬ w.heap.size = r := by omega
  have ha := h.hao _ (Nat.le_refl _)
  have K := kind_any (h.alloc_ (.cells #[.int .i64 0, .string ⟨#[]⟩, .slice none 0 0] 49))
  have hol : (o : Int) < 40 := by have := h.ol; omega
  have OP := fun w' (h' : RgS w' r ao cap l en n p o) => opened_yes h' hop
  have hn := lt_of_opn hop
  have hcl : ((brk (txt l n)).2.toList == []) = false := by
    have := beq_str (brk (txt l n)).2 ⟨#[]⟩
    rw [ByteArray.toList_eq ⟨#[]⟩] at this
    simp [opn] at hop
    exact this.trans (by simpa using hop.2)
  unfold ROutI
  generalize (brk (txt l n)).2 = cl at *
  generalize (brk (txt l n)).1 = op at *
  generalize knd l n = kk at *
  have b1 : (kk == 1) = false := by simpa using hk1
  have b2 : (kk == 2) = false := by simpa using hk2
  go_enter Try.func65, Try.ntmps65
  go_wp2_with fail
  refine K.mono ?_
  rintro e w1 ⟨rfl, m1, rfl⟩
  have h1 := (h.alloc_ (.cells #[.int .i64 0, .string ⟨#[]⟩, .slice none 0 0] 49)).drew_ m1
  have bb1 : But r w ((w.alloc (.cells #[.int .i64 0, .string ⟨#[]⟩, .slice none 0 0] 49)).drewN m1) := ((But.refl r w).alloc _).drewN m1
  go_wp2_with fail
  refine (OP _ h1).mono ?_
  rintro e w2 ⟨rfl, hb2⟩
  have hb2' : But r ((w.alloc (.cells #[.int .i64 0, .string ⟨#[]⟩, .slice none 0 0] 49)).drewN m1) w2 := But.of_below hb2
  have h2 := h1.keep hb2
  have q3 := h2.c3
  have qf := h2.fz
  go_wp2_with fail
  refine (rpart_no h2 hn hp).mono ?_
  rintro e w4 ⟨rfl, h4, hb4⟩
  have bb := hb2'.trans hb4
  have e0 : w4.cell? ⟨w.heap.size, 0, none⟩ = some (.int .i64 0) := by rw [bb.cell (by simp) hne]; simp
  have e1 : w4.cell? ⟨w.heap.size, 1, none⟩ = some (.string ⟨#[]⟩) := by rw [bb.cell (by simp) hne]; simp
  have e2 : w4.cell? ⟨w.heap.size, 2, none⟩ = some (.slice none 0 0) := by rw [bb.cell (by simp) hne]; simp
  have ef : ∀ i, w4.frozen? ⟨w.heap.size, i, none⟩ = false := fun i => by rw [bb.frozen (by simp) hne]; simp
  go_wp2_with fail
  refine (ok_no h4).mono ?_
  rintro e wx ⟨rfl, hwx⟩; obtain rfl := hwx.symm
  clear K OP
  go_wp2_with fail
  refine bodyPost_ret (v := .tuple #[.agg #[.int .i64 0, .string ⟨#[]⟩, .slice none 0 0], .bool false]) (by simp [results, Try.results65, go_sem, e0, e1, e2]) rfl ⟨_, _, _, _, _, rfl, ?_, ?_⟩
  · exact ((h4.off (by simp; omega) _).off (by simp; omega) _).off (by simp; omega) _
  · exact (((bb1.trans bb).setCell (.inr (Nat.le_refl _)) _).setCell (.inr (Nat.le_refl _)) _).setCell (.inr (Nat.le_refl _)) _
end
end Go.Proofs.Ythbbfddclhcoaaa
