/- Items: the reader's own function. -/
import Derived.Test.YtdikjhfnmkejcabPrs
namespace Go.Proofs.Ytdikjhfnmkejcab
open Go.RowKit
section
variable {r : Nat} {ao : Option Addr} {cap : Nat} {l : List Tk} {en : Int} {n p o : Nat} {w : World}
theorem FoV_none (W : World) (T : Nat → Prop) : FoV W T (.slice none 0 0) .nil := ⟨by simp [Fo.len], none, 0, rfl, .inl rfl⟩
theorem RdS.hao (h : RdS w r ao cap l en n p o) : ∀ b, w.heap.size ≤ b → ∀ g, ao = some ⟨g, 0, none⟩ → l.length = 0 ∨ b ≠ g := fun b hb g e => by
  rcases h.tk with h0 | ⟨g', e', h1', h2', _⟩
  · exact .inl h0
  · rw [e] at e'; cases e'; right; omega
set_option maxRecDepth 100000 in
set_option maxHeartbeats 2000000 in
theorem item_name (h : RdS w r ao cap l en n p o) (hk : knd l n = 1) (hp : ¬ p = 60) :
    Calls Try.prog 102 #[.pointer (some ⟨r, 0, none⟩)] w (OutI r ao cap l en o w (.ok (some ⟨2, txt l n, .nil⟩) (n + 1) (p + 1))) := by
  have hn := lt_of_knd hk (by decide)
  have P := fun x => peek_any (h.alloc_ x)
  have sz := h.sz
  have hne : ¬ w.heap.size = r := by omega
  have ha := h.hao _ (Nat.le_refl _)
  rw [hk] at P
  generalize txt l n = tt at *
  generalize at0 l n = aa at *
  clear hk
  unfold OutI
  go_enter Try.func102, Try.ntmps102
  go_wp2_with fail
  refine (P _).mono ?_
  rintro e w1 ⟨rfl, hb1⟩
  have z1 := hb1.size
  simp at z1
  have h1 := (h.alloc_ _).keep hb1
  go_wp2_with fail
  refine (part_yes (h1.alloc_ _) hn hp).mono ?_
  rintro e w2 ⟨rfl, h2, hb2⟩
  have z2 := hb2.size
  simp at z2
  have bA := ((But.of_below (r := r) hb1).alloc (.cells #[.int .i64 1, .int .i64 aa, .string tt] 87)).trans hb2
  have e0 : w2.cell? ⟨w.heap.size, 0, none⟩ = some (.int .i64 0) := by rw [bA.cell (by simp) hne]; simp
  have e1 : w2.cell? ⟨w.heap.size, 1, none⟩ = some (.string ⟨#[]⟩) := by rw [bA.cell (by simp) hne]; simp
  have e2 : w2.cell? ⟨w.heap.size, 2, none⟩ = some (.slice none 0 0) := by rw [bA.cell (by simp) hne]; simp
  have ef : ∀ i, w2.frozen? ⟨w.heap.size, i, none⟩ = false := fun i => by rw [bA.frozen (by simp) hne]; simp
  have bC := ((But.refl r w).alloc _).trans bA
  have hne1 : ¬ w1.heap.size = r := by omega
  have hne2 : ¬ w1.heap.size = w.heap.size := by omega
  have d2 : w2.cell? ⟨w1.heap.size, 2, none⟩ = some (.string tt) := by rw [hb2.cell (by simp) hne1]; simp
  clear P bA hb1 hb2
  go_wp2_with fail
  refine bodyPost_ret (v := .tuple #[.agg #[.int .i64 2, .string tt, .slice none 0 0], .bool true]) (by simp [results, Try.results102, go_sem, e0, e1, e2]) rfl ⟨_, rfl, ⟨_, rfl, FoV_none _ _⟩, ?_, ?_⟩
  · exact ((h2.off (by simp; omega) ha _).off (by simp; omega) ha _).off (by simp; omega) ha _
  · exact ((bC.setCell (.inr (Nat.le_refl _)) _).setCell (.inr (Nat.le_refl _)) _).setCell (.inr (Nat.le_refl _)) _
set_option maxRecDepth 100000 in
set_option maxHeartbeats 2000000 in
theorem item_term (h : RdS w r ao cap l en n p o) (hk : knd l n = 2) (hp : ¬ p = 60) :
    Calls Try.prog 102 #[.pointer (some ⟨r, 0, none⟩)] w (OutI r ao cap l en o w (.ok (some ⟨1, txt l n, .nil⟩) (n + 1) (p + 1))) := by
  have hn := lt_of_knd hk (by decide)
  have P := fun x => peek_any (h.alloc_ x)
  have sz := h.sz
  have hne : ¬ w.heap.size = r := by omega
  have ha := h.hao _ (Nat.le_refl _)
  rw [hk] at P
  generalize txt l n = tt at *
  generalize at0 l n = aa at *
  clear hk
  unfold OutI
  go_enter Try.func102, Try.ntmps102
  go_wp2_with fail
  refine (P _).mono ?_
  rintro e w1 ⟨rfl, hb1⟩
  have z1 := hb1.size
  simp at z1
  have h1 := (h.alloc_ _).keep hb1
  go_wp2_with fail
  refine (part_yes (h1.alloc_ _) hn hp).mono ?_
  rintro e w2 ⟨rfl, h2, hb2⟩
  have z2 := hb2.size
  simp at z2
  have bA := ((But.of_below (r := r) hb1).alloc (.cells #[.int .i64 2, .int .i64 aa, .string tt] 87)).trans hb2
  have e0 : w2.cell? ⟨w.heap.size, 0, none⟩ = some (.int .i64 0) := by rw [bA.cell (by simp) hne]; simp
  have e1 : w2.cell? ⟨w.heap.size, 1, none⟩ = some (.string ⟨#[]⟩) := by rw [bA.cell (by simp) hne]; simp
  have e2 : w2.cell? ⟨w.heap.size, 2, none⟩ = some (.slice none 0 0) := by rw [bA.cell (by simp) hne]; simp
  have ef : ∀ i, w2.frozen? ⟨w.heap.size, i, none⟩ = false := fun i => by rw [bA.frozen (by simp) hne]; simp
  have bC := ((But.refl r w).alloc _).trans bA
  have hne1 : ¬ w1.heap.size = r := by omega
  have hne2 : ¬ w1.heap.size = w.heap.size := by omega
  have d2 : w2.cell? ⟨w1.heap.size, 2, none⟩ = some (.string tt) := by rw [hb2.cell (by simp) hne1]; simp
  clear P bA hb1 hb2
  go_wp2_with fail
  refine bodyPost_ret (v := .tuple #[.agg #[.int .i64 1, .string tt, .slice none 0 0], .bool true]) (by simp [results, Try.results102, go_sem, e0, e1, e2]) rfl ⟨_, rfl, ⟨_, rfl, FoV_none _ _⟩, ?_, ?_⟩
  · exact ((h2.off (by simp; omega) ha _).off (by simp; omega) ha _).off (by simp; omega) ha _
  · exact ((bC.setCell (.inr (Nat.le_refl _)) _).setCell (.inr (Nat.le_refl _)) _).setCell (.inr (Nat.le_refl _)) _
set_option maxRecDepth 100000 in
set_option maxHeartbeats 2000000 in
theorem item_name_no (h : RdS w r ao cap l en n p o) (hk : knd l n = 1) (hp : p = 60) :
    Calls Try.prog 102 #[.pointer (some ⟨r, 0, none⟩)] w (OutI r ao cap l en o w (.err 6 (plc l en n))) := by
  have P := fun x => peek_any (h.alloc_ x)
  rw [hk] at P
  generalize txt l n = tt at *
  generalize at0 l n = aa at *
  clear hk
  unfold OutI
  go_enter Try.func102, Try.ntmps102
  go_wp2_with fail
  refine (P _).mono ?_
  rintro e w1 ⟨rfl, hb1⟩
  have z1 := hb1.size
  simp at z1
  have h1 := (h.alloc_ _).keep hb1
  go_wp2_with fail
  refine (part_no (h1.alloc_ _) hp).mono ?_
  rintro e w2 h2
  obtain ⟨rfl, h3, h4, h5⟩ := Pan.but h2 ((((But.refl r w).alloc _).trans (But.of_below hb1)).alloc _)
  go_wp2_with fail
  exact ⟨rfl, rfl, h3, h4, h5⟩
set_option maxRecDepth 100000 in
set_option maxHeartbeats 2000000 in
theorem item_term_no (h : RdS w r ao cap l en n p o) (hk : knd l n = 2) (hp : p = 60) :
    Calls Try.prog 102 #[.pointer (some ⟨r, 0, none⟩)] w (OutI r ao cap l en o w (.err 6 (plc l en n))) := by
  have P := fun x => peek_any (h.alloc_ x)
  rw [hk] at P
  generalize txt l n = tt at *
  generalize at0 l n = aa at *
  clear hk
  unfold OutI
  go_enter Try.func102, Try.ntmps102
  go_wp2_with fail
  refine (P _).mono ?_
  rintro e w1 ⟨rfl, hb1⟩
  have z1 := hb1.size
  simp at z1
  have h1 := (h.alloc_ _).keep hb1
  go_wp2_with fail
  refine (part_no (h1.alloc_ _) hp).mono ?_
  rintro e w2 h2
  obtain ⟨rfl, h3, h4, h5⟩ := Pan.but h2 ((((But.refl r w).alloc _).trans (But.of_below hb1)).alloc _)
  go_wp2_with fail
  exact ⟨rfl, rfl, h3, h4, h5⟩
set_option maxRecDepth 100000 in
set_option maxHeartbeats 2000000 in
theorem item_none (h : RdS w r ao cap l en n p o) (hk1 : ¬ knd l n = 1) (hk2 : ¬ knd l n = 2) (hk3 : ¬ knd l n = 3) :
    Calls Try.prog 102 #[.pointer (some ⟨r, 0, none⟩)] w (OutI r ao cap l en o w (.ok none n p)) := by
  have P := fun x => peek_any (h.alloc_ x)
  have sz := h.sz
  have hne : ¬ w.heap.size = r := by omega
  have ha := h.hao _ (Nat.le_refl _)
  generalize knd l n = kk at *
  generalize txt l n = tt at *
  generalize at0 l n = aa at *
  have b1 : (kk == 1) = false := by simpa using hk1
  have b2 : (kk == 2) = false := by simpa using hk2
  have b3 : (kk == 3) = false := by simpa using hk3
  unfold OutI
  go_enter Try.func102, Try.ntmps102
  go_wp2_with fail
  refine (P _).mono ?_
  rintro e w1 ⟨rfl, hb1⟩
  have z1 := hb1.size
  simp at z1
  have h1 := (h.alloc_ _).keep hb1
  have hlt : w.heap.size < w1.heap.size := by omega
  have e0 : w1.cell? ⟨w.heap.size, 0, none⟩ = some (.int .i64 0) := by rw [hb1.cell (p := ⟨w.heap.size, 0, none⟩) (by simp)]; simp
  have e1 : w1.cell? ⟨w.heap.size, 1, none⟩ = some (.string ⟨#[]⟩) := by rw [hb1.cell (p := ⟨w.heap.size, 1, none⟩) (by simp)]; simp
  have e2 : w1.cell? ⟨w.heap.size, 2, none⟩ = some (.slice none 0 0) := by rw [hb1.cell (p := ⟨w.heap.size, 2, none⟩) (by simp)]; simp
  have ef : ∀ i, w1.frozen? ⟨w.heap.size, i, none⟩ = false := fun i => by rw [hb1.frozen (p := ⟨w.heap.size, i, none⟩) (by simp)]; simp
  have gc : ∀ X i, (w1.alloc X).cell? ⟨w.heap.size, i, none⟩ = w1.cell? ⟨w.heap.size, i, none⟩ := fun X i => World.cell?_alloc_lt _ _ _ hlt
  have gf : ∀ X i, (w1.alloc X).frozen? ⟨w.heap.size, i, none⟩ = false := fun X i => by
    rw [World.frozen?_alloc_old _ _ _ (by simp; omega), hb1.frozen (p := ⟨w.heap.size, i, none⟩) (by simp)]; simp
  go_wp2_with fail
  refine bodyPost_ret (v := .tuple #[.agg #[.int .i64 0, .string ⟨#[]⟩, .slice none 0 0], .bool false]) (by simp [results, Try.results102, go_sem, e0, e1, e2, hlt]) rfl ⟨rfl, ?_, ?_⟩
  · exact (((h1.off (by simp; omega) ha _).off (by simp; omega) ha _).off (by simp; omega) ha _).alloc_ _
  · exact ((((((But.refl r w).alloc _).trans (But.of_below hb1)).setCell (.inr (Nat.le_refl _)) _).setCell (.inr (Nat.le_refl _)) _).setCell (.inr (Nat.le_refl _)) _).alloc _
set_option maxRecDepth 100000 in
set_option maxHeartbeats 2000000 in
theorem item_sign_no (h : RdS w r ao cap l en n p o) (hk : knd l n = 3) (hc : (brk (txt l n)).2 = ⟨#[]⟩) :
    Calls Try.prog 102 #[.pointer (some ⟨r, 0, none⟩)] w (OutI r ao cap l en o w (.ok none n p)) := by
  have P := fun x => peek_any (h.alloc_ x)
  have sz := h.sz
  have hne : ¬ w.heap.size = r := by omega
  have ha := h.hao _ (Nat.le_refl _)
  rw [hk] at P
  have BR := bracket_any (txt l n)
  rw [hc] at BR
  generalize (brk (txt l n)).1 = op at *
  generalize txt l n = tt at *
  generalize at0 l n = aa at *
  clear hk hc
  unfold OutI
  go_enter Try.func102, Try.ntmps102
  go_wp2_with fail
  refine (P _).mono ?_
  rintro e w1 ⟨rfl, hb1⟩
  have z1 := hb1.size
  simp at z1
  have h1 := (h.alloc_ _).keep hb1
  have hlt : w.heap.size < w1.heap.size := by omega
  have e0 : w1.cell? ⟨w.heap.size, 0, none⟩ = some (.int .i64 0) := by rw [hb1.cell (p := ⟨w.heap.size, 0, none⟩) (by simp)]; simp
  have e1 : w1.cell? ⟨w.heap.size, 1, none⟩ = some (.string ⟨#[]⟩) := by rw [hb1.cell (p := ⟨w.heap.size, 1, none⟩) (by simp)]; simp
  have e2 : w1.cell? ⟨w.heap.size, 2, none⟩ = some (.slice none 0 0) := by rw [hb1.cell (p := ⟨w.heap.size, 2, none⟩) (by simp)]; simp
  have ef : ∀ i, w1.frozen? ⟨w.heap.size, i, none⟩ = false := fun i => by rw [hb1.frozen (p := ⟨w.heap.size, i, none⟩) (by simp)]; simp
  have gc : ∀ X i, (w1.alloc X).cell? ⟨w.heap.size, i, none⟩ = w1.cell? ⟨w.heap.size, i, none⟩ := fun X i => World.cell?_alloc_lt _ _ _ hlt
  have gf : ∀ X i, (w1.alloc X).frozen? ⟨w.heap.size, i, none⟩ = false := fun X i => by
    rw [World.frozen?_alloc_old _ _ _ (by simp; omega), hb1.frozen (p := ⟨w.heap.size, i, none⟩) (by simp)]; simp
  go_wp2_with fail
  refine (BR _).mono ?_
  rintro e wx ⟨rfl, hwx⟩; obtain rfl := hwx.symm
  go_wp2_with fail
  refine bodyPost_ret (v := .tuple #[.agg #[.int .i64 0, .string ⟨#[]⟩, .slice none 0 0], .bool false]) (by simp [results, Try.results102, go_sem, e0, e1, e2, hlt]) rfl ⟨rfl, ?_, ?_⟩
  · exact (((h1.off (by simp; omega) ha _).off (by simp; omega) ha _).off (by simp; omega) ha _).alloc_ _
  · exact ((((((But.refl r w).alloc _).trans (But.of_below hb1)).setCell (.inr (Nat.le_refl _)) _).setCell (.inr (Nat.le_refl _)) _).setCell (.inr (Nat.le_refl _)) _).alloc _
set_option maxRecDepth 100000 in
set_option maxHeartbeats 2000000 in
theorem item_deep (h : RdS w r ao cap l en n p o) (hk : knd l n = 3) (hc : (brk (txt l n)).2 ≠ ⟨#[]⟩) (ho : o = 40) :
    Calls Try.prog 102 #[.pointer (some ⟨r, 0, none⟩)] w (OutI r ao cap l en o w (.err 5 (plc l en n))) := by
  have P := fun x => peek_any (h.alloc_ x)
  rw [hk] at P
  have BR := bracket_any (txt l n)
  unfold OutI
  have hcl : ((brk (txt l n)).2.toList == []) = false := by
    have := beq_str (brk (txt l n)).2 ⟨#[]⟩
    rw [ByteArray.toList_eq ⟨#[]⟩] at this
    exact this.trans (by simpa using hc)
  generalize (brk (txt l n)).1 = op at *
  generalize (brk (txt l n)).2 = cl at *
  generalize txt l n = tt at *
  generalize at0 l n = aa at *
  clear hk hc
  go_enter Try.func102, Try.ntmps102
  go_wp2_with fail
  refine (P _).mono ?_
  rintro e w1 ⟨rfl, hb1⟩
  have z1 := hb1.size
  simp at z1
  have h1 := (h.alloc_ _).keep hb1
  go_wp2_with fail
  refine (BR _).mono ?_
  rintro e wx ⟨rfl, hwx⟩; obtain rfl := hwx.symm
  go_wp2_with fail
  refine (inside_deep (h1.alloc_ _) ho op cl).mono ?_
  rintro e w2 h2
  obtain ⟨rfl, h3, h4, h5⟩ := Pan.but h2 ((((But.refl r w).alloc _).trans (But.of_below hb1)).alloc _)
  go_wp2_with fail
  exact ⟨rfl, rfl, h3, h4, h5⟩
set_option maxRecDepth 100000 in
set_option maxHeartbeats 2000000 in
theorem item_many (h : RdS w r ao cap l en n p o) (hk : knd l n = 3) (hc : (brk (txt l n)).2 ≠ ⟨#[]⟩) (ho : ¬ o = 40) (hp : p = 60) :
    Calls Try.prog 102 #[.pointer (some ⟨r, 0, none⟩)] w (OutI r ao cap l en o w (.err 6 (plc l en n))) := by
  have P := fun x => peek_any (h.alloc_ x)
  rw [hk] at P
  have BR := bracket_any (txt l n)
  unfold OutI
  have hcl : ((brk (txt l n)).2.toList == []) = false := by
    have := beq_str (brk (txt l n)).2 ⟨#[]⟩
    rw [ByteArray.toList_eq ⟨#[]⟩] at this
    exact this.trans (by simpa using hc)
  generalize (brk (txt l n)).1 = op at *
  generalize (brk (txt l n)).2 = cl at *
  generalize txt l n = tt at *
  generalize at0 l n = aa at *
  clear hk hc
  go_enter Try.func102, Try.ntmps102
  go_wp2_with fail
  refine (P _).mono ?_
  rintro e w1 ⟨rfl, hb1⟩
  have z1 := hb1.size
  simp at z1
  have h1 := (h.alloc_ _).keep hb1
  go_wp2_with fail
  refine (BR _).mono ?_
  rintro e wx ⟨rfl, hwx⟩; obtain rfl := hwx.symm
  go_wp2_with fail
  refine (inside_many (h1.alloc_ _) ho hp op cl).mono ?_
  rintro e w2 h2
  obtain ⟨rfl, h3, h4, h5⟩ := Pan.but h2 ((((But.refl r w).alloc _).trans (But.of_below hb1)).alloc _)
  go_wp2_with fail
  exact ⟨rfl, rfl, h3, h4, h5⟩
set_option maxRecDepth 100000 in
set_option maxHeartbeats 2000000 in
theorem item_sign {k : Nat} (H : AltOK r ao cap l en k) (h : RdS w r ao cap l en n p o) (hk : knd l n = 3) (hc : (brk (txt l n)).2 ≠ ⟨#[]⟩) (ho : ¬ o = 40) (hp : ¬ p = 60) (hf : 4 * (l.length - n) ≤ k) :
    Calls Try.prog 102 #[.pointer (some ⟨r, 0, none⟩)] w (OutI r ao cap l en o w (match alt l en k (n + 1) (p + 1) (o + 1) with
        | .ok x n' p' => if isS l n' (brk (txt l n)).2 = true then .ok (some (wrap (brk (txt l n)).1 x)) (n' + 1) p' else .err (fm l n') (plc l en n')
        | .err c a => .err c a
        | .out => .out)) := by
  have hn := lt_of_knd hk (by decide)
  have P := fun x => peek_any (h.alloc_ x)
  have I := fun w1 h1 => inside_any (w := w1) H h1 ho hp hn hf
  have sz := h.sz
  have hne : ¬ w.heap.size = r := by omega
  have ha := h.hao _ (Nat.le_refl _)
  rw [hk] at P
  have BR := bracket_any (txt l n)
  unfold OutI
  have hcl : ((brk (txt l n)).2.toList == []) = false := by
    have := beq_str (brk (txt l n)).2 ⟨#[]⟩
    rw [ByteArray.toList_eq ⟨#[]⟩] at this
    exact this.trans (by simpa using hc)
  generalize (brk (txt l n)).1 = op at *
  generalize (brk (txt l n)).2 = cl at *
  generalize txt l n = tt at *
  generalize at0 l n = aa at *
  clear hk hc
  cases hA : alt l en k (n + 1) (p + 1) (o + 1) with
  | out =>
    simp only [hA] at I
    replace I := fun w1 h1 => I w1 h1 op cl
    go_enter Try.func102, Try.ntmps102
    go_wp2_with fail
    refine (P _).mono ?_
    rintro e w1 ⟨rfl, hb1⟩
    have z1 := hb1.size
    simp at z1
    have h1 := (h.alloc_ _).keep hb1
    go_wp2_with fail
    refine (BR _).mono ?_
    rintro e wx ⟨rfl, hwx⟩; obtain rfl := hwx.symm
    go_wp2_with fail
    refine (I _ (h1.alloc_ _)).mono ?_
    rintro e w2 h2
    exact h2.elim
  | err c a =>
    simp only [hA] at I
    replace I := fun w1 h1 => I w1 h1 op cl
    go_enter Try.func102, Try.ntmps102
    go_wp2_with fail
    refine (P _).mono ?_
    rintro e w1 ⟨rfl, hb1⟩
    have z1 := hb1.size
    simp at z1
    have h1 := (h.alloc_ _).keep hb1
    go_wp2_with fail
    refine (BR _).mono ?_
    rintro e wx ⟨rfl, hwx⟩; obtain rfl := hwx.symm
    go_wp2_with fail
    refine (I _ (h1.alloc_ _)).mono ?_
    rintro e w2 h2
    obtain ⟨rfl, h3, h4, h5⟩ := Pan.but h2 ((((But.refl r w).alloc _).trans (But.of_below hb1)).alloc _)
    go_wp2_with fail
    exact ⟨rfl, rfl, h3, h4, h5⟩
  | ok x n' p' =>
    simp only [hA] at I
    replace I := fun w1 h1 => I w1 h1 op cl
    by_cases hs : isS l n' cl = true
    · simp only [if_pos hs] at I ⊢
      generalize wrap op x = y at *
      go_enter Try.func102, Try.ntmps102
      go_wp2_with fail
      refine (P _).mono ?_
      rintro e w1 ⟨rfl, hb1⟩
      have z1 := hb1.size
      simp at z1
      have h1 := (h.alloc_ _).keep hb1
      go_wp2_with fail
      refine (BR _).mono ?_
      rintro e wx ⟨rfl, hwx⟩; obtain rfl := hwx.symm
      go_wp2_with fail
      refine (I _ (h1.alloc_ _)).mono ?_
      rintro e w2 ⟨v, rfl, hx, h2, hb2⟩
      have hx' : XV w2 (fun k => w.heap.size + 1 ≤ k) v y := hx.mono fun b o v hs hc => ⟨by simp at hs; omega, hc⟩
      clear hx
      have hxx := hx'
      obtain ⟨u, rfl, hl, ao', cap', rfl, hin⟩ := hx'
      clear hin
      have z2 := hb2.size
      simp at z2
      have bA := ((But.of_below (r := r) hb1).alloc (.cells #[.int .i64 3, .int .i64 aa, .string tt] 87)).trans hb2
      have e0 : w2.cell? ⟨w.heap.size, 0, none⟩ = some (.int .i64 0) := by rw [bA.cell (by simp) hne]; simp
      have e1 : w2.cell? ⟨w.heap.size, 1, none⟩ = some (.string ⟨#[]⟩) := by rw [bA.cell (by simp) hne]; simp
      have e2 : w2.cell? ⟨w.heap.size, 2, none⟩ = some (.slice none 0 0) := by rw [bA.cell (by simp) hne]; simp
      have ef : ∀ i, w2.frozen? ⟨w.heap.size, i, none⟩ = false := fun i => by rw [bA.frozen (by simp) hne]; simp
      have bC := ((But.refl r w).alloc _).trans bA
      clear P I BR bA hb1 hb2
      go_wp2_with fail
      refine bodyPost_ret (v := .tuple #[.agg #[.int .i64 y.op, .string y.nm, .slice ao' y.kids.len cap'], .bool true]) (by simp [results, Try.results102, go_sem, e0, e1, e2]) rfl ⟨_, rfl, ?_, ?_, ?_⟩
      · exact hxx.kp ((((Kp.refl _ w2).setCell (.inl (by simp)) _).setCell (.inl (by simp)) _).setCell (.inl (by simp)) _) (fun k _ h => by omega)
      · exact ((h2.off (by simp; omega) ha _).off (by simp; omega) ha _).off (by simp; omega) ha _
      · exact ((bC.setCell (.inr (Nat.le_refl _)) _).setCell (.inr (Nat.le_refl _)) _).setCell (.inr (Nat.le_refl _)) _
    · simp only [if_neg hs] at I ⊢
      go_enter Try.func102, Try.ntmps102
      go_wp2_with fail
      refine (P _).mono ?_
      rintro e w1 ⟨rfl, hb1⟩
      have z1 := hb1.size
      simp at z1
      have h1 := (h.alloc_ _).keep hb1
      go_wp2_with fail
      refine (BR _).mono ?_
      rintro e wx ⟨rfl, hwx⟩; obtain rfl := hwx.symm
      go_wp2_with fail
      refine (I _ (h1.alloc_ _)).mono ?_
      rintro e w2 h2
      obtain ⟨rfl, h3, h4, h5⟩ := Pan.but h2 ((((But.refl r w).alloc _).trans (But.of_below hb1)).alloc _)
      go_wp2_with fail
      exact ⟨rfl, rfl, h3, h4, h5⟩
theorem item_step {k : Nat} (H : AltOK r ao cap l en k) : ItemOK r ao cap l en (k + 1) := by
  intro n p o w h hf
  rw [item]
  by_cases h1 : knd l n = 1
  · rw [if_pos h1]
    by_cases hp : p = 60
    · rw [if_pos hp]; exact item_name_no h h1 hp
    · rw [if_neg hp]; exact item_name h h1 hp
  rw [if_neg h1]
  by_cases h2 : knd l n = 2
  · rw [if_pos h2]
    by_cases hp : p = 60
    · rw [if_pos hp]; exact item_term_no h h2 hp
    · rw [if_neg hp]; exact item_term h h2 hp
  rw [if_neg h2]
  by_cases h3 : opn l n = true
  · rw [if_pos h3]
    simp [opn] at h3
    by_cases ho : o = 40
    · rw [if_pos ho]; exact item_deep h h3.1 h3.2 ho
    · rw [if_neg ho]
      by_cases hp : p = 60
      · rw [if_pos hp]; exact item_many h h3.1 h3.2 ho hp
      · rw [if_neg hp]; exact item_sign H h h3.1 h3.2 ho hp (by omega)
  · rw [if_neg h3]
    by_cases h4 : knd l n = 3
    · refine item_sign_no h h4 ?_
      simpa [opn, h4] using h3
    · exact item_none h h1 h2 h4
end
end Go.Proofs.Ytdikjhfnmkejcab
