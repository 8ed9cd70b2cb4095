/- Definitions: as they lie in memory, and the reader's own function. -/
import Derived.Test.YtdikjhfnmkejcabRow
namespace Go.Proofs.Ytdikjhfnmkejcab
open Go.RowKit
/-- A definition's value. -/
def DV (w : World) (S : Nat → Prop) (v : Value) (d : Df) : Prop := ∃ u, v = .agg #[.string d.nm, .int .i64 d.at_, .int .i64 d.e.op, .string d.e.nm, u] ∧ FoV w S u d.e.kids
/-- Definitions lie in a block from a place on. -/
def DsIn (w : World) (S : Nat → Prop) : List Df → Nat → Nat → Prop
  | [], _, _ => True
  | d :: l, b, o => S b ∧ w.cell? ⟨b, o, none⟩ = some (.string d.nm) ∧ w.cell? ⟨b, o + 1, none⟩ = some (.int .i64 d.at_) ∧ XIn w S d.e b (o + 2) ∧ DsIn w S l b (o + 5)
def DsV (w : World) (S : Nat → Prop) (v : Value) (ds : List Df) : Prop :=
  ds.length ≤ 9223372036854775807 ∧ ∃ ao cap, v = .slice ao ds.length cap ∧ (ds.length = 0 ∨ ∃ b o, ao = some ⟨b, o, none⟩ ∧ DsIn w S ds b o)
/-- The cells of definitions. -/
def DC (w : World) (S : Nat → Prop) : List Value → List Df → Prop
  | [], [] => True
  | a :: b :: c :: d :: e :: xs, x :: l => a = .string x.nm ∧ b = .int .i64 x.at_ ∧ c = .int .i64 x.e.op ∧ d = .string x.e.nm ∧ FoV w S e x.e.kids ∧ DC w S xs l
  | _, _ => False
theorem DC.mono {w w' : World} {S T : Nat → Prop} (hc : ∀ b o v, S b → w.cell? ⟨b, o, none⟩ = some v → T b ∧ w'.cell? ⟨b, o, none⟩ = some v) :
    ∀ {xs : List Value} {f : List Df}, DC w S xs f → DC w' T xs f
  | [], [], _ => trivial
  | a :: b :: c :: d :: e :: xs, x :: l, ⟨h1, h2, h3, h4, h5, h6⟩ => ⟨h1, h2, h3, h4, FoV.mono hc h5, DC.mono hc h6⟩
  | [], _ :: _, h => by simp [DC] at h
  | [_], _, h => by simp [DC] at h
  | [_, _], _, h => by simp [DC] at h
  | [_, _, _], _, h => by simp [DC] at h
  | [_, _, _, _], _, h => by simp [DC] at h
  | _ :: _ :: _ :: _ :: _ :: _, [], h => by simp [DC] at h
theorem DC.kp {w w' : World} {S T : Nat → Prop} {v : List Value} {x : List Df} (h : DC w S v x) (hk : Kp S w w') (hT : ∀ k, k < w.heap.size → S k → T k) : DC w' T v x := h.mono (keep_cell hT hk.block)
theorem DC.snoc {w : World} {S : Nat → Prop} {x : Df} {u : Value} (hu : FoV w S u x.e.kids) :
    ∀ {xs : List Value} {f : List Df}, DC w S xs f → DC w S (xs ++ [.string x.nm, .int .i64 x.at_, .int .i64 x.e.op, .string x.e.nm, u]) (f ++ [x])
  | [], [], _ => ⟨rfl, rfl, rfl, rfl, hu, trivial⟩
  | a :: b :: c :: d :: e :: xs, x :: l, ⟨h1, h2, h3, h4, h5, h6⟩ => ⟨h1, h2, h3, h4, h5, DC.snoc hu h6⟩
  | [], _ :: _, h => by simp [DC] at h
  | [_], _, h => by simp [DC] at h
  | [_, _], _, h => by simp [DC] at h
  | [_, _, _], _, h => by simp [DC] at h
  | [_, _, _, _], _, h => by simp [DC] at h
  | _ :: _ :: _ :: _ :: _ :: _, [], h => by simp [DC] at h
theorem DC.in_ {w : World} {S T : Nat → Prop} {b : Nat} (hb : T b) (hST : ∀ k, S k → T k) :
    ∀ {xs : List Value} {f : List Df} {o : Nat}, DC w S xs f → (∀ j v, xs[j]? = some v → w.cell? ⟨b, o + j, none⟩ = some v) → DsIn w T f b o
  | [], [], _, _, _ => trivial
  | a :: x :: c :: d :: e :: xs, y :: l, o, ⟨h1, h2, h3, h4, h5, h6⟩, hx => by
    refine ⟨hb, by have := hx 0 a rfl; rw [h1] at this; simpa using this, by have := hx 1 x rfl; rw [h2] at this; simpa using this, ⟨by have := hx 2 c rfl; rw [h3] at this; simpa using this, by have := hx 3 d rfl; rw [h4] at this; simpa using this, e, hx 4 _ rfl, h5.mono fun _ _ _ hs h => ⟨hST _ hs, h⟩⟩, ?_⟩
    refine DC.in_ hb hST h6 fun j v hj => ?_
    have := hx (j + 5) v (by simpa using hj)
    rwa [show o + (j + 5) = o + 5 + j by omega] at this
  | [], _ :: _, _, h, _ => by simp [DC] at h
  | [_], _, _, h, _ => by simp [DC] at h
  | [_, _], _, _, h, _ => by simp [DC] at h
  | [_, _, _], _, _, h, _ => by simp [DC] at h
  | [_, _, _, _], _, _, h, _ => by simp [DC] at h
  | _ :: _ :: _ :: _ :: _ :: _, [], _, h, _ => by simp [DC] at h
theorem DsV_owned {w : World} {S T : Nat → Prop} {base : Nat} {e : TypeId} {v : Value} {xs : List Value} {f : List Df} (hown : w.ownsRow base e 5 v f.length xs) (hc : DC w S xs f) (hST : ∀ k, S k → T k) (hT : ∀ k, base ≤ k → T k) (hl : f.length ≤ 9223372036854775807) : DsV w T v f := by
  have h0 := hown
  obtain ⟨h1, h2 | ⟨g, cap, cur, e1, e2, e3, e4⟩⟩ := hown
  · exact ⟨hl, none, 0, by rw [h2.1, h2.2], .inl h2.2⟩
  · refine ⟨hl, some ⟨g, 0, none⟩, cap, e1, .inr ⟨g, 0, rfl, DC.in_ (hT g e2) hST hc fun j u hj => ?_⟩⟩
    subst e1
    have hj' : j < xs.length := by
      rcases Nat.lt_or_ge j xs.length with h | h
      · exact h
      · rw [List.getElem?_eq_none h] at hj; cases hj
    have := World.ownsRow.cellAt h0 j (by omega)
    rw [show 0 + j = j by omega, this]; exact hj
theorem XIn.mono {w w' : World} {S T : Nat → Prop} (hc : ∀ b o v, S b → w.cell? ⟨b, o, none⟩ = some v → T b ∧ w'.cell? ⟨b, o, none⟩ = some v) {x : Xp} {b o : Nat} (hb : S b) (h : XIn w S x b o) : XIn w' T x b o :=
  let ⟨h1, h2, u, h3, h4⟩ := h
  ⟨(hc _ _ _ hb h1).2, (hc _ _ _ hb h2).2, u, (hc _ _ _ hb h3).2, h4.mono hc⟩
theorem DsIn.mono {w w' : World} {S T : Nat → Prop} (hc : ∀ b o v, S b → w.cell? ⟨b, o, none⟩ = some v → T b ∧ w'.cell? ⟨b, o, none⟩ = some v) :
    ∀ {f : List Df} {b o : Nat}, DsIn w S f b o → DsIn w' T f b o
  | [], _, _, _ => trivial
  | _ :: _, _, _, ⟨h0, h1, h2, h3, h4⟩ => ⟨(hc _ _ _ h0 h1).1, (hc _ _ _ h0 h1).2, (hc _ _ _ h0 h2).2, h3.mono hc h0, DsIn.mono hc h4⟩
theorem DsV.mono {w w' : World} {S T : Nat → Prop} (hc : ∀ b o v, S b → w.cell? ⟨b, o, none⟩ = some v → T b ∧ w'.cell? ⟨b, o, none⟩ = some v) {v : Value} {f : List Df} (h : DsV w S v f) : DsV w' T v f :=
  let ⟨h1, ao, cap, h2, h3⟩ := h
  ⟨h1, ao, cap, h2, h3.imp id fun ⟨b, o, e, h⟩ => ⟨b, o, e, DsIn.mono hc h⟩⟩
theorem DsV.kp {w w' : World} {S T : Nat → Prop} {v : Value} {x : List Df} (h : DsV w S v x) (hk : Kp S w w') (hT : ∀ k, k < w.heap.size → S k → T k) : DsV w' T v x := h.mono (keep_cell hT hk.block)
section
variable {r : Nat} {ao : Option Addr} {cap : Nat} {l : List Tk} {en : Int}
def OutD (r : Nat) (ao : Option Addr) (cap : Nat) (l : List Tk) (en : Int) (w : World) (res : Res Df) (e : Ending) (w' : World) : Prop :=
  match res with
  | .ok d n p => ∃ v, e = .returned v ∧ DV w' (fun k => w.heap.size ≤ k) v d ∧ RdS w' r ao cap l en n p 0 ∧ But r w w'
  | .err c a => Pan r c a w e w'
  | .out => False
variable {n p : Nat} {w : World}
set_option maxRecDepth 100000 in
set_option maxHeartbeats 2000000 in
theorem def_no1 (h : RdS w r ao cap l en n p 0) (hk : ¬ knd l n = 1) :
    Calls Try.prog 60 #[.pointer (some ⟨r, 0, none⟩)] w (OutD r ao cap l en w (.err (fm l n) (plc l en n))) := by
  have P := fun x => peek_any (h.alloc_ x)
  unfold OutD
  generalize knd l n = kk at *
  generalize txt l n = tt at *
  generalize at0 l n = aa at *
  have b1 : (kk == 1) = false := by simpa using hk
  go_enter Try.func60, Try.ntmps60
  go_wp2_with fail
  refine (P _).mono ?_
  rintro e w1 ⟨rfl, hb1⟩
  have h1 := ((h.alloc_ _).keep hb1).alloc_ (.cells #[.int .i64 kk, .int .i64 aa, .string tt] 87)
  have z1 := hb1.size
  simp at z1
  have bb1 : But r w (w1.alloc (.cells #[.int .i64 kk, .int .i64 aa, .string tt] 87)) := (((But.refl r w).alloc _).trans (But.of_below hb1)).alloc _
  go_wp2_with fail
  refine (need_no h1 false (fun _ => rfl)).mono ?_
  rintro e w2 h2
  obtain ⟨rfl, h3, h4, h5⟩ := Pan.but h2 bb1
  go_wp2_with fail
  exact ⟨rfl, rfl, h3, h4, h5⟩
set_option maxRecDepth 100000 in
set_option maxHeartbeats 2000000 in
theorem def_no2 (h : RdS w r ao cap l en n p 0) (hk : knd l n = 1) (hs : isS l (n + 1) ⟨#[61]⟩ = false) :
    Calls Try.prog 60 #[.pointer (some ⟨r, 0, none⟩)] w (OutD r ao cap l en w (.err (fm l (n + 1)) (plc l en (n + 1)))) := by
  have P := fun x => peek_any (h.alloc_ x)
  have hn := lt_of_knd hk (by decide)
  rw [hk] at P
  unfold OutD
  generalize txt l n = tt at *
  generalize at0 l n = aa at *
  go_enter Try.func60, Try.ntmps60
  go_wp2_with fail
  refine (P _).mono ?_
  rintro e w1 ⟨rfl, hb1⟩
  have h1 := ((h.alloc_ _).keep hb1).alloc_ (.cells #[.int .i64 1, .int .i64 aa, .string tt] 87)
  have z1 := hb1.size
  simp at z1
  have bb1 : But r w (w1.alloc (.cells #[.int .i64 1, .int .i64 aa, .string tt] 87)) := (((But.refl r w).alloc _).trans (But.of_below hb1)).alloc _
  go_wp2_with fail
  refine (need_yes h1 hn).mono ?_
  rintro e w2 ⟨rfl, h2, hb2⟩
  have z2 := hb2.size
  simp at z2
  have bb2 := bb1.trans hb2
  go_wp2_with fail
  refine (sees_any h2 ⟨#[61]⟩).mono ?_
  rintro e w3 ⟨rfl, hb3⟩
  rw [hs]
  have z3 := hb3.size
  have h3 := h2.keep hb3
  have bb3 := bb2.trans (But.of_below (r := r) hb3)
  go_wp2_with fail
  refine (need_no h3 false (fun _ => rfl)).mono ?_
  rintro e w4 h4
  obtain ⟨rfl, h5, h6, h7⟩ := Pan.but h4 bb3
  go_wp2_with fail
  exact ⟨rfl, rfl, h5, h6, h7⟩
set_option maxRecDepth 100000 in
set_option maxHeartbeats 4000000 in
theorem def_main (h : RdS w r ao cap l en n p 0) (hk : knd l n = 1) (hs : isS l (n + 1) ⟨#[61]⟩ = true) :
    Calls Try.prog 60 #[.pointer (some ⟨r, 0, none⟩)] w (OutD r ao cap l en w (match alt l en (fuel l) (n + 2) 0 0 with
      | .ok x n' p' => if isS l n' ⟨#[59]⟩ = true then .ok ⟨txt l n, at0 l n, x⟩ (n' + 1) p' else .err (fm l n') (plc l en n')
      | .err c a => .err c a
      | .out => .out)) := by
  have P := fun x => peek_any (h.alloc_ x)
  have hn := lt_of_knd hk (by decide)
  have hn2 := lt_of_isS hs
  have sz := h.sz
  have hne : ¬ w.heap.size = r := by omega
  have htk := h.tkb
  have ha := h.hao _ (Nat.le_refl _)
  rw [hk] at P
  have A := fun w1 h1 => (all_ok (r := r) (ao := ao) (cap := cap) (l := l) (en := en) (fuel l)).2.2 (n + 2) 0 0 w1 h1 (by unfold fuel; omega)
  unfold OutD
  generalize txt l n = tt at *
  generalize at0 l n = aa at *
  cases hA : alt l en (fuel l) (n + 2) 0 0 with
  | out =>
    simp only [hA] at A
    go_enter Try.func60, Try.ntmps60
    go_wp2_with fail
    refine (P _).mono ?_
    rintro e w1 ⟨rfl, hb1⟩
    have h1 := ((h.alloc_ _).keep hb1).alloc_ (.cells #[.int .i64 1, .int .i64 aa, .string tt] 87)
    have z1 := hb1.size
    simp at z1
    have bb1 : But r w (w1.alloc (.cells #[.int .i64 1, .int .i64 aa, .string tt] 87)) := (((But.refl r w).alloc _).trans (But.of_below hb1)).alloc _
    go_wp2_with fail
    refine (need_yes h1 hn).mono ?_
    rintro e w2 ⟨rfl, h2, hb2⟩
    have z2 := hb2.size
    simp at z2
    have bb2 := bb1.trans hb2
    go_wp2_with fail
    refine (sees_any h2 ⟨#[61]⟩).mono ?_
    rintro e w3 ⟨rfl, hb3⟩
    rw [hs]
    have z3 := hb3.size
    have h3 := h2.keep hb3
    have bb3 := bb2.trans (But.of_below (r := r) hb3)
    go_wp2_with fail
    refine (need_yes h3 hn2).mono ?_
    rintro e w4 ⟨rfl, h4, hb4⟩
    have z4 := hb4.size
    have bb4 := bb3.trans hb4
    have q3 := h4.c3
    have qf := h4.fz
    go_wp2_with fail
    have h5 := h4.setParts (q := 0) (by omega)
    have bb5 := bb4.setCell (p := ⟨r, 3, none⟩) (.inl rfl) (.int .i64 0)
    have z5 : (w4.setCell ⟨r, 3, none⟩ (.int .i64 0)).heap.size = w4.heap.size := by simp [World.setCell]
    obtain ⟨w5, hw5⟩ : ∃ w5, w5 = w4.setCell ⟨r, 3, none⟩ (.int .i64 0) := ⟨_, rfl⟩
    rw [show ((0 : Nat) : Int) = 0 from rfl] at h5
    rw [← hw5] at h5 bb5 z5 ⊢
    refine (A _ h5).mono ?_
    rintro e w6 h6
    exact h6.elim
  | err c a =>
    simp only [hA] at A
    go_enter Try.func60, Try.ntmps60
    go_wp2_with fail
    refine (P _).mono ?_
    rintro e w1 ⟨rfl, hb1⟩
    have h1 := ((h.alloc_ _).keep hb1).alloc_ (.cells #[.int .i64 1, .int .i64 aa, .string tt] 87)
    have z1 := hb1.size
    simp at z1
    have bb1 : But r w (w1.alloc (.cells #[.int .i64 1, .int .i64 aa, .string tt] 87)) := (((But.refl r w).alloc _).trans (But.of_below hb1)).alloc _
    go_wp2_with fail
    refine (need_yes h1 hn).mono ?_
    rintro e w2 ⟨rfl, h2, hb2⟩
    have z2 := hb2.size
    simp at z2
    have bb2 := bb1.trans hb2
    go_wp2_with fail
    refine (sees_any h2 ⟨#[61]⟩).mono ?_
    rintro e w3 ⟨rfl, hb3⟩
    rw [hs]
    have z3 := hb3.size
    have h3 := h2.keep hb3
    have bb3 := bb2.trans (But.of_below (r := r) hb3)
    go_wp2_with fail
    refine (need_yes h3 hn2).mono ?_
    rintro e w4 ⟨rfl, h4, hb4⟩
    have z4 := hb4.size
    have bb4 := bb3.trans hb4
    have q3 := h4.c3
    have qf := h4.fz
    go_wp2_with fail
    have h5 := h4.setParts (q := 0) (by omega)
    have bb5 := bb4.setCell (p := ⟨r, 3, none⟩) (.inl rfl) (.int .i64 0)
    have z5 : (w4.setCell ⟨r, 3, none⟩ (.int .i64 0)).heap.size = w4.heap.size := by simp [World.setCell]
    obtain ⟨w5, hw5⟩ : ∃ w5, w5 = w4.setCell ⟨r, 3, none⟩ (.int .i64 0) := ⟨_, rfl⟩
    rw [show ((0 : Nat) : Int) = 0 from rfl] at h5
    rw [← hw5] at h5 bb5 z5 ⊢
    refine (A _ h5).mono ?_
    rintro e w6 h6
    obtain ⟨rfl, h7, h8, h9⟩ := Pan.but h6 bb5
    go_wp2_with fail
    exact ⟨rfl, rfl, h7, h8, h9⟩
  | ok x n' p' =>
    simp only [hA] at A
    by_cases hs2 : isS l n' ⟨#[59]⟩ = true
    · simp only [if_pos hs2]
      have hn3 := lt_of_isS hs2
      go_enter Try.func60, Try.ntmps60
      go_wp2_with fail
      refine (P _).mono ?_
      rintro e w1 ⟨rfl, hb1⟩
      have h1 := ((h.alloc_ _).keep hb1).alloc_ (.cells #[.int .i64 1, .int .i64 aa, .string tt] 87)
      have z1 := hb1.size
      simp at z1
      have bb1 : But r w (w1.alloc (.cells #[.int .i64 1, .int .i64 aa, .string tt] 87)) := (((But.refl r w).alloc _).trans (But.of_below hb1)).alloc _
      go_wp2_with fail
      refine (need_yes h1 hn).mono ?_
      rintro e w2 ⟨rfl, h2, hb2⟩
      have z2 := hb2.size
      simp at z2
      have bb2 := bb1.trans hb2
      go_wp2_with fail
      refine (sees_any h2 ⟨#[61]⟩).mono ?_
      rintro e w3 ⟨rfl, hb3⟩
      rw [hs]
      have z3 := hb3.size
      have h3 := h2.keep hb3
      have bb3 := bb2.trans (But.of_below (r := r) hb3)
      go_wp2_with fail
      refine (need_yes h3 hn2).mono ?_
      rintro e w4 ⟨rfl, h4, hb4⟩
      have z4 := hb4.size
      have bb4 := bb3.trans hb4
      have q3 := h4.c3
      have qf := h4.fz
      go_wp2_with fail
      have h5 := h4.setParts (q := 0) (by omega)
      have bb5 := bb4.setCell (p := ⟨r, 3, none⟩) (.inl rfl) (.int .i64 0)
      have z5 : (w4.setCell ⟨r, 3, none⟩ (.int .i64 0)).heap.size = w4.heap.size := by simp [World.setCell]
      obtain ⟨w5, hw5⟩ : ∃ w5, w5 = w4.setCell ⟨r, 3, none⟩ (.int .i64 0) := ⟨_, rfl⟩
      rw [show ((0 : Nat) : Int) = 0 from rfl] at h5
      rw [← hw5] at h5 bb5 z5 ⊢
      refine (A _ h5).mono ?_
      rintro e w6 ⟨v, rfl, hx, h6, hb6⟩
      have z6 := hb6.size
      have hxx := hx
      obtain ⟨u, rfl, hl, ao', cap', rfl, hin⟩ := hx
      clear hin
      have h7 := h6.alloc_ (.cells #[.int .i64 x.op, .string x.nm, .slice ao' x.kids.len cap'] 48)
      have bb7 := (bb5.trans hb6).alloc (.cells #[.int .i64 x.op, .string x.nm, .slice ao' x.kids.len cap'] 48)
      go_wp2_with fail
      refine (sees_any h7 ⟨#[59]⟩).mono ?_
      rintro e w8 ⟨rfl, hb8⟩
      rw [hs2]
      have z8 := hb8.size
      simp at z8
      have h8 := h7.keep hb8
      go_wp2_with fail
      refine (need_yes h8 hn3).mono ?_
      rintro e w9 ⟨rfl, h9, hb9⟩
      have z9 := hb9.size
      have bb9 := (bb7.trans (But.of_below hb8)).trans hb9
      have bT := ((((hb2.trans (But.of_below hb3)).trans hb4).setCell (p := ⟨r, 3, none⟩) (.inl rfl) (.int .i64 0)).trans (hw5 ▸ hb6)).trans ((((But.refl r w6).alloc _).trans (But.of_below hb8)).trans hb9)
      have bE := (But.of_below (r := r) hb8).trans hb9
      have bR := ((But.of_below (r := r) hb1).alloc _).trans bT
      have kE : Kp (fun k => w5.heap.size ≤ k) w6 w9 := (((Kp.refl _ w6).alloc _).trans (Kp.of_below hb8)).trans (Kp.of_but hb9 (by omega))
      have hne1 : ¬ w1.heap.size = r := by omega
      have hne6 : ¬ w6.heap.size = r := by omega
      have t1 : w9.cell? ⟨w1.heap.size, 1, none⟩ = some (.int .i64 aa) := by rw [bT.cell (by simp) hne1]; simp
      have t2 : w9.cell? ⟨w1.heap.size, 2, none⟩ = some (.string tt) := by rw [bT.cell (by simp) hne1]; simp
      have d0 : w9.cell? ⟨w6.heap.size, 0, none⟩ = some (.int .i64 x.op) := by rw [bE.cell (by simp) hne6]; simp
      have d1 : w9.cell? ⟨w6.heap.size, 1, none⟩ = some (.string x.nm) := by rw [bE.cell (by simp) hne6]; simp
      have d2 : w9.cell? ⟨w6.heap.size, 2, none⟩ = some (.slice ao' x.kids.len cap') := by rw [bE.cell (by simp) hne6]; simp
      have f0 : w9.cell? ⟨w.heap.size, 0, none⟩ = some (.string ⟨#[]⟩) := by rw [bR.cell (by simp) hne]; simp
      have f1 : w9.cell? ⟨w.heap.size, 1, none⟩ = some (.int .i64 0) := by rw [bR.cell (by simp) hne]; simp
      have f2 : w9.cell? ⟨w.heap.size, 2, none⟩ = some (.int .i64 0) := by rw [bR.cell (by simp) hne]; simp
      have f3 : w9.cell? ⟨w.heap.size, 3, none⟩ = some (.string ⟨#[]⟩) := by rw [bR.cell (by simp) hne]; simp
      have f4 : w9.cell? ⟨w.heap.size, 4, none⟩ = some (.slice none 0 0) := by rw [bR.cell (by simp) hne]; simp
      have ff : ∀ i, w9.frozen? ⟨w.heap.size, i, none⟩ = false := fun i => by rw [bR.frozen (by simp) hne]; simp
      clear bT bE bR hb1 hb2 hb3 hb4 hb6 hb8 hb9 P A
      go_wp2_with fail
      refine bodyPost_ret (v := .agg #[.string tt, .int .i64 aa, .int .i64 x.op, .string x.nm, .slice ao' x.kids.len cap']) (by simp [results, Try.results60, go_sem, f0, f1, f2, f3, f4]) rfl ⟨_, rfl, ⟨_, rfl, ?_⟩, ?_, ?_⟩
      · exact (hxx.kp (T := fun k => w.heap.size ≤ k) (((((kE.setCell (.inl (by simp; omega)) _).setCell (.inl (by simp; omega)) _).setCell (.inl (by simp; omega)) _).setCell (.inl (by simp; omega)) _).setCell (.inl (by simp; omega)) _) (fun k _ h => by omega)).fov
      · exact ((((h9.off (by simp; omega) ha _).off (by simp; omega) ha _).off (by simp; omega) ha _).off (by simp; omega) ha _).off (by simp; omega) ha _
      · exact ((((bb9.setCell (.inr (Nat.le_refl _)) _).setCell (.inr (Nat.le_refl _)) _).setCell (.inr (Nat.le_refl _)) _).setCell (.inr (Nat.le_refl _)) _).setCell (.inr (Nat.le_refl _)) _
    · simp only [if_neg hs2]
      have hs3 : isS l n' ⟨#[59]⟩ = false := by simpa using hs2
      go_enter Try.func60, Try.ntmps60
      go_wp2_with fail
      refine (P _).mono ?_
      rintro e w1 ⟨rfl, hb1⟩
      have h1 := ((h.alloc_ _).keep hb1).alloc_ (.cells #[.int .i64 1, .int .i64 aa, .string tt] 87)
      have z1 := hb1.size
      simp at z1
      have bb1 : But r w (w1.alloc (.cells #[.int .i64 1, .int .i64 aa, .string tt] 87)) := (((But.refl r w).alloc _).trans (But.of_below hb1)).alloc _
      go_wp2_with fail
      refine (need_yes h1 hn).mono ?_
      rintro e w2 ⟨rfl, h2, hb2⟩
      have z2 := hb2.size
      simp at z2
      have bb2 := bb1.trans hb2
      go_wp2_with fail
      refine (sees_any h2 ⟨#[61]⟩).mono ?_
      rintro e w3 ⟨rfl, hb3⟩
      rw [hs]
      have z3 := hb3.size
      have h3 := h2.keep hb3
      have bb3 := bb2.trans (But.of_below (r := r) hb3)
      go_wp2_with fail
      refine (need_yes h3 hn2).mono ?_
      rintro e w4 ⟨rfl, h4, hb4⟩
      have z4 := hb4.size
      have bb4 := bb3.trans hb4
      have q3 := h4.c3
      have qf := h4.fz
      go_wp2_with fail
      have h5 := h4.setParts (q := 0) (by omega)
      have bb5 := bb4.setCell (p := ⟨r, 3, none⟩) (.inl rfl) (.int .i64 0)
      have z5 : (w4.setCell ⟨r, 3, none⟩ (.int .i64 0)).heap.size = w4.heap.size := by simp [World.setCell]
      obtain ⟨w5, hw5⟩ : ∃ w5, w5 = w4.setCell ⟨r, 3, none⟩ (.int .i64 0) := ⟨_, rfl⟩
      rw [show ((0 : Nat) : Int) = 0 from rfl] at h5
      rw [← hw5] at h5 bb5 z5 ⊢
      refine (A _ h5).mono ?_
      rintro e w6 ⟨v, rfl, hx, h6, hb6⟩
      obtain ⟨u, rfl, hl, ao', cap', rfl, hin⟩ := hx
      clear hin
      have h7 := h6.alloc_ (.cells #[.int .i64 x.op, .string x.nm, .slice ao' x.kids.len cap'] 48)
      have bb7 := (bb5.trans hb6).alloc (.cells #[.int .i64 x.op, .string x.nm, .slice ao' x.kids.len cap'] 48)
      go_wp2_with fail
      refine (sees_any h7 ⟨#[59]⟩).mono ?_
      rintro e w8 ⟨rfl, hb8⟩
      rw [hs3]
      have h8 := h7.keep hb8
      go_wp2_with fail
      refine (need_no h8 false (fun _ => rfl)).mono ?_
      rintro e w9 h9
      obtain ⟨rfl, h10, h11, h12⟩ := Pan.but h9 (bb7.trans (But.of_below hb8))
      go_wp2_with fail
      exact ⟨rfl, rfl, h10, h11, h12⟩
theorem def_any (h : RdS w r ao cap l en n p 0) : Calls Try.prog 60 #[.pointer (some ⟨r, 0, none⟩)] w (OutD r ao cap l en w (defn l en n)) := by
  unfold defn
  by_cases hk : knd l n = 1
  · rw [if_pos hk]
    by_cases hs : isS l (n + 1) ⟨#[61]⟩ = true
    · rw [if_pos hs]; exact def_main h hk hs
    · rw [if_neg hs]; exact def_no2 h hk (by simpa using hs)
  · rw [if_neg hk]; exact def_no1 h hk
end
end Go.Proofs.Ytdikjhfnmkejcab
