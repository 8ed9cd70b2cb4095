/- Proved: for every text TokenBack returns true (the tokens of a text, with blanks between them and remarks behind, are its tokens), and the text reads as before. No condition. -/
import Derived.Test.YtceccjgcfboflaaBegun
import Derived.Test.YtceccjgcfboflaaBackMath
import Derived.Test.YtceccjgcfboflaaRows
import Derived.ProofKit
import Derived.OpenShut
import Derived.ShutString
namespace Go.Proofs.Ytceccjgcfboflaa.tokenBack
open Go.Proofs.Ytceccjgcfboflaa
open Go.ChangeShapes Go.WideShapes Go.ChangeAt Go.RowKit
open Go.ChangeMaps (open_string shut_string)

theorem own : ownKnob Try.prog.godebug = none := by kernel_rfl

def tx (l : List Tk) (k : Nat) : ByteArray := ⟨((l.take k).flatMap enc).toArray⟩
theorem bys_tx (l : List Tk) (k : Nat) : bys (tx l k) = (l.take k).flatMap enc := bys_mk _
theorem bys_append (a b : ByteArray) : bys (a ++ b) = bys a ++ bys b := by simp [bys, ByteArray.data_append]
theorem tx_quot (l : List Tk) (k : Nat) (h : k < l.length) (h2 : (l[k].k == 2) = true) :
    tx l k ++ (⟨#[34]⟩ ++ l[k].t ++ ⟨#[34]⟩) ++ ⟨#[32, 35, 32, 120, 10]⟩ = tx l (k + 1) := by
  apply bys_inj
  have e : l[k].k = 2 := by simpa using h2
  simp only [bys_append, bys_tx, List.take_succ_eq_append_getElem h, List.flatMap_append, List.flatMap_cons, List.flatMap_nil, List.append_nil, enc, tb, e, if_true]
  simp [bys, tl5]
theorem tx_else (l : List Tk) (k : Nat) (h : k < l.length) (h2 : (l[k].k == 2) = false) :
    tx l k ++ l[k].t ++ ⟨#[32, 35, 32, 120, 10]⟩ = tx l (k + 1) := by
  apply bys_inj
  have e : ¬ l[k].k = 2 := by simpa using h2
  simp only [bys_append, bys_tx, List.take_succ_eq_append_getElem h, List.flatMap_append, List.flatMap_cons, List.flatMap_nil, List.append_nil, enc, tb, if_neg e]
  simp [bys, tl5]
theorem okk_len {k : Int} {l : List UInt8} (h : Okk k l) : l.length ≤ 12 := by
  rcases h with ⟨_, _, _, h⟩ | ⟨_, _, h, _⟩ | ⟨_, c, h, _⟩
  · exact h
  · exact h
  · subst h; simp
theorem enc_le {x : Tk} (h : Okk x.k (bys x.t)) : (enc x).length ≤ 19 := by
  have := okk_len h
  have := tb_len x
  have h5 : tl5.length = 5 := rfl
  simp only [enc, List.length_append]
  split at this <;> omega
theorem flat_le (l : List Tk) (h : ∀ x ∈ l, Okk x.k (bys x.t)) : (l.flatMap enc).length ≤ 19 * l.length := by
  induction l with
  | nil => simp
  | cons x l ih =>
    have h1 := enc_le (h x (by simp))
    have h2 := ih (fun y hy => h y (by simp [hy]))
    rw [List.flatMap_cons, List.length_append, List.length_cons]; omega
theorem tx_le (l : List Tk) (k : Nat) (h : ∀ x ∈ l, Okk x.k (bys x.t)) (hk : k ≤ l.length) : (tx l k).size ≤ 19 * k := by
  rw [← bys_length, bys_tx]
  have := flat_le (l.take k) (fun x hx => h x (List.mem_of_mem_take hx))
  rw [List.length_take] at this; omega

theorem toks_alloc {w : World} {g : Nat} {l : List Tk} (t : Toks w g l) (hg : g < w.heap.size) (o : Obj) : Toks (w.alloc o) g l := by
  have q : ∀ n, (w.alloc o).cell? ⟨g, n, none⟩ = w.cell? ⟨g, n, none⟩ := fun n =>
    ((Below.refl w.heap.size w).alloc (Nat.le_refl _) o).cell (p := ⟨g, n, none⟩) hg
  exact ⟨fun k h => by rw [q]; exact t.c0 k h, fun k h => by rw [q]; exact t.c1 k h, fun k h => by rw [q]; exact t.c2 k h⟩
set_option maxHeartbeats 2000000 in
set_option maxRecDepth 100000 in
theorem walk (s : ByteArray) (hs : s.size ≤ maxLen) (w : World) :
    Calls Try.prog 4 #[.string s] w fun e w' => e = .returned (.bool true) ∧ Below w.heap.size w w' := by
  have hs' := hs
  unfold maxLen at hs'
  by_cases h2 : 2000 < s.size
  · go_enter Try.func4, Try.ntmps4
    go_wp2_with fail
    refine (begun_any _).mono ?_
    rintro e w1 ⟨rfl, hb⟩
    go_wp2_with fail
    go_ret
    exact ⟨rfl, hb⟩
  · have A := fun w => scan_any s w (by omega)
    have G := scan_ok s
    have Z := scan_code s
    have L : (scan s).1.length ≤ 2000 := by
      unfold scan
      split
      · simp
      · unfold fin
        have := st_len s s.size
        split
        · simp
        · show (st s s.size).1.length ≤ 2000; omega
    generalize scan s = r at *
    obtain ⟨l, c, a⟩ := r
    simp only at A G Z L
    by_cases hc : (c != 0) = true
    · have hl : l = [] := Z (by simpa using hc)
      subst hl
      go_enter Try.func4, Try.ntmps4
      go_wp2_with fail
      refine (begun_any _).mono ?_
      rintro e w1 ⟨rfl, hb1⟩
      have z1 := hb1.size
      go_wp2_with fail
      refine (A _).mono ?_
      clear A
      rintro e w2 ⟨v, rfl, own2, hb2⟩
      have z2 := hb2.size
      obtain ⟨ao, cap, rfl⟩ : ∃ ao cap, v = .slice ao 0 cap := by
        rcases owns_shape own2 with ⟨ao, cap, h, _⟩ | ⟨g, cap, h, _⟩
        · exact ⟨ao, cap, h⟩
        · exact ⟨_, cap, h⟩
      go_wp2_with fail
      go_ret
      exact ⟨rfl, (hb1.trans (hb2.mono z1)).alloc (by omega) _⟩
    · have hc' : (c != 0) = false := by simpa using hc
      clear hc
      have hG := hd G
      by_cases h0 : l.length = 0
      · have hl : l = [] := List.length_eq_zero_iff.1 h0
        subst hl
        have B := scan_any ⟨#[]⟩
        rw [show scan ⟨#[]⟩ = ([], 0, 0) from by kernel_rfl] at B
        clear h0 Z G hG
        go_enter Try.func4, Try.ntmps4
        go_wp2_with fail
        refine (begun_any _).mono ?_
        rintro e w1 ⟨rfl, hb1⟩
        have z1 := hb1.size
        go_wp2_with fail
        refine (A _).mono ?_
        clear A
        rintro e w2 ⟨v, rfl, own2, hb2⟩
        have z2 := hb2.size
        obtain ⟨ao, cap, rfl⟩ : ∃ ao cap, v = .slice ao 0 cap := by
          rcases owns_shape own2 with ⟨ao, cap, h, _⟩ | ⟨g, cap, h, _⟩
          · exact ⟨ao, cap, h⟩
          · exact ⟨_, cap, h⟩
        go_wp2_with fail
        refine wp_loop_rounds 1 ?_
        rw [rounds_succ]
        go_wp2_with fail
        refine (B _ (by decide)).mono ?_
        clear B
        rintro e w3 ⟨u, rfl, own3, hb3⟩
        obtain ⟨bo, cab, rfl⟩ : ∃ ao cap, u = .slice ao 0 cap := by
          rcases owns_shape own3 with ⟨ao, cap, h, _⟩ | ⟨g, cap, h, _⟩
          · exact ⟨ao, cap, h⟩
          · exact ⟨_, cap, h⟩
        go_wp2_with fail
        refine wp_loop_rounds 1 ?_
        rw [rounds_succ]
        go_wp2_with fail
        go_ret
        have bel := ((hb1.trans (hb2.mono z1)).alloc (by omega) (.cells #[.int .i64 c, .int .i64 a] 25)).trans (hb3.mono (by simp; omega))
        exact ⟨rfl, bel.alloc bel.size _⟩
      · go_enter Try.func4, Try.ntmps4
        go_wp2_with fail
        refine (begun_any _).mono ?_
        rintro e w1 ⟨rfl, hb1⟩
        have z1 := hb1.size
        go_wp2_with fail
        refine (A _).mono ?_
        clear A
        rintro e w2 ⟨v, rfl, own2, hb2⟩
        have z2 := hb2.size
        have SH := owns_shape own2
        obtain ⟨g, cap, rfl, hg1, hg2, t⟩ := SH.resolve_left (fun ⟨_, _, _, h⟩ => h0 h)
        clear SH
        go_wp2_with fail
        go_loop [5, 6] (fun x i => ∃ k : Nat, k ≤ l.length ∧ i = .int .i64 k ∧ x = .string (tx l k)) (fun _ i => l.length - (intOf i).toNat)
        case atStart => exact ⟨0, Nat.zero_le _, rfl, rfl⟩
        case round =>
          obtain ⟨k, hk, rfl, rfl⟩ := hrel
          by_cases hlt : k < l.length
          · have c0 := t.c0 k hlt; have c2 := t.c2 k hlt
            have T1 := tx_le l k hG.out.ok hk
            have T2 : l[k].t.size ≤ 12 := by have := okk_len (hG.out.ok l[k] (List.getElem_mem hlt)); rwa [bys_length] at this
            by_cases hq : (l[k].k == 2) = true
            · have E := hd (tx_quot l k hlt hq)
              go_wp2_with fail
              go_round
              case rel => exact ⟨k + 1, by omega, by go_num, by rw [E.out]⟩
              case measure => simp [intOf]; omega
            · have hq' : (l[k].k == 2) = false := by simpa using hq
              have E := hd (tx_else l k hlt hq')
              clear hq
              go_wp2_with fail
              go_round
              case rel => exact ⟨k + 1, by omega, by go_num, by rw [E.out]⟩
              case measure => simp [intOf]; omega
          · have hkl : k = l.length := by omega
            have T1 := tx_le l k hG.out.ok hk
            have hb2' := hb1.trans (hb2.mono z1)
            by_cases h6 : 6000 < (tx l k).size
            · clear hkl
              go_wp2_with fail
              go_ret
              exact ⟨rfl, hb2'.alloc (by omega) _⟩
            · have B := fun w => scan_any (tx l k) w (by omega)
              have es : scan (tx l k) = (re 0 l, 0, 0) := scan_enc l hG.out.ok (tx l k) (by rw [bys_tx, hkl, List.take_length]) (by omega)
              rw [es] at B
              simp only [re_length] at B
              have RG := hd (re_get 0 l)
              have RL := re_length 0 l
              clear es hkl T1 Z G
              go_wp2_with fail
              refine (B _).mono ?_
              clear B
              rintro e w3 ⟨u, rfl, own3, hb3⟩
              rw [← RL] at own3
              have SH := owns_shape own3
              rw [RL] at SH
              obtain ⟨g2, cap2, rfl, _, _, t2⟩ := SH.resolve_left (fun ⟨_, _, _, h⟩ => h0 h)
              clear SH own3
              have z3 : w2.heap.size < w3.heap.size := by have := hb3.size; simp at this; omega
              have bel := (hb2'.alloc (by omega) (.cells #[.int .i64 c, .int .i64 a] 25)).trans (hb3.mono (by simp; omega))
              have t1 : Toks w3 g l := by
                have q : ∀ o, w3.cell? ⟨g, o, none⟩ = w2.cell? ⟨g, o, none⟩ := fun o => by
                  rw [hb3.cell (p := ⟨g, o, none⟩) (by simp; omega)]
                  exact ((Below.refl w2.heap.size w2).alloc (Nat.le_refl _) _).cell (p := ⟨g, o, none⟩) hg2
                exact ⟨fun k h => by rw [q]; exact t.c0 k h, fun k h => by rw [q]; exact t.c1 k h, fun k h => by rw [q]; exact t.c2 k h⟩
              clear hb3 hb2' hb2 hb1 t own2
              have hgl : g < w3.heap.size := by omega
              have hg2l : g2 < w3.heap.size := by assumption
              have t3 : Toks (w3.alloc (.cells #[.int .i64 0, .int .i64 0] 25)) g l := toks_alloc t1 hgl _
              have t4 : Toks (w3.alloc (.cells #[.int .i64 0, .int .i64 0] 25)) g2 (re 0 l) := toks_alloc t2 hg2l _
              have bel2 := bel.alloc bel.size (.cells #[.int .i64 0, .int .i64 0] 25)
              obtain ⟨W, hW⟩ : ∃ W, W = w3.alloc (.cells #[.int .i64 0, .int .i64 0] 25) := ⟨_, rfl⟩
              rw [← hW] at t3 t4 bel2
              have HW := hd hW
              clear hW t1 t2 bel
              have hnn : ((l.length : Int) != (l.length : Int)) = false := by simp
              go_wp2_with fail
              go_loopw [9] (fun i wr => ∃ k m : Nat, k ≤ l.length ∧ i = .int .i64 k ∧ wr = W.drewN m) (fun i _ => l.length - (intOf i).toNat)
              case atStart => exact ⟨0, 0, Nat.zero_le _, rfl, by rw [HW.out]; rfl⟩
              case round =>
                obtain ⟨j, m, hj, rfl, rfl⟩ := hrel
                by_cases hjl : j < l.length
                · have hjr : j < (re 0 l).length := by omega
                  obtain ⟨e1, e2⟩ := RG.out j hjl hjr
                  have a0 := t3.c0 j hjl; have a1 := t3.c1 j hjl; have a2 := t3.c2 j hjl
                  have b0 := t4.c0 j hjr; have b2 := t4.c2 j hjr
                  rw [e1] at b0; rw [e2] at b2
                  have q1 := (hG.out.at_ l[j] (List.getElem_mem hjl)).2
                  have q2 : decide ((s.size : Int) ≤ l[j].at_) = false := by simp; omega
                  clear e1 e2 RG RL
                  by_cases hj0 : 0 < j
                  · obtain ⟨i, rfl⟩ : ∃ i, j = i + 1 := ⟨j - 1, by omega⟩
                    have p1 := t3.c1 i (by omega)
                    have p2 := up_get hG.out.up i hjl
                    have p3 : decide (l[i + 1].at_ ≤ l[i].at_) = false := by simp; omega
                    go_wp2_with fail
                    go_quiet (fail)
                    go_wp2_with fail
                    go_roundw
                    case rel => exact ⟨i + 1 + 1, m + nq, by omega, by go_num, rfl⟩
                    case measure => simp [intOf]; omega
                  · obtain rfl : j = 0 := by omega
                    go_wp2_with fail
                    go_quiet (fail)
                    go_wp2_with fail
                    go_roundw
                    case rel => exact ⟨1, m + nq, by omega, by go_num, rfl⟩
                    case measure => simp [intOf]; omega
                · go_wp2_with fail
                  go_ret
                  exact ⟨rfl, below_drewN bel2 _⟩

set_option maxRecDepth 100000 in
theorem lifted (os : Os) (started : os.Started) (H : Type) (enc : TypeId × Value → H) :
    ReturnsInHanded {} Try.checked os 4 .any (Rows.tokenBackSpec.pre6 enc Try.prog Try.f4 Rows.tokenBackRow.domain false) (Rows.tokenBackSpec.post enc Try.prog Try.f4 false true false false) := by
  refine returnsInHanded_of_change (C := Try.checked) own started (by kernel_rfl) Try.func4
    (ChangeSpec.witness6 (enc := enc) (C := Try.checked) false ⟨#[], #[.string ByteArray.empty], []⟩ 8 (by kernel_rfl) (by kernel_rfl) (by kernel_rfl) (by kernel_rfl)) ?_
  intro W base args ds gs before hval0 hW hcnd _
  have hval : ∀ (j : Nat) t v, Try.f4.params[j]? = some t → args[j]? = some v → Value.okWide Try.prog W .any base t v := hval0
  have hW' := hW
  obtain ⟨p, q, hA0, hV, rfl, hfz, hnd⟩ := hW
  have hA : DataW.TrodAll enc Try.prog W 0 (fun _ => true) true Try.f4.params.toList args.toList ds p := hA0
  rw [Try.params4] at hA hval
  obtain ⟨v0, vs0, d0, ds0, p0, q0, hargs, rfl, rfl, h0, r0⟩ := trodAll_cons hA
  obtain ⟨rfl, rfl, rfl⟩ := trodAll_nil r0
  obtain rfl : args = #[v0] := by cases args; simp_all
  obtain ⟨rfl, rfl⟩ := trodVars_none hV
  obtain ⟨a0, rfl, rfl, rfl, w0⟩ := open_string Try.underlying9 (hval 0 9 v0 rfl rfl) h0
  clear hA0 hval0
  simp only [List.append_nil] at hW'
  refine (walk a0 w0 W).mono fun e W' ⟨he, bel⟩ => ?_
  subst he
  exact ⟨_, rfl, _, _, _, [], _, [], hW', trodAll_mk1 (shut_bool Try.underlying4 _), trodAll_cons_mk (shut_string Try.underlying9 w0) trodAll_mk0, rfl, bel.frame _, fun h => by cases h⟩

theorem stands : Rows.tokenBackRow.holds Try.pinned (OpenSpec.ofChange Rows.tokenBackSpec) :=
  OpenClaim.holds_of_wide 4 Try.f4 rfl rfl rfl rfl rfl rfl rfl ⟨rfl, rfl, rfl, rfl, rfl⟩ rfl rfl rfl rfl rfl (by kernel_rfl) Try.func4 (by kernel_rfl)
    (of_decide_eq_true (by kernel_rfl)) (by unfold Func.isWrapper; first | (rw [if_pos (by decide +kernel)]; kernel_rfl) | (rw [if_neg (by decide +kernel)]; exact ⟨rfl, rfl⟩))
    (fun os started H enc _ => lifted os started H enc)

theorem proved : Rows.TokenBackSaid := stands
#print axioms proved
end Go.Proofs.Ytceccjgcfboflaa.tokenBack
