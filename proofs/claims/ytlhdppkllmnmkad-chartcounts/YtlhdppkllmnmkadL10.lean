/- Texts laid together: Fs Fl Fn Fo. -/
import Derived.Test.YtlhdppkllmnmkadL06
import Derived.Test.YtlhdppkllmnmkadL02
/- Sets, the program's way: Has, With, List; numbers each of which is asked. -/
namespace Go.Proofs.Ytlhdppkllmnmkad.G
open Go.RowKit
theorem ret_u {a b : Int} (h : a = b) : Ending.returned (.int .u64 a) = .returned (.int .u64 b) := by rw [h]
def mayB (v : Int) : Bool := decide (0 ≤ v) && decide (v < 64)
theorem mayB_iff {v : Int} : mayB v = true ↔ 0 ≤ v ∧ v < 64 := by simp [mayB]
set_option maxRecDepth 100000 in
set_option maxHeartbeats 4000000 in
theorem may_any (v : Int) (w : World) : Calls Try.prog 126 #[.int .i64 v] w fun e w' => e = .returned (.bool (mayB v)) ∧ w' = w := by
  by_cases h : 0 ≤ v
  · by_cases h' : v < 64
    · have hR : Hid (mayB v = true) := hd (mayB_iff.2 ⟨h, h'⟩)
      go_enter Try.func126, Try.ntmps126
      go_wp2_with fail
      go_ret
      exact ⟨ret_bool (by rw [hR.out]), rfl⟩
    · have hR : Hid (mayB v = false) := hd (by rw [← Bool.not_eq_true, mayB_iff]; omega)
      go_enter Try.func126, Try.ntmps126
      go_wp2_with fail
      go_ret
      exact ⟨ret_bool (by rw [hR.out]), rfl⟩
  · have hR : Hid (mayB v = false) := hd (by rw [← Bool.not_eq_true, mayB_iff]; omega)
    go_enter Try.func126, Try.ntmps126
    go_wp2_with fail
    go_ret
    exact ⟨ret_bool (by rw [hR.out]), rfl⟩
set_option maxRecDepth 100000 in
set_option maxHeartbeats 4000000 in
theorem has_any (s : BitVec 64) (v : Int) (w : World) : Calls Try.prog 132 #[.int .u64 (U s), .int .i64 v] w fun e w' => e = .returned (.bool (hasB s v)) ∧ w' = w := by
  have MA := may_any v w
  by_cases h : 0 ≤ v ∧ v < 64
  · obtain ⟨k, rfl⟩ : ∃ k : Nat, v = k := ⟨v.toNat, by omega⟩
    have hk : k < 64 := by omega
    rw [mayB_iff.2 h] at MA
    have hR : Hid (hasB s k = (bits .and .u64 (U s / 2 ^ k) 1 == 1)) := hd (by rw [U_has, has_nat s hk])
    clear h
    generalize hasB s k = R at *
    generalize U s = S at *
    go_enter Try.func132, Try.ntmps132
    go_wp2_with fail
    refine MA.mono ?_
    rintro e wx ⟨rfl, hwx⟩
    obtain rfl := hwx.symm
    go_wp2_with fail
    go_ret
    exact ⟨ret_bool (by rw [hR.out]), rfl⟩
  · have h0 : mayB v = false := by rw [← Bool.not_eq_true, mayB_iff]; exact h
    rw [h0] at MA
    have hR : Hid (hasB s v = false) := hd (by
      cases e : hasB s v with
      | true => exact absurd (has_in e) h
      | false => rfl)
    clear h h0
    generalize U s = S at *
    go_enter Try.func132, Try.ntmps132
    go_wp2_with fail
    refine MA.mono ?_
    rintro e wx ⟨rfl, hwx⟩
    obtain rfl := hwx.symm
    go_wp2_with fail
    go_ret
    exact ⟨ret_bool (by rw [hR.out]), rfl⟩
set_option maxRecDepth 100000 in
set_option maxHeartbeats 4000000 in
theorem with_any (s : BitVec 64) (v : Int) (w : World) : Calls Try.prog 89 #[.int .u64 (U s), .int .i64 v] w fun e w' => e = .returned (.int .u64 (U (withB s v))) ∧ w' = w := by
  have MA := may_any v w
  by_cases h : 0 ≤ v ∧ v < 64
  · obtain ⟨k, rfl⟩ : ∃ k : Nat, v = k := ⟨v.toNat, by omega⟩
    have hk : k < 64 := by omega
    rw [mayB_iff.2 h] at MA
    have hR : Hid (U (withB s k) = bits .or .u64 (U s) (IntKind.u64.wrap (1 * 2 ^ k))) := hd (by rw [U_bit k hk, U_or]; unfold withB; rw [if_pos h]; simp)
    clear h
    generalize U (withB s k) = R at *
    generalize U s = S at *
    go_enter Try.func89, Try.ntmps89
    go_wp2_with fail
    refine MA.mono ?_
    rintro e wx ⟨rfl, hwx⟩
    obtain rfl := hwx.symm
    go_wp2_with fail
    go_ret
    exact ⟨ret_u (by rw [hR.out]; simp), rfl⟩
  · have h0 : mayB v = false := by rw [← Bool.not_eq_true, mayB_iff]; exact h
    rw [h0] at MA
    have hR : Hid (U (withB s v) = U s) := hd (by unfold withB; rw [if_neg h])
    clear h h0
    generalize U (withB s v) = R at *
    generalize U s = S at *
    go_enter Try.func89, Try.ntmps89
    go_wp2_with fail
    refine MA.mono ?_
    rintro e wx ⟨rfl, hwx⟩
    obtain rfl := hwx.symm
    go_wp2_with fail
    go_ret
    exact ⟨ret_u hR.out.symm, rfl⟩
set_option maxRecDepth 100000 in
set_option maxHeartbeats 4000000 in
theorem list_any (s : BitVec 64) (w : World) : Calls Try.prog 142 #[.int .u64 (U s)] w fun e w' => ∃ v, e = .returned v ∧ w'.ownsRow w.heap.size 3 1 v (listB s).length (ints (listB s)) ∧ Below w.heap.size w w' := by
  obtain ⟨i0, hi, iz0, iz1, iz2⟩ := info_parts Try.infoInt
  go_enter Try.func142, Try.ntmps142
  go_wp2_with fail
  go_loopw [3, 5] (fun v i wr => ∃ (k : Nat) (acc : List Int), k ≤ 64 ∧ i = .int .i64 k ∧ Hid (acc = upto k fun j => hasB s j) ∧ acc.length ≤ k ∧ wr.ownsRow w.heap.size 3 1 v acc.length (ints acc) ∧ Below w.heap.size w wr) (fun _ i _ => 64 - (intOf i).toNat)
  case atStart => exact ⟨0, [], Nat.zero_le _, rfl, hd rfl, Nat.le_refl _, World.ownsRow_nil _ _ _ _, Below.refl _ _⟩
  case round =>
    obtain ⟨k, acc, hk, rfl, hacc, hal, hown, bel⟩ := hrel
    have hz := bel.size
    by_cases hlt : k < 64
    · have HA := has_any s k wr
      have HY : Hid (hasB s k = true → acc ++ [(k : Int)] = upto (k + 1) fun j => hasB s j) := hd (fun e => by rw [hacc.out, upto_yes (f := fun j : Nat => hasB s j) e])
      have HN : Hid (hasB s k = false → acc = upto (k + 1) fun j => hasB s j) := hd (fun e => by rw [hacc.out, upto_no (f := fun j : Nat => hasB s j) e])
      clear hacc
      generalize hasB s k = q at *
      obtain ⟨aov, capv, rfl⟩ := owns_slice hown
      cases q with
      | true =>
        have HY' := hd (HY.out rfl)
        clear HY HN
        go_wp2_with fail
        refine HA.mono ?_
        rintro e wx ⟨rfl, hwx⟩
        obtain rfl := hwx.symm
        go_wp2_with (first | (at_builtin; go_must (refine wpList_append_own _ rfl _ _ 35 rfl w.heap.size 3 i0 (.int .i64 0) 1 8 Try.underlying35 hi iz0 iz1 iz2 rfl (by decide) _ _ _ rfl (hown.alloc _) ⟨wr.heap.size, 0, none⟩ 1 1 [.int .i64 k] rfl rfl (cell_one_at _ _ _ (by simp)) (oneInts [(k : Int)]) (by unfold maxLen; omega) (by omega) (by simp <;> omega) ?_)))
        intro v1 W1 own1 grow1 _
        go_wp2_with fail
        go_roundw
        case rel => exact ⟨k + 1, acc ++ [(k : Int)], by omega, by go_num, HY', by simp; omega, by simpa [ints] using own1, (bel.alloc hz _).grown grow1 (by simp <;> omega) (fun j hj => (hown.lt j hj).1)⟩
        case measure => simp [intOf]; omega
      | false =>
        have HN' := hd (HN.out rfl)
        clear HY HN
        go_wp2_with fail
        refine HA.mono ?_
        rintro e wx ⟨rfl, hwx⟩
        obtain rfl := hwx.symm
        go_wp2_with fail
        go_roundw
        case rel => exact ⟨k + 1, acc, by omega, by go_num, HN', by omega, hown, bel⟩
        case measure => simp [intOf]; omega
    · have he : acc = listB s := by rw [hacc.out, show k = 64 by omega]; rfl
      rw [he] at hown
      clear hacc hal
      go_wp2_with fail
      go_ret
      exact ⟨_, rfl, hown, bel⟩

/-! Numbers each of which is asked. -/
/-- A function that is called as it is. -/
def Cal (id : Nat) : Prop := ∀ (args : Array Value) (w : World), (callFunc id args).run Try.prog w = .ok (.enter id args) w
theorem cal_has : Cal 132 := fun args w => by go_simp
/-- A look: a function value that answers p of a number, and leaves all as it is. -/
def Lk (W : World) (f : Value) (p : Int → Bool) : Prop := ∃ (id : Nat) (rc cs : Array Value), f = .func (.func id) rc cs ∧ Cal id ∧ ∀ (n : Int) (w : World), Below W.heap.size W w → Calls Try.prog id (rc.push (.int .i64 n) ++ cs) w fun e w' => e = .returned (.bool (p n)) ∧ w' = w
theorem Lk.lw {W W' : World} {f : Value} {p : Int → Bool} (h : Lk W f p) (hb : Below W.heap.size W W') : Lk W' f p :=
  let ⟨id, rc, cs, e, hc, h⟩ := h
  ⟨id, rc, cs, e, hc, fun n w hw => h n w (bthen hb hw)⟩
set_option maxRecDepth 100000 in
set_option maxHeartbeats 4000000 in
theorem fall1_any (n : Int) (bk : Nat) (p : Int → Bool) (f : Value) (w : World) (hf : Lk w f p) (hk : w.cell? ⟨bk, 0, none⟩ = some f) :
    Calls Try.prog 158 #[.int .i64 n, .pointer (some ⟨bk, 0, none⟩)] w fun e w' => e = .returned (.bool (!p n)) ∧ w' = w := by
  obtain ⟨id, rc, cs, rfl, hcf, hc⟩ := hf
  have WA := hc n w (Below.refl _ _)
  clear hc
  unfold Cal at hcf
  generalize p n = q at *
  go_enter Try.func158, Try.ntmps158
  go_wp2_with fail
  refine WA.mono ?_
  rintro e wx ⟨rfl, hwx⟩
  obtain rfl := hwx.symm
  go_wp2_with fail
  go_ret
  exact ⟨rfl, rfl⟩
end Go.Proofs.Ytlhdppkllmnmkad.G

/- Numbers each of which is asked, the program's way; a set that grows till nothing more comes. -/
namespace Go.Proofs.Ytlhdppkllmnmkad.G
open Go.RowKit
set_option maxRecDepth 100000 in
set_option maxHeartbeats 4000000 in
theorem findexFunc_any (p : Int → Bool) (f : Value) (l : List Int) (va : Value) (bk : Nat) (w : World) (ha : IsV w All va l) (hf : Lk w f p) (hk : w.cell? ⟨bk, 0, none⟩ = some f) :
    Calls Try.prog 121 #[va, .func (.func 158) #[] #[.pointer (some ⟨bk, 0, none⟩)]] w fun e w' => ∃ r : Int, e = .returned (.int .i64 r) ∧ decide (0 ≤ r) = !(l.all p) ∧ w' = w := by
  have AA := fun n => fall1_any n bk p f w hf hk
  obtain ⟨ao, cap, rfl⟩ := ha.slice
  have hl := ha.1
  clear hf hk
  go_enter Try.func121, Try.ntmps121
  go_wp2_with fail
  go_loopw [8] (fun i wr => ∃ k : Nat, k ≤ l.length ∧ i = .int .i64 k ∧ Hid (∀ j (h : j < l.length), j < k → p l[j] = true) ∧ wr = w) (fun i _ => l.length - (intOf i).toNat)
  case atStart => exact ⟨0, Nat.zero_le _, rfl, hd (fun j _ hj => absurd hj (Nat.not_lt_zero _)), rfl⟩
  case round =>
    obtain ⟨k, hk, rfl, hall, rfl⟩ := hrel
    by_cases hlt : k < l.length
    · obtain ⟨b, o, rfl, c0⟩ := ha.at_ hlt
      have AK := AA l[k]
      have HY : Hid (p l[k] = true → ∀ j (h : j < l.length), j < k + 1 → p l[j] = true) := hd (fun e j h hj => by
        by_cases ej : j = k
        · subst ej; exact e
        · exact hall.out j h (by omega))
      have HN : Hid (p l[k] = false → l.all p = false) := hd (fun e => by
        rw [List.all_eq_false]
        exact ⟨_, List.getElem_mem hlt, by simpa using e⟩)
      clear AA
      generalize p l[k] = q at *
      generalize l[k] = x at *
      cases q with
      | true =>
        go_wp2_with fail
        refine AK.mono ?_
        rintro e wx ⟨rfl, hwx⟩
        obtain rfl := hwx.symm
        go_wp2_with fail
        go_roundw
        case rel => exact ⟨k + 1, by omega, by go_num, hd (HY.out trivial), trivial⟩
        case measure => simp [intOf]; omega
      | false =>
        go_wp2_with fail
        refine AK.mono ?_
        rintro e wx ⟨rfl, hwx⟩
        obtain rfl := hwx.symm
        go_wp2_with fail
        go_ret
        exact ⟨(k : Int), rfl, by rw [HN.out trivial]; simp, rfl⟩
    · have hR : Hid (l.all p = true) := hd (by
        rw [List.all_eq_true]
        intro x hx
        obtain ⟨j, hj, rfl⟩ := List.mem_iff_getElem.1 hx
        exact hall.out j hj (by omega))
      go_wp2_with fail
      go_ret
      exact ⟨-1, rfl, by rw [hR.out]; rfl, rfl⟩
set_option maxRecDepth 100000 in
set_option maxHeartbeats 4000000 in
theorem fcontainsFunc_any (p : Int → Bool) (f : Value) (l : List Int) (va : Value) (bk : Nat) (w : World) (ha : IsV w All va l) (hf : Lk w f p) (hk : w.cell? ⟨bk, 0, none⟩ = some f) :
    Calls Try.prog 114 #[va, .func (.func 158) #[] #[.pointer (some ⟨bk, 0, none⟩)]] w fun e w' => e = .returned (.bool (!(l.all p))) ∧ w' = w := by
  have IA := findexFunc_any p f l va bk w ha hf hk
  obtain ⟨ao, cap, rfl⟩ := ha.slice
  clear hf hk ha
  generalize (!(l.all p)) = q at *
  go_enter Try.func114, Try.ntmps114
  go_wp2_with fail
  refine IA.mono ?_
  rintro e wx ⟨r, rfl, hr, hwx⟩
  obtain rfl := hwx.symm
  have HR := hd hr
  clear hr
  go_wp2_with fail
  go_ret
  exact ⟨ret_bool HR.out, rfl⟩
set_option maxRecDepth 100000 in
set_option maxHeartbeats 4000000 in
theorem fall_any (p : Int → Bool) (l : List Int) (va f : Value) (w : World) (ha : IsV w All va l) (hf : Lk w f p) :
    Calls Try.prog 154 #[va, f] w fun e w' => e = .returned (.bool (l.all p)) ∧ Below w.heap.size w w' := by
  obtain ⟨W, hW⟩ : ∃ W, W = w.alloc (.cells #[f] 130) := ⟨_, rfl⟩
  have hWb : Below w.heap.size w W := by rw [hW]; exact al1 _ _
  have CA := fcontainsFunc_any p f l va w.heap.size W (ha.lw hWb) (hf.lw hWb) (by rw [hW]; simp)
  obtain ⟨ao, cap, rfl⟩ := ha.slice
  obtain ⟨id, rc, cs, rfl, _⟩ := hf
  clear ha
  generalize l.all p = q at *
  go_enter Try.func154, Try.ntmps154
  go_wp2_with fail
  rw [← hW]
  refine CA.mono ?_
  rintro e wx ⟨rfl, hwx⟩
  obtain rfl := hwx.symm
  go_wp2_with fail
  go_ret
  exact ⟨ret_bool (by simp), al1 _ _⟩

/-! A set that grows. -/
set_option maxRecDepth 100000 in
set_option maxHeartbeats 4000000 in
theorem grow_any (F : BitVec 64 → BitVec 64) (I : BitVec 64 → Prop) (s : BitVec 64) (hI0 : I s) (hI : ∀ t, I t → I (t ||| F t)) (id : Nat) (cs : Array Value) (w : World) (hcf : Cal id)
    (hF : ∀ (t : BitVec 64) (w1 : World), I t → Below w.heap.size w w1 → Calls Try.prog id (#[.int .u64 (U t)] ++ cs) w1 fun e w' => e = .returned (.int .u64 (U (F t))) ∧ Below w1.heap.size w1 w') :
    Calls Try.prog 152 #[.int .u64 (U s), .func (.func id) #[] cs] w fun e w' => ∃ r, e = .returned (.int .u64 (U r)) ∧ Grows F s r ∧ r ||| F r = r ∧ Below w.heap.size w w' := by
  unfold Cal at hcf
  go_enter Try.func152, Try.ntmps152
  go_wp2_with fail
  go_loopw [0] (fun i wr => ∃ t : BitVec 64, i = .int .u64 (U t) ∧ Hid (Grows F s t) ∧ Hid (I t) ∧ Below w.heap.size w wr) (fun i _ => 18446744073709551616 - (intOf i).toNat)
  case atStart => exact ⟨s, rfl, hd .refl, hd hI0, Below.refl _ _⟩
  case round =>
    obtain ⟨t, rfl, hg, hit, bel⟩ := hrel
    have FA := hF t wr hit.out bel
    obtain ⟨T, hT⟩ : ∃ T, T = t ||| F t := ⟨_, rfl⟩
    have HO : bits .or .u64 (U t) (U (F t)) = U T := by rw [hT]; exact U_or ..
    have HT := hd hT
    clear hT
    have HF : Hid (T = t → t ||| F t = t) := hd (fun h => by rw [← HT.out, h])
    by_cases hq : T = t
    · have hb : (U T == U t) = true := by rw [hq]; simp
      have HQ := hd hq
      clear hq
      go_wp2_with fail
      refine FA.mono ?_
      rintro e wx ⟨rfl, kx⟩
      go_wp2_with fail
      go_ret
      exact ⟨t, rfl, hg.out, HF.out HQ.out, bthen bel kx⟩
    · have hb : (U T == U t) = false := by rw [U_beq]; simpa using hq
      have HM : Hid (t.toNat < T.toNat) := hd (by rw [HT.out]; exact or_more (by rw [← HT.out]; exact hq))
      clear hq
      go_wp2_with fail
      refine FA.mono ?_
      rintro e wx ⟨rfl, kx⟩
      go_wp2_with fail
      go_roundw
      case rel => exact ⟨T, rfl, hd (by rw [HT.out]; exact hg.out.more), hd (by rw [HT.out]; exact hI t hit.out), bthen bel kx⟩
      case measure =>
        have h1 := HM.out
        have h2 := T.isLt
        simp [intOf, U]; omega
end Go.Proofs.Ytlhdppkllmnmkad.G

/- What is made, and what is reached, the program's way. -/
namespace Go.Proofs.Ytlhdppkllmnmkad.G
open Go.RowKit
/-- A box that may be written. -/
def Bx (w : World) (p : Nat) (v : Value) : Prop := w.cell? ⟨p, 0, none⟩ = some v ∧ w.frozen? ⟨p, 0, none⟩ = false
theorem Bx.lw {w w' : World} {p : Nat} {v : Value} (h : Bx w p v) (hb : Below w.heap.size w w') : Bx w' p v :=
  ⟨bkeep hb h.1, (World.frozen?_of_block (a := ⟨p, 0, none⟩) (hb.block p (lt_of_cell h.1))).trans h.2⟩
theorem Bx.set {w : World} {p : Nat} {v u : Value} (h : Bx w p v) : Bx (w.setCell ⟨p, 0, none⟩ u) p u :=
  ⟨World.cell?_setCell_same _ _ _ h.1, by rw [World.frozen?_setCell]; exact h.2⟩
theorem Bx_new (w : World) (v : Value) (t : TypeId) {p : Nat} (hp : p = w.heap.size) : Bx (w.alloc (.cells #[v] t)) p v := by
  subst hp; exact ⟨by simp, by simp [go_sem]⟩
/-- A number is fit, as a set says. -/
def FitC (id : Nat) (t : Bool) : Prop := Cal id ∧ ∀ (s : BitVec 64) (n : Int) (w : World), Calls Try.prog id #[.int .u64 (U s), .int .i64 n] w fun e w' => e = .returned (.bool (fitB t s n)) ∧ w' = w
set_option maxRecDepth 100000 in
set_option maxHeartbeats 4000000 in
theorem fit_null : FitC 144 false := by
  refine ⟨fun args w => by go_simp, fun s n w => ?_⟩
  have HA := has_any s n w
  have HR : Hid (fitB false s n = hasB s n) := hd (by simp [fitB])
  generalize hasB s n = q at *
  generalize fitB false s n = r at *
  generalize U s = S at *
  go_enter Try.func144, Try.ntmps144
  go_wp2_with fail
  refine HA.mono ?_
  rintro e wx ⟨rfl, hwx⟩
  obtain rfl := hwx.symm
  go_wp2_with fail
  go_ret
  exact ⟨ret_bool HR.out.symm, rfl⟩
set_option maxRecDepth 100000 in
set_option maxHeartbeats 4000000 in
theorem made11_any (t : Bool) (fid : Nat) (hfc : FitC fid t) (s : BitVec 64) (n : Int) (bf bs : Nat) (w : World) (hb : w.cell? ⟨bf, 0, none⟩ = some (.func (.func fid) #[] #[])) (hs : w.cell? ⟨bs, 0, none⟩ = some (.int .u64 (U s))) :
    Calls Try.prog 155 #[.int .i64 n, .pointer (some ⟨bf, 0, none⟩), .pointer (some ⟨bs, 0, none⟩)] w fun e w' => e = .returned (.bool (fitB t s n)) ∧ w' = w := by
  obtain ⟨hcf, hc⟩ := hfc
  have HA := hc s n w
  clear hc
  unfold Cal at hcf
  generalize fitB t s n = q at *
  generalize U s = S at *
  go_enter Try.func155, Try.ntmps155
  go_wp2_with fail
  refine HA.mono ?_
  rintro e wx ⟨rfl, hwx⟩
  obtain rfl := hwx.symm
  go_wp2_with fail
  go_ret
  exact ⟨rfl, rfl⟩
theorem made_lk {t : Bool} {fid : Nat} (hfc : FitC fid t) {s : BitVec 64} {bf bs : Nat} {w : World} (hb : w.cell? ⟨bf, 0, none⟩ = some (.func (.func fid) #[] #[])) (hs : w.cell? ⟨bs, 0, none⟩ = some (.int .u64 (U s))) :
    Lk w (.func (.func 155) #[] #[.pointer (some ⟨bf, 0, none⟩), .pointer (some ⟨bs, 0, none⟩)]) (fitB t s) :=
  ⟨_, _, _, rfl, (fun args w => by go_simp), fun n w1 h1 => made11_any t fid hfc s n bf bs w1 (bkeep h1 hb) (bkeep h1 hs)⟩
theorem madeR_snoc (fit : BitVec 64 → Int → Bool) (R : List Ru) (s : BitVec 64) {k : Nat} (h : k < R.length) : madeR fit (R.take (k + 1)) s = if R[k].right.all (fit (madeR fit (R.take k) s)) then withB (madeR fit (R.take k) s) R[k].left else madeR fit (R.take k) s := by
  unfold madeR
  rw [take_snoc R h, List.foldl_append]
  rfl
set_option maxRecDepth 100000 in
set_option maxHeartbeats 4000000 in
theorem made1_any (t : Bool) (fid : Nat) (hfc : FitC fid t) (R : List Ru) (s : BitVec 64) (u : Value) (pg bf : Nat) (w : World) (h3 : w.cell? ⟨pg, 3, none⟩ = some u) (hr : RsV w All u R) (hb : w.cell? ⟨bf, 0, none⟩ = some (.func (.func fid) #[] #[])) :
    Calls Try.prog 153 #[.int .u64 (U s), .pointer (some ⟨pg, 0, none⟩), .pointer (some ⟨bf, 0, none⟩)] w fun e w' => e = .returned (.int .u64 (U (madeR (fitB t) R s))) ∧ Below w.heap.size w w' := by
  obtain ⟨ao, cap, rfl⟩ := hr.slice
  have hl := hr.1
  obtain ⟨W, hW⟩ : ∃ W, W = w.alloc (.cells #[.int .u64 (U s)] 112) := ⟨_, rfl⟩
  have hWb : Below w.heap.size w W := by rw [hW]; exact al1 _ _
  have hWx : Bx W w.heap.size (.int .u64 (U s)) := by rw [hW]; exact Bx_new _ _ _ rfl
  have hW3 := bkeep hWb h3
  have hA3 := alcell h3 (.cells #[.int .u64 (U s)] 112)
  go_enter Try.func153, Try.ntmps153
  go_wp2_with fail
  rw [← hW]
  have HW := hd hW
  clear hW hA3
  go_loopw [10] (fun i wr => ∃ (k : Nat) (acc : BitVec 64), k ≤ R.length ∧ i = .int .i64 k ∧ Hid (acc = madeR (fitB t) (R.take k) s) ∧ Bx wr w.heap.size (.int .u64 (U acc)) ∧ Below w.heap.size w wr) (fun i _ => R.length - (intOf i).toNat)
  case atStart => exact ⟨0, s, Nat.zero_le _, rfl, hd (by simp [madeR]), hWx, hWb⟩
  case round =>
    obtain ⟨k, acc, hk, rfl, hacc, hx, bel⟩ := hrel
    have hz := bel.size
    by_cases hlt : k < R.length
    · obtain ⟨b, o, rfl, c0, ar, cr, c1, hc⟩ := (hr.lw bel).at_ hlt
      have HY : Hid (R[k].right.all (fitB t acc) = true → withB acc R[k].left = madeR (fitB t) (R.take (k + 1)) s) := hd (fun e => by rw [madeR_snoc _ _ _ hlt, ← hacc.out, if_pos e])
      have HN : Hid (R[k].right.all (fitB t acc) = false → acc = madeR (fitB t) (R.take (k + 1)) s) := hd (fun e => by rw [madeR_snoc _ _ _ hlt, ← hacc.out, if_neg (by rw [e]; simp)])
      clear hacc
      generalize R[k] = x at *
      have hxl := hc.1
      obtain ⟨V, hV⟩ : ∃ V, V = wr.alloc (.cells #[.int .i64 x.left, .slice ar x.right.length cr] 77) := ⟨_, rfl⟩
      have hVb : Below wr.heap.size wr V := by rw [hV]; exact al1 _ _
      have hV1 : V.cell? ⟨wr.heap.size, 1, none⟩ = some (.slice ar x.right.length cr) := by rw [hV]; simp
      have hV0 : V.cell? ⟨wr.heap.size, 0, none⟩ = some (.int .i64 x.left) := by rw [hV]; simp
      have belV : Below w.heap.size w V := bthen bel hVb
      have xV := hx.lw hVb
      have FA := fall_any (fitB t acc) x.right _ _ V (hc.lw hVb) (made_lk hfc (bkeep belV hb) xV.1)
      clear hc
      generalize x.right.all (fitB t acc) = q at *
      cases q with
      | true =>
        have HY' := hd (HY.out rfl)
        clear HY HN
        go_wp2_with fail
        rw [← hV]
        clear hV
        go_wp2_with fail
        refine FA.mono ?_
        rintro e wx ⟨rfl, kx⟩
        have xx := xV.lw kx
        have x0 := xx.1
        have xf := xx.2
        have y0 := bkeep kx hV0
        go_wp2_with fail
        refine (with_any acc x.left wx).mono ?_
        rintro e wy ⟨rfl, hwy⟩
        obtain rfl := hwy.symm
        go_wp2_with fail
        go_roundw
        case rel => exact ⟨k + 1, _, by omega, by go_num, HY', xx.set, (bthen belV kx).setCell (p := ⟨w.heap.size, 0, none⟩) (Nat.le_refl _) _⟩
        case measure => simp [intOf]; omega
      | false =>
        have HN' := hd (HN.out rfl)
        clear HY HN
        go_wp2_with fail
        rw [← hV]
        clear hV
        go_wp2_with fail
        refine FA.mono ?_
        rintro e wx ⟨rfl, kx⟩
        go_wp2_with fail
        go_roundw
        case rel => exact ⟨k + 1, acc, by omega, by go_num, HN', xV.lw kx, bthen belV kx⟩
        case measure => simp [intOf]; omega
    · have he : Hid (acc = madeR (fitB t) R s) := hd (by rw [hacc.out, List.take_of_length_le (by omega)])
      have x0 := hx.1
      clear hacc
      go_wp2_with fail
      go_ret
      exact ⟨ret_u (by rw [he.out]), bel⟩
set_option maxRecDepth 100000 in
set_option maxHeartbeats 4000000 in
theorem made_any (t : Bool) (fid : Nat) (hfc : FitC fid t) (g : Gm) (va : Value) (w : World) (ha : GV w All va g) :
    Calls Try.prog 143 #[va, .func (.func fid) #[] #[]] w fun e w' => ∃ r, e = .returned (.int .u64 (U r)) ∧ Grows (madeR (fitB t) g.rules) 0#64 r ∧ r ||| madeR (fitB t) g.rules r = r ∧ Below w.heap.size w w' := by
  obtain ⟨u, rfl, hr⟩ := ha
  obtain ⟨ao, cap, rfl⟩ := hr.slice
  obtain ⟨V, hV⟩ : ∃ V, V = w.alloc (.cells #[.int .i64 g.vars, .int .i64 g.terms, .int .i64 g.start, .slice ao g.rules.length cap] 24) := ⟨_, rfl⟩
  have hVb : Below w.heap.size w V := by rw [hV]; exact al1 _ _
  have hVz : V.heap.size = w.heap.size + 1 := by rw [hV]; simp
  have hV3 : V.cell? ⟨w.heap.size, 3, none⟩ = some (.slice ao g.rules.length cap) := by rw [hV]; simp
  obtain ⟨W, hW⟩ : ∃ W, W = V.alloc (.cells #[.func (.func fid) #[] #[]] 159) := ⟨_, rfl⟩
  have hWb : Below V.heap.size V W := by rw [hW]; exact al1 _ _
  have hW0 : W.cell? ⟨w.heap.size + 1, 0, none⟩ = some (.func (.func fid) #[] #[]) := by rw [hW, ← hVz]; simp
  have hW3 := bkeep hWb hV3
  have kW := bthen hVb hWb
  have GA := grow_any (madeR (fitB t) g.rules) (fun _ => True) 0#64 trivial (fun _ _ => trivial) 153 #[.pointer (some ⟨w.heap.size, 0, none⟩), .pointer (some ⟨w.heap.size + 1, 0, none⟩)] W (fun args w => by go_simp)
    (fun s w1 _ h1 => made1_any t fid hfc g.rules s _ w.heap.size (w.heap.size + 1) w1 (bkeep h1 hW3) (hr.lw (bthen kW h1)) (bkeep h1 hW0))
  rw [← U_zero] at GA
  go_enter Try.func143, Try.ntmps143
  go_wp2_with fail
  rw [← hV, ← hW]
  refine GA.mono ?_
  rintro e wx ⟨r, rfl, h1, h2, kx⟩
  have HG := hd h1
  have HF := hd h2
  clear h1 h2 hV hW
  go_wp2_with fail
  go_ret
  exact ⟨r, rfl, HG.out, HF.out, bthen kW kx⟩
/-- What finds a set: it is called as it is, and answers those of which p is so. -/
def FndC (id : Nat) (g : Gm) (p : Int → Prop) : Prop := Cal id ∧ ∀ (va : Value) (w : World), GV w All va g → Calls Try.prog id #[va] w fun e w' => ∃ r, e = .returned (.int .u64 (U r)) ∧ (∀ v, hasB r v = true ↔ p v) ∧ Below w.heap.size w w'
set_option maxRecDepth 100000 in
set_option maxHeartbeats 4000000 in
theorem nullable_any (g : Gm) (hR : Lfs g.rules) : FndC 125 g (Gen false g.rules) := by
  refine ⟨fun args w => by go_simp, fun va w ha => ?_⟩
  obtain ⟨u, rfl, hr⟩ := ha
  obtain ⟨ao, cap, rfl⟩ := hr.slice
  obtain ⟨V, hV⟩ : ∃ V, V = w.alloc (.cells #[.int .i64 g.vars, .int .i64 g.terms, .int .i64 g.start, .slice ao g.rules.length cap] 24) := ⟨_, rfl⟩
  have hVb : Below w.heap.size w V := by rw [hV]; exact al1 _ _
  have MA := made_any false _ fit_null g _ V ⟨_, rfl, hr.lw hVb⟩
  go_enter Try.func125, Try.ntmps125
  go_wp2_with fail
  rw [← hV]
  refine MA.mono ?_
  rintro e wx ⟨r, rfl, h1, h2, kx⟩
  have HM := hd (made_right hR h1 h2)
  clear h1 h2 hV
  go_wp2_with fail
  go_ret
  exact ⟨r, rfl, HM.out, bthen hVb kx⟩
end Go.Proofs.Ytlhdppkllmnmkad.G

/- One step, the program's two ways: alone, and as the first one. -/
namespace Go.Proofs.Ytlhdppkllmnmkad.G
open Go.RowKit
theorem has_lk (e : BitVec 64) (w : World) : Lk w (.func (.func 132) #[.int .u64 (U e)] #[]) (hasB e) := ⟨_, _, _, rfl, cal_has, fun n w1 _ => has_any e n w1⟩
theorem IsV.take {w : World} {S : Nat → Prop} {ao : Option Addr} {n cap k : Nat} {l : List Int} (h : IsV w S (.slice ao n cap) l) (hk : k ≤ l.length) : IsV w S (.slice ao k cap) (l.take k) := by
  obtain ⟨h1, ao', cap', e, h3, h4, h5⟩ := h
  simp at e
  obtain ⟨rfl, rfl, rfl⟩ := e
  have hm : (l.take k).length = k := by simp; omega
  refine ⟨by omega, ao, cap, by rw [hm], by omega, h4, ?_⟩
  rcases h5 with h5 | ⟨b, o, e, hs, hx⟩
  · exact .inl (by omega)
  · exact .inr ⟨b, o, e, hs, fun i hi => by rw [hx i (by omega)]; simp⟩
theorem IsV.drop {w : World} {S : Nat → Prop} {ao : Option Addr} {n cap k : Nat} {l : List Int} (h : IsV w S (.slice ao n cap) l) (hk : k ≤ l.length) : IsV w S (sliced ao k n cap 1) (l.drop k) := by
  obtain ⟨h1, ao', cap', e, h3, h4, h5⟩ := h
  simp at e
  obtain ⟨rfl, rfl, rfl⟩ := e
  have hm : (l.drop k).length = l.length - k := by simp
  unfold sliced
  refine ⟨by omega, _, cap - k, by rw [hm], by omega, ?_, ?_⟩
  · intro e
    split at e
    next h => omega
    next h =>
      cases ao with
      | none => have := h4 rfl; omega
      | some a => simp at e
  · rcases h5 with h5 | ⟨b, o, rfl, hs, hx⟩
    · exact .inl (by omega)
    · by_cases hc : cap = k
      · exact .inl (by omega)
      · refine .inr ⟨b, o + k, by simp [hc, addr_add], hs, fun i hi => ?_⟩
        rw [show o + k + i = o + (k + i) by omega, hx (k + i) (by omega)]
        simp
set_option maxRecDepth 100000 in
set_option maxHeartbeats 4000000 in
theorem alone_any (l : List Int) (e : BitVec 64) (va : Value) (w : World) (ha : IsV w All va l) :
    Calls Try.prog 151 #[va, .int .u64 (U e)] w fun e' w' => e' = .returned (.int .u64 (U (aloneB l e))) ∧ Below w.heap.size w w' := by
  obtain ⟨ao, cap, rfl⟩ := ha.slice
  have hl := ha.1
  go_enter Try.func151, Try.ntmps151
  go_wp2_with fail
  go_loopw [5, 10] (fun v i wr => ∃ (k : Nat) (acc : BitVec 64), k ≤ l.length ∧ i = .int .i64 k ∧ v = .int .u64 (U acc) ∧ Hid (acc = aloneL l e k) ∧ Below w.heap.size w wr) (fun _ i _ => l.length - (intOf i).toNat)
  case atStart => exact ⟨0, 0#64, Nat.zero_le _, rfl, rfl, hd rfl, Below.refl _ _⟩
  case round =>
    obtain ⟨k, acc, hk, rfl, rfl, hacc, bel⟩ := hrel
    by_cases hlt : k < l.length
    · have ha1 := ha.lw bel
      have hT := ha1.take (k := k) (by omega)
      have hD := ha1.drop (k := k + 1) (by omega)
      have hcap : l.length ≤ cap := by
        obtain ⟨_, ao', cap', e', h3, _⟩ := ha
        simp at e'
        obtain ⟨_, rfl⟩ := e'
        exact h3
      obtain ⟨b, o, rfl, c0⟩ := ha1.at_ hlt
      have hg : l.getD k 0 = l[k] := by rw [List.getD_eq_getElem?_getD, List.getElem?_eq_getElem hlt]; rfl
      have HR : Hid (aloneL l e (k + 1) = if (l.take k).all (hasB e) && (l.drop (k + 1)).all (hasB e) then withB acc l[k] else acc) := hd (by rw [aloneL, hg, ← hacc.out])
      clear hacc hg
      have FT := fun W h => fall_any (hasB e) (l.take k) _ _ W (hT.lw h) (has_lk e W)
      have FD := fun W h => fall_any (hasB e) (l.drop (k + 1)) _ _ W (hD.lw h) (has_lk e W)
      clear hT hD ha1
      generalize (l.take k).all (hasB e) = q1 at *
      generalize (l.drop (k + 1)).all (hasB e) = q2 at *
      generalize l[k] = x at *
      cases q1 with
      | false =>
        have HR' : Hid (acc = aloneL l e (k + 1)) := hd (by rw [HR.out]; rfl)
        clear HR FD
        go_wp2_with fail
        refine (FT wr (Below.refl _ _)).mono ?_
        rintro e1 wx ⟨rfl, kx⟩
        go_wp2_with fail
        go_roundw
        case rel => exact ⟨k + 1, acc, by omega, by go_num, rfl, HR', bthen bel kx⟩
        case measure => simp [intOf]; omega
      | true =>
        by_cases hc : cap = k + 1
        · subst hc
          simp only [sliced, if_true, Nat.sub_self, Nat.sub_eq_zero_of_le hcap] at FD
          cases q2 with
          | false =>
            have HR' : Hid (acc = aloneL l e (k + 1)) := hd (by rw [HR.out]; rfl)
            clear HR
            go_wp2_with fail
            refine (FT wr (Below.refl _ _)).mono ?_
            rintro e1 wx ⟨rfl, kx⟩
            go_wp2_with fail
            refine (FD wx kx).mono ?_
            rintro e1 wy ⟨rfl, ky⟩
            go_wp2_with fail
            go_roundw
            case rel => exact ⟨k + 1, acc, by omega, by go_num, rfl, HR', bthen (bthen bel kx) ky⟩
            case measure => simp [intOf]; omega
          | true =>
            have HR' : Hid (withB acc x = aloneL l e (k + 1)) := hd (by rw [HR.out]; rfl)
            clear HR
            go_wp2_with fail
            refine (FT wr (Below.refl _ _)).mono ?_
            rintro e1 wx ⟨rfl, kx⟩
            go_wp2_with fail
            refine (FD wx kx).mono ?_
            rintro e1 wy ⟨rfl, ky⟩
            go_wp2_with fail
            refine (with_any acc x wy).mono ?_
            rintro e1 wz ⟨rfl, hwz⟩
            obtain rfl := hwz.symm
            go_wp2_with fail
            go_roundw
            case rel => exact ⟨k + 1, _, by omega, by go_num, rfl, HR', bthen (bthen bel kx) ky⟩
            case measure => simp [intOf]; omega
        · simp only [sliced, if_neg hc, Option.map_some, addr_add, Nat.mul_one] at FD
          cases q2 with
          | false =>
            have HR' : Hid (acc = aloneL l e (k + 1)) := hd (by rw [HR.out]; rfl)
            clear HR
            go_wp2_with fail
            refine (FT wr (Below.refl _ _)).mono ?_
            rintro e1 wx ⟨rfl, kx⟩
            go_wp2_with fail
            refine (FD wx kx).mono ?_
            rintro e1 wy ⟨rfl, ky⟩
            go_wp2_with fail
            go_roundw
            case rel => exact ⟨k + 1, acc, by omega, by go_num, rfl, HR', bthen (bthen bel kx) ky⟩
            case measure => simp [intOf]; omega
          | true =>
            have HR' : Hid (withB acc x = aloneL l e (k + 1)) := hd (by rw [HR.out]; rfl)
            clear HR
            go_wp2_with fail
            refine (FT wr (Below.refl _ _)).mono ?_
            rintro e1 wx ⟨rfl, kx⟩
            go_wp2_with fail
            refine (FD wx kx).mono ?_
            rintro e1 wy ⟨rfl, ky⟩
            go_wp2_with fail
            refine (with_any acc x wy).mono ?_
            rintro e1 wz ⟨rfl, hwz⟩
            obtain rfl := hwz.symm
            go_wp2_with fail
            go_roundw
            case rel => exact ⟨k + 1, _, by omega, by go_num, rfl, HR', bthen (bthen bel kx) ky⟩
            case measure => simp [intOf]; omega
    · have he : Hid (acc = aloneB l e) := hd (by rw [hacc.out, show k = l.length by omega]; rfl)
      clear hacc
      go_wp2_with fail
      go_ret
      exact ⟨ret_u (by rw [he.out]), bel⟩
/-- One step by a right side: a function that is called as it is. -/
def StpC (id : Nat) (c : Bool) : Prop := Cal id ∧ ∀ (l : List Int) (e : BitVec 64) (va : Value) (w : World), IsV w All va l → Calls Try.prog id #[va, .int .u64 (U e)] w fun e' w' => e' = .returned (.int .u64 (U (stepB c l e))) ∧ Below w.heap.size w w'
theorem step_alone : StpC 151 false := ⟨fun args w => by go_simp, fun l e va w ha => by simpa [stepB] using alone_any l e va w ha⟩
end Go.Proofs.Ytlhdppkllmnmkad.G
