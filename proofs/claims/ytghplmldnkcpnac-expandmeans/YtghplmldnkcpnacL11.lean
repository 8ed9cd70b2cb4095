/- The terminals of definitions, gathered; what is wrong with definitions: the program's way. -/
import Derived.Test.YtghplmldnkcpnacL10
import Derived.Test.YtghplmldnkcpnacL08
namespace Go.Proofs.Ytghplmldnkcpnac
open Go.RowKit
theorem trm_x (acc : List ByteArray) (x : Xp) : trm acc (x.nmd 1) = trm (if x.op = 1 then addS acc x.nm else acc) (x.kids.nmd 1) := by
  unfold Xp.nmd
  rw [trm_app]
  split <;> rfl
def HlOK (x : Xp) : Prop := ∀ (B : Nat) (acc : List ByteArray) (va : Value) (w : World), XV w (fun k => k < B) va x → LkS w B acc → x.sh → acc.length + x.sz ≤ 200000 →
  Calls Try.prog 93 #[va, .func (.func 92) #[] #[.pointer (some ⟨B + 2, 0, none⟩), .pointer (some ⟨B, 0, none⟩)]] w fun e w' => e = .returned (.bool true) ∧ LkS w' B (trm acc (x.nmd 1)) ∧ Below B w w'
set_option maxRecDepth 100000 in
set_option maxHeartbeats 8000000 in
theorem hl_head (x : Xp) (ih : ∀ i, i < x.kids.len → HlOK (x.kids.at_ i)) : HlOK x := by
  intro B acc va w hx hL hsh hsz
  obtain ⟨u, rfl, hl, ao, cap, rfl, hin⟩ := hx
  have hxs : x.sz = 1 + x.kids.sz := rfl
  obtain ⟨W, hW⟩ : ∃ W, W = w.alloc (.cells #[.int .i64 x.op, .string x.nm, .slice ao x.kids.len cap] 64) := ⟨_, rfl⟩
  have hWz : W.heap.size = w.heap.size + 1 := by rw [hW]; simp
  have hWb : Below w.heap.size w W := by rw [hW]; exact al1 _ _
  have hW2 : W.cell? ⟨w.heap.size, 2, none⟩ = some (.slice ao x.kids.len cap) := by rw [hW]; simp
  have hLW := hL.below hWb
  have LK := look_any B acc x.op x.nm ao x.kids.len cap W hLW hsh.1 (by omega)
  have hrow : ∀ v, W.cell? ⟨B, 0, none⟩ = some v → v.ownBlock ≠ some w.heap.size := fun v hv e => by
    obtain ⟨v0, h1, h2⟩ := hL.ct
    rw [bkeep hWb h1] at hv
    cases hv
    have := (h2.lt _ e).2
    omega
  have hB := hL.sz
  have htx := trm_x acc x
  have hal : (if x.op = 1 then addS acc x.nm else acc).length ≤ acc.length + 1 := by
    split
    · exact addS_len acc x.nm
    · omega
  generalize (if x.op = 1 then addS acc x.nm else acc) = acc1 at *
  generalize trm acc (x.nmd 1) = R at *
  have HTX := hd htx
  clear htx
  go_enter Try.func93, Try.ntmps93
  go_wp2_with fail
  rw [← hW]
  refine LK.mono ?_
  rintro e w1 ⟨rfl, l1, hb1, ls1⟩
  have c2 : w1.cell? ⟨w.heap.size, 2, none⟩ = some (.slice ao x.kids.len cap) := (World.cell?_of_block (w := W) (a := ⟨w.heap.size, 2, none⟩) (ls1 w.heap.size (by omega) (by omega) (by omega) hrow)).trans hW2
  have HW := hd hW
  have bel1 : Below B w w1 := (hWb.mono (by omega)).trans hb1
  clear hW LK hrow hW2 hLW ls1 hb1 hWb
  have z1 := bel1.size
  go_wp2_with fail
  go_loopw [14] (fun i wr => ∃ (k : Nat) (acc' : List ByteArray), k ≤ x.kids.len ∧ i = .int .i64 k ∧ Hid (trm acc' ((x.kids.drp k).nmd 1) = R) ∧ acc'.length + (x.kids.drp k).sz ≤ 200000 ∧ LkS wr B acc' ∧ Below B w1 wr) (fun i _ => x.kids.len - (intOf i).toNat)
  case atStart => exact ⟨0, acc1, Nat.zero_le _, rfl, hd (by rw [Fo.drp_zero]; exact HTX.out.symm), by rw [Fo.drp_zero]; omega, l1, Below.refl _ _⟩
  case round =>
    obtain ⟨k, acc', hk, rfl, hR, hal', hLr, hb⟩ := hrel
    have bel : Below B w wr := bel1.trans hb
    by_cases hlt : k < x.kids.len
    · obtain h0 | ⟨ba, oa, rfl, hia⟩ := hin
      · omega
      have kA : ∀ b o v, b < B → w.cell? ⟨b, o, none⟩ = some v → b < B ∧ wr.cell? ⟨b, o, none⟩ = some v := keep_cell (S := fun k => k < B) (T := fun k => k < B) (fun _ _ h => h) (fun q _ hq => bel.block q hq)
      obtain ⟨ua, a0, a1, a2, hxa⟩ := ((hia.mono kA).at_ k hlt).xv
      have hxa' := hxa
      obtain ⟨_, e, _, aoa', capa', rfl, _⟩ := hxa'
      simp at e; subst e
      have hsa := Fo.sz_at hlt
      have IH := ih k hlt B acc' (.agg #[.int .i64 (x.kids.at_ k).op, .string (x.kids.at_ k).nm, .slice aoa' (x.kids.at_ k).kids.len capa'])
      have hshk := hsh.2.at_ hlt
      have hnl := Xp.nmd_len 1 (x.kids.at_ k)
      have hnx : Hid (trm (trm acc' ((x.kids.at_ k).nmd 1)) ((x.kids.drp (k + 1)).nmd 1) = R) := hd (by rw [← hR.out, Fo.nmd_at 1 hlt, trm_app])
      have htl := trm_len ((x.kids.at_ k).nmd 1) acc'
      generalize trm acc' ((x.kids.at_ k).nmd 1) = acc2 at *
      generalize (x.kids.at_ k).nmd 1 = L at *
      generalize x.kids.at_ k = xk at *
      obtain ⟨U, hU⟩ : ∃ U, U = wr.alloc (.cells #[.int .i64 xk.op, .string xk.nm, .slice aoa' xk.kids.len capa'] 64) := ⟨_, rfl⟩
      have hUb : Below wr.heap.size wr U := by rw [hU]; exact al1 _ _
      have hzr := hLr.sz
      have CA := IH U (hxa.kp (Kp.of_below hUb) (fun _ _ h => h)) (hLr.below hUb) hshk (by omega)
      clear hR IH kA
      go_wp2_with fail
      rw [← hU]
      refine CA.mono ?_
      rintro e w2 ⟨rfl, l2, hb2⟩
      have HU := hd hU
      clear hU
      go_wp2_with fail
      go_roundw
      case rel => exact ⟨k + 1, acc2, by omega, by go_num, hnx, by omega, l2, hb.trans ((hUb.mono (by omega)).trans hb2)⟩
      case measure => simp [intOf]; omega
    · have he : acc' = R := by rw [← hR.out, Fo.nmd_end 1 (by omega)]; rfl
      clear hR
      subst he
      go_wp2_with fail
      go_ret
      exact ⟨rfl, hLr, bel⟩
theorem hl_all : ∀ (f : Fo) (i : Nat), i < f.len → HlOK (f.at_ i)
  | .nil, _, h => absurd h (Nat.not_lt_zero _)
  | .cons op nm kids rest, 0, _ => hl_head ⟨op, nm, kids⟩ (hl_all kids)
  | .cons _ _ _ rest, i + 1, h => hl_all rest i (by simpa [Fo.len] using h)
theorem hl_any (x : Xp) : HlOK x := hl_head x (hl_all x.kids)
set_option maxRecDepth 100000 in
set_option maxHeartbeats 8000000 in
theorem terms_any (ds : List Df) (va : Value) (w : World) (hx : DsV w All va ds) (h60 : ds.length ≤ 60) (hs : ∀ d ∈ ds, d.e.sz ≤ 3000 ∧ d.sh) :
    Calls Try.prog 62 #[.agg #[va]] w fun e w' => ∃ v, e = .returned v ∧ w'.ownsRow w.heap.size 9 1 v (trms ds).length ((trms ds).map .string) ∧ Below w.heap.size w w' := by
  have hmm := @run_makeMap Try.prog
  obtain ⟨hl, ao, cap, rfl, hin⟩ := hx
  obtain ⟨W, hW⟩ : ∃ W, W = (((w.alloc (.cells #[.slice ao ds.length cap] 42)).alloc (.cells #[.slice none 0 0] 45)).alloc (.map #[] 0)).alloc (.cells #[.map (some (w.heap.size + 2))] 122) := ⟨_, rfl⟩
  have hWz : W.heap.size = w.heap.size + 4 := by rw [hW]; simp
  have hWb : Below w.heap.size w W := by rw [hW]; exact (((al1 w _).alloc (by simp) _).alloc (by simp <;> omega) _).alloc (by simp <;> omega) _
  have hLW : LkS W (w.heap.size + 1) [] := by
    have e1 : (w.alloc (.cells #[.slice ao ds.length cap] 42)).heap.size = w.heap.size + 1 := by simp
    have e2 : ((w.alloc (.cells #[.slice ao ds.length cap] 42)).alloc (.cells #[.slice none 0 0] 45)).heap.size = w.heap.size + 2 := by simp
    have e3 : (((w.alloc (.cells #[.slice ao ds.length cap] 42)).alloc (.cells #[.slice none 0 0] 45)).alloc (.map #[] 0)).heap.size = w.heap.size + 3 := by simp
    have c1 : ((w.alloc (.cells #[.slice ao ds.length cap] 42)).alloc (.cells #[.slice none 0 0] 45)).cell? ⟨w.heap.size + 1, 0, none⟩ = some (.slice none 0 0) := by simp
    have c3 := cell_one_at _ (.map (some (w.heap.size + 2))) 122 e3.symm 0 _ rfl
    refine ⟨by omega, by rw [hW]; simpa [Addr.add] using c3, ?_, ⟨.slice none 0 0, by rw [hW]; exact alcell (alcell c1 _) _, World.ownsRow_nil _ _ _ _⟩, by rw [hW]; simp [go_sem]⟩
    have hm := (World.ownsMap_made ((w.alloc (.cells #[.slice ao ds.length cap] 42)).alloc (.cells #[.slice none 0 0] 45)) Try.prog 9 (unitElem (H := Unit))).alloc (.cells #[.map (some (w.heap.size + 2))] 122)
    rw [e2] at hm
    rw [hW]; exact hm
  have HS := hd hs
  clear hs
  go_enter Try.func62, Try.ntmps62
  go_wp2_with fail
  rw [← hW]
  have HW := hd hW
  clear hW hmm
  go_loopw [13] (fun i wr => ∃ (k : Nat) (acc : List ByteArray), k ≤ ds.length ∧ i = .int .i64 k ∧ Hid (trm acc ((ds.drop k).flatMap Df.trm) = trms ds) ∧ acc.length ≤ 3000 * k ∧ LkS wr (w.heap.size + 1) acc ∧ Below (w.heap.size + 1) W wr) (fun i _ => ds.length - (intOf i).toNat)
  case atStart => exact ⟨0, [], Nat.zero_le _, rfl, hd rfl, by simp, hLW, Below.refl _ _⟩
  case round =>
    obtain ⟨k, acc, hk, rfl, hacc, hal, hLr, hb⟩ := hrel
    have hz := hLr.sz
    have bel : Below w.heap.size w wr := hWb.trans (hb.mono (by omega))
    by_cases hlt : k < ds.length
    · obtain h0 | ⟨ba, oa, rfl, hia⟩ := hin
      · omega
      have kA : ∀ b o v, All b → w.cell? ⟨b, o, none⟩ = some v → b < w.heap.size + 1 ∧ wr.cell? ⟨b, o, none⟩ = some v := fun b o v _ hc => ⟨by have := lt_of_cell hc; omega, by rw [World.cell?_of_block (w := w) (a := ⟨b, o, none⟩) (bel.block b (lt_of_cell hc))]; exact hc⟩
      obtain ⟨an, aa, ax⟩ := (hia.mono (T := fun q => q < w.heap.size + 1) kA).at_ k hlt
      obtain ⟨ua, a0, a1, a2, hxa⟩ := ax.xv
      have hacc' : Hid (trm (trm acc (ds[k].e.nmd 1)) ((ds.drop (k + 1)).flatMap Df.trm) = trms ds) := hd (by rw [← hacc.out, drop_flat hlt, trm_app])
      obtain ⟨hs, hsh⟩ := HS.out ds[k] (List.getElem_mem hlt)
      generalize ds[k] = dk at *
      have hxa' := hxa
      obtain ⟨_, e, _, aoa', capa', rfl, _⟩ := hxa'
      simp at e; subst e
      have hnl := Nat.le_trans (Xp.nmd_len 1 dk.e) hs
      have htl := trm_len (dk.e.nmd 1) acc
      obtain ⟨U, hU⟩ : ∃ U, U = wr.alloc (.cells #[.string dk.nm, .int .i64 dk.at_, .int .i64 dk.e.op, .string dk.e.nm, .slice aoa' dk.e.kids.len capa'] 66) := ⟨_, rfl⟩
      have hUb : Below wr.heap.size wr U := by rw [hU]; exact al1 _ _
      have HL := hl_any dk.e (w.heap.size + 1) acc _ U (hxa.kp (Kp.of_below hUb) (fun _ _ h => h)) (hLr.below hUb) hsh.2 (by omega)
      generalize trm acc (dk.e.nmd 1) = acc2 at *
      generalize dk.e.nmd 1 = L at *
      clear hacc ax kA
      go_wp2_with fail
      rw [← hU]
      refine HL.mono ?_
      rintro e w2 ⟨rfl, l2, hb2⟩
      have HU := hd hU
      clear hU
      go_wp2_with fail
      go_roundw
      case rel => exact ⟨k + 1, acc2, by omega, by go_num, hacc', by omega, l2, hb.trans ((hUb.mono (by omega)).trans hb2)⟩
      case measure => simp [intOf]; omega
    · have he : acc = trms ds := by rw [← hacc.out, List.drop_of_length_le (by omega)]; rfl
      obtain ⟨v, cv, own⟩ := hLr.ct
      obtain ⟨aov, capv, rfl⟩ := owns_slice own
      rw [he] at own cv
      clear hacc hal
      go_wp2_with fail
      go_ret
      exact ⟨_, rfl, owns_mono own (by omega), bel⟩
set_option maxRecDepth 100000 in
set_option maxHeartbeats 8000000 in
theorem dcheck_any (ds : List Df) (va : Value) (w : World) (hx : DsV w All va ds) (h60 : ds.length ≤ 60) (hs : ∀ d ∈ ds, d.e.sz ≤ 3000 ∧ d.sh) :
    Calls Try.prog 60 #[.agg #[va]] w fun e w' => e = .returned (.agg #[.int .i64 (dfl ds).1, .int .i64 (dfl ds).2]) ∧ Below w.heap.size w w' := by
  have RA := fun w' (hb : Below w.heap.size w w') => check_any ds va w' (hx.kp (Kp.of_below hb) (fun _ _ h => h)) (fun d hd => (hs d hd).2)
  have NA := fun w' (hb : Below w.heap.size w w') => names_any ds va w' (hx.kp (Kp.of_below hb) (fun _ _ h => h)) h60
  have TA := fun w' (hb : Below w.heap.size w w') => terms_any ds va w' (hx.kp (Kp.of_below hb) (fun _ _ h => h)) h60 hs
  have OA := fun w' vN (hb : Below w.heap.size w w') hN => firstOpen_any ds (nms ds) va vN w' (hx.kp (Kp.of_below hb) (fun _ _ h => h)) hN
  have WA := fun w' vN hN => firstTwice_any (nms ds) vN w' hN
  rw [nms_len] at WA
  rw [show fstI (isTw (nms ds)) ds.length = tw ds from rfl] at WA
  rw [show fstI (isOp (nms ds) ds) ds.length = op ds from rfl] at OA
  obtain ⟨hl, ao, cap, rfl, hin⟩ := hx
  obtain ⟨W, hW⟩ : ∃ W, W = (w.alloc (.cells #[.slice ao ds.length cap] 42)).alloc (.cells #[.int .i64 0, .int .i64 0] 29) := ⟨_, rfl⟩
  have hWz : W.heap.size = w.heap.size + 2 := by rw [hW]; simp
  have hWb : Below w.heap.size w W := by rw [hW]; exact al2 _ _ _
  have hWc : W.cell? ⟨w.heap.size, 0, none⟩ = some (.slice ao ds.length cap) := by rw [hW]; simp
  have hWr : RB W (w.heap.size + 1) := by rw [hW]; exact ⟨by simp, by simp, fun i => by simp [go_sem]⟩
  clear hs hin
  by_cases hc : (rflt ds).1 = 0
  rotate_left
  · rw [dfl_bad hc]
    generalize rflt ds = R at *
    have hcb : (R.1 != 0) = true := by simpa using hc
    clear NA TA OA WA
    go_enter Try.func60, Try.ntmps60
    go_wp2_with fail
    rw [← hW]
    refine (RA _ hWb).mono ?_
    rintro e w1 ⟨rfl, hb1⟩
    have HW := hd hW
    clear hW
    have bel1 : Below w.heap.size w w1 := hWb.trans (hb1.mono hWb.size)
    have r1 := (hWr.below hb1).below (al1 w1 (.cells #[.int .i64 R.1, .int .i64 R.2] 29))
    have q0 := r1.c0
    have q1 := r1.c1
    have qf := r1.fz
    go_wp2_with fail
    refine bodyPost_ret (v := .agg #[.int .i64 R.1, .int .i64 R.2]) (by simp [results, Try.results60, go_sem, q0, q1]) rfl ⟨rfl, ?_⟩
    exact ((bel1.alloc bel1.size _).setCell (p := ⟨w.heap.size + 1, 0, none⟩) (Nat.le_succ _) _).setCell (p := ⟨w.heap.size + 1, 1, none⟩) (Nat.le_succ _) _
  have hdf : dfl ds = if 0 ≤ tw ds then (7, tw ds) else if 0 ≤ op ds then (8, op ds) else if 16 < (trms ds).length then (6, -1) else (0, 0) := if_neg (not_not_intro hc)
  generalize dfl ds = D at *
  have HDF := hd hdf
  have hcb : ((rflt ds).1 != 0) = false := by simpa using hc
  clear hdf hc
  generalize rflt ds = R at *
  have hnl := nms_len ds
  go_enter Try.func60, Try.ntmps60
  go_wp2_with fail
  rw [← hW]
  refine (RA _ hWb).mono ?_
  rintro e w1 ⟨rfl, hb1⟩
  have HW := hd hW
  clear hW RA
  have t0 := alcell (bkeep hb1 hWc) (.cells #[.int .i64 R.1, .int .i64 R.2] 29)
  have bel0 : Below w.heap.size w w1 := hWb.trans (hb1.mono hWb.size)
  have bel1 : Below w.heap.size w (w1.alloc (.cells #[.int .i64 R.1, .int .i64 R.2] 29)) := bel0.alloc bel0.size _
  have r1 := (hWr.below hb1).below (al1 w1 (.cells #[.int .i64 R.1, .int .i64 R.2] 29))
  go_wp2_with fail
  refine (NA _ bel1).mono ?_
  rintro e w2 ⟨vN, rfl, ownN, hb2⟩
  have bel2 : Below w.heap.size w w2 := bel1.trans (hb2.mono bel1.size)
  have t2 := bkeep hb2 t0
  have r2 := r1.below hb2
  have sN : SsV w2 vN (nms ds) := SsV_owned ownN (by omega)
  obtain ⟨aoN, capN, rfl⟩ := owns_slice ownN
  rw [hnl] at sN
  have W2 := WA w2 _ sN
  clear NA t0 bel0 bel1 r1 hb2 ownN hb1 hWr hWc hWb WA
  generalize tw ds = T at *
  have O2 := OA w2 _ bel2 sN
  clear OA
  generalize op ds = O at *
  rw [hnl]
  clear hnl sN
  by_cases hT : T ≥ 0
  · have hD : D = (7, T) := by rw [HDF.out, if_pos hT]
    clear HDF
    subst hD
    have q0 := r2.c0
    have q1 := r2.c1
    have qf := r2.fz
    go_wp2_with (go_at_call 90; refine W2.mono ?_; rintro e wx ⟨rfl, hwx⟩; obtain rfl := hwx.symm)
    refine bodyPost_ret (v := .agg #[.int .i64 7, .int .i64 T]) (by simp [results, Try.results60, go_sem, q0, q1]) rfl ⟨rfl, ?_⟩
    exact (bel2.setCell (p := ⟨w.heap.size + 1, 0, none⟩) (Nat.le_succ _) _).setCell (p := ⟨w.heap.size + 1, 1, none⟩) (Nat.le_succ _) _
  · go_wp2_with (go_at_call 90; refine W2.mono ?_; rintro e wx ⟨rfl, hwx⟩; obtain rfl := hwx.symm)
    refine O2.mono ?_
    rintro e w3 ⟨rfl, hb3⟩
    have bel3 : Below w.heap.size w w3 := bel2.trans (hb3.mono bel2.size)
    have t3 := bkeep hb3 t2
    have r3 := r2.below hb3
    by_cases hO : O ≥ 0
    · have hD : D = (8, O) := by rw [HDF.out, if_neg (by omega), if_pos hO]
      clear HDF
      subst hD
      have q0 := r3.c0
      have q1 := r3.c1
      have qf := r3.fz
      go_wp2_with fail
      refine bodyPost_ret (v := .agg #[.int .i64 8, .int .i64 O]) (by simp [results, Try.results60, go_sem, q0, q1]) rfl ⟨rfl, ?_⟩
      exact (bel3.setCell (p := ⟨w.heap.size + 1, 0, none⟩) (Nat.le_succ _) _).setCell (p := ⟨w.heap.size + 1, 1, none⟩) (Nat.le_succ _) _
    · have HD3 : Hid (D = if 16 < (trms ds).length then (6, -1) else (0, 0)) := hd (by rw [HDF.out, if_neg (by omega), if_neg hO])
      clear HDF
      go_wp2_with fail
      refine (TA _ bel3).mono ?_
      rintro e w6 ⟨vT, rfl, ownT, hb6⟩
      obtain ⟨aoT, capT, rfl⟩ := owns_slice ownT
      have r6 := r3.below hb6
      have b6 : Below w.heap.size w w6 := bel3.trans (hb6.mono bel3.size)
      clear ownT
      have q0 := r6.c0
      have q1 := r6.c1
      have qf := r6.fz
      by_cases h16 : 16 < (trms ds).length
      · have hD : D = (6, -1) := by rw [HD3.out, if_pos h16]
        clear HD3
        subst hD
        generalize (trms ds).length = tl at *
        have h16' : (16 : Int) < (tl : Int) := by omega
        go_wp2_with fail
        refine bodyPost_ret (v := .agg #[.int .i64 6, .int .i64 (-1)]) (by simp [results, Try.results60, go_sem, q0, q1]) rfl ⟨rfl, ?_⟩
        exact (b6.setCell (p := ⟨w.heap.size + 1, 0, none⟩) (Nat.le_succ _) _).setCell (p := ⟨w.heap.size + 1, 1, none⟩) (Nat.le_succ _) _
      · have hD : D = (0, 0) := by rw [HD3.out, if_neg h16]
        clear HD3
        subst hD
        generalize (trms ds).length = tl at *
        have h16' : ¬ (16 : Int) < (tl : Int) := by omega
        go_wp2_with fail
        refine bodyPost_ret (v := .agg #[.int .i64 0, .int .i64 0]) (by simp [results, Try.results60, go_sem, q0, q1]) rfl ⟨rfl, ?_⟩
        exact (b6.setCell (p := ⟨w.heap.size + 1, 0, none⟩) (Nat.le_succ _) _).setCell (p := ⟨w.heap.size + 1, 1, none⟩) (Nat.le_succ _) _
end Go.Proofs.Ytghplmldnkcpnac
