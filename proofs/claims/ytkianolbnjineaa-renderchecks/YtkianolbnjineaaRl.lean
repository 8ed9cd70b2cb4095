/- What the laws on printing lean on besides. -/
import Derived.Test.YtkianolbnjineaaRb3
import Derived.Test.YtkianolbnjineaaRbg
import Derived.Test.YtkianolbnjineaaGrt
namespace Go.Proofs.Ytkianolbnjineaa
open Go.RowKit
theorem name_short {op : Int} {nm : ByteArray} {n : Nat} (h : code op nm n = 0) : nm.size ≤ 5000 := by
  obtain ⟨hf, hn⟩ := code_zero h
  have hz : (⟨#[]⟩ : ByteArray).size = 0 := rfl
  unfold namB at hn
  rcases form_kinds hf with ⟨h, _⟩ | ⟨_, h, _⟩ | ⟨_, h, _⟩ | ⟨_, h, _⟩
  · rcases h with h | h <;> subst h
    · have := isTerm_le (s := nm) (by simpa using hn); omega
    · have := isName_le (s := nm) (by simpa using hn); omega
  · subst h; omega
  · subst h; omega
  · subst h; omega
theorem Fo.bad_sh : ∀ {f : Fo}, f.bad = 0 → f.sh
  | .nil, _ => trivial
  | .cons .., h => let ⟨h1, h2, h3⟩ := Fo.bad_cons h; ⟨⟨name_short h1, Fo.bad_sh h2⟩, Fo.bad_sh h3⟩
theorem Df.code_sh {d : Df} (h : d.code = 0) : d.sh := by
  obtain ⟨h1, _, _, h4⟩ := Df.code_zero h
  have := isName_le h1
  obtain ⟨h5, h6⟩ := Xp.bad_zero h4
  exact ⟨by omega, name_short h5, Fo.bad_sh h6⟩
theorem scan_lenS (s : ByteArray) (h : s.size ≤ 6000) : (scan s).1.length ≤ 6000 := by
  unfold scan
  rw [if_neg (by omega)]
  unfold fin
  split
  · simp
  · have := st_len s s.size; simp only; omega
theorem pstr_fine {ds : List Df} (h : Fine ds) : pstr ds = ⟨(tex ds).toArray⟩ := by unfold pstr; rw [rflt_of h, if_pos rfl]
theorem pstr_size {ds : List Df} (h : Fine ds) : (pstr ds).size ≤ 6000 := by
  rw [pstr_fine h, ← bys_length, bys_mk]; exact h.len
theorem pstr_bad {ds : List Df} (h : ¬ (rflt ds).1 = 0) : pstr ds = ⟨#[]⟩ := by unfold pstr; rw [if_neg h]
theorem parse_nz {s : ByteArray} {c p : Int} (h : parse s = .err c p) : c ≠ 0 := by
  by_cases hs : (scan s).2.1 = 0
  · unfold parse at h; rw [if_pos hs] at h; exact textL_erc _ _ _ h
  · unfold parse at h; rw [if_neg hs] at h; cases h; exact hs
theorem bkeepB {w w' : World} (h : Below w.heap.size w w') {b o : Nat} {v : Value} (hc : w.cell? ⟨b, o, none⟩ = some v) (ob : Obj) : (w'.alloc ob).cell? ⟨b, o, none⟩ = some v := alcell (bkeep h hc) ob
theorem DsV.lw {w w' : World} {v : Value} {x : List Df} (h : DsV w All v x) (hb : Below w.heap.size w w') : DsV w' All v x := h.kp (Kp.of_below hb) (fun _ _ h => h)
end Go.Proofs.Ytkianolbnjineaa
