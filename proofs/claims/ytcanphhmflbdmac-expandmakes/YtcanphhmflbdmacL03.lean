/- Texts laid together: Pars Shelf Leaf Skip Ref Read Scan RMath BackMath. -/
import Derived.Test.YtcanphhmflbdmacL01
import Derived.Test.YtcanphhmflbdmacL02
import Derived.Shelf.Strings.Builder1
import Derived.Shelf.Strings.BuilderF
import Derived.Shelf.Strings.BuilderK
import Derived.Test.YtcanphhmflbdmacProg
import Derived.Lib.Bytealg
import Derived.WalkKit
import Derived.WalkSpells
import Derived.WalkLawsBesides
/- The reading of definitions out of tokens, as plain mathematics. -/
namespace Go.Proofs.Ytcanphhmflbdmac
open Go.RowKit

def knd (l : List Tk) (n : Nat) : Int := match l[n]? with | some t => t.k | none => 0
def txt (l : List Tk) (n : Nat) : ByteArray := match l[n]? with | some t => t.t | none => ⟨#[]⟩
def at0 (l : List Tk) (n : Nat) : Int := match l[n]? with | some t => t.at_ | none => 0
def plc (l : List Tk) (en : Int) (n : Nat) : Int := match l[n]? with | some t => t.at_ | none => en
def fm (l : List Tk) (n : Nat) : Int := if n < l.length then 3 else 4
def isS (l : List Tk) (n : Nat) (s : ByteArray) : Bool := decide (knd l n = 3) && decide (txt l n = s)
def brk (s : ByteArray) : Int × ByteArray :=
  if s = ⟨#[40]⟩ then (0, ⟨#[41]⟩) else if s = ⟨#[91]⟩ then (5, ⟨#[93]⟩) else if s = ⟨#[123]⟩ then (6, ⟨#[125]⟩) else if s = ⟨#[60]⟩ then (7, ⟨#[62]⟩) else (0, ⟨#[]⟩)
def opn (l : List Tk) (n : Nat) : Bool := decide (knd l n = 3) && decide ((brk (txt l n)).2 ≠ ⟨#[]⟩)
theorem knd_lt {l : List Tk} {n : Nat} (h : n < l.length) : knd l n = l[n].k := by simp [knd, h]
theorem txt_lt {l : List Tk} {n : Nat} (h : n < l.length) : txt l n = l[n].t := by simp [txt, h]
theorem at0_lt {l : List Tk} {n : Nat} (h : n < l.length) : at0 l n = l[n].at_ := by simp [at0, h]
theorem plc_lt {l : List Tk} {en : Int} {n : Nat} (h : n < l.length) : plc l en n = l[n].at_ := by simp [plc, h]
theorem knd_ge {l : List Tk} {n : Nat} (h : ¬ n < l.length) : knd l n = 0 := by simp [knd, List.getElem?_eq_none (Nat.le_of_not_lt h)]
theorem txt_ge {l : List Tk} {n : Nat} (h : ¬ n < l.length) : txt l n = ⟨#[]⟩ := by simp [txt, List.getElem?_eq_none (Nat.le_of_not_lt h)]
theorem at0_ge {l : List Tk} {n : Nat} (h : ¬ n < l.length) : at0 l n = 0 := by simp [at0, List.getElem?_eq_none (Nat.le_of_not_lt h)]
theorem plc_ge {l : List Tk} {en : Int} {n : Nat} (h : ¬ n < l.length) : plc l en n = en := by simp [plc, List.getElem?_eq_none (Nat.le_of_not_lt h)]
theorem lt_of_knd {l : List Tk} {n : Nat} {c : Int} (h : knd l n = c) (hc : c ≠ 0) : n < l.length := by
  by_cases hn : n < l.length
  · exact hn
  · rw [knd_ge hn] at h; exact absurd h.symm hc
theorem lt_of_isS {l : List Tk} {n : Nat} {s : ByteArray} (h : isS l n s = true) : n < l.length :=
  lt_of_knd (c := 3) (by simp [isS] at h; exact h.1) (by decide)
theorem lt_of_opn {l : List Tk} {n : Nat} (h : opn l n = true) : n < l.length :=
  lt_of_knd (c := 3) (by simp [opn] at h; exact h.1) (by decide)

inductive Res (α : Type) where
  | ok (x : α) (n p : Nat)
  | err (c a : Int)
  | out
def mk (op : Int) (f : Fo) : Xp := if f.len = 1 then f.at_ 0 else ⟨op, ⟨#[]⟩, f⟩
def wrap (op : Int) (x : Xp) : Xp := if op = 0 then x else ⟨op, ⟨#[]⟩, Fo.nil.snoc x⟩
mutual
def item (l : List Tk) (en : Int) : Nat → Nat → Nat → Nat → Res (Option Xp)
  | 0, _, _, _ => .out
  | k + 1, n, p, o =>
    if knd l n = 1 then (if p = 60 then .err 6 (plc l en n) else .ok (some ⟨2, txt l n, .nil⟩) (n + 1) (p + 1))
    else if knd l n = 2 then (if p = 60 then .err 6 (plc l en n) else .ok (some ⟨1, txt l n, .nil⟩) (n + 1) (p + 1))
    else if opn l n = true then
      if o = 40 then .err 5 (plc l en n)
      else if p = 60 then .err 6 (plc l en n)
      else match alt l en k (n + 1) (p + 1) (o + 1) with
        | .ok x n' p' => if isS l n' (brk (txt l n)).2 = true then .ok (some (wrap (brk (txt l n)).1 x)) (n' + 1) p' else .err (fm l n') (plc l en n')
        | .err c a => .err c a
        | .out => .out
    else .ok none n p
def rowL (l : List Tk) (en : Int) : Nat → Nat → Nat → Nat → Fo → Res Xp
  | 0, _, _, _, _ => .out
  | k + 1, n, p, o, acc =>
    match item l en k n p o with
    | .ok none n' p' => .ok (mk 3 acc) n' p'
    | .ok (some x) n' p' => rowL l en k n' p' o (acc.snoc x)
    | .err c a => .err c a
    | .out => .out
def altL (l : List Tk) (en : Int) : Nat → Nat → Nat → Nat → Fo → Res Xp
  | 0, _, _, _, _ => .out
  | k + 1, n, p, o, acc =>
    if isS l n ⟨#[124]⟩ = true then
      if p = 60 then .err 6 (plc l en n)
      else match rowL l en k (n + 1) (p + 1) o .nil with
        | .ok x n' p' => altL l en k n' p' o (acc.snoc x)
        | .err c a => .err c a
        | .out => .out
    else .ok (mk 4 acc) n p
def alt (l : List Tk) (en : Int) : Nat → Nat → Nat → Nat → Res Xp
  | 0, _, _, _ => .out
  | k + 1, n, p, o =>
    match rowL l en k n p o .nil with
    | .ok x n' p' => altL l en k n' p' o (Fo.nil.snoc x)
    | .err c a => .err c a
    | .out => .out
end

/-- How far a reading goes. -/
structure Far (l : List Tk) (en : Int) (k : Nat) : Prop where
  item : ∀ n p o x n' p', p ≤ 60 → item l en k n p o = .ok x n' p' → (x = none → n' = n ∧ p' = p) ∧ (x ≠ none → n < n' ∧ n' ≤ l.length ∧ p < p' ∧ p' ≤ 60)
  row : ∀ n p o acc x n' p', p ≤ 60 → n ≤ l.length → rowL l en k n p o acc = .ok x n' p' → n ≤ n' ∧ n' ≤ l.length ∧ p ≤ p' ∧ p' ≤ 60
  altL : ∀ n p o acc x n' p', p ≤ 60 → n ≤ l.length → altL l en k n p o acc = .ok x n' p' → n ≤ n' ∧ n' ≤ l.length ∧ p ≤ p' ∧ p' ≤ 60
  alt : ∀ n p o x n' p', p ≤ 60 → n ≤ l.length → alt l en k n p o = .ok x n' p' → n ≤ n' ∧ n' ≤ l.length ∧ p ≤ p' ∧ p' ≤ 60
theorem far (l : List Tk) (en : Int) (k : Nat) : Far l en k := by
  induction k with
  | zero => exact ⟨fun _ _ _ _ _ _ _ h => by simp [Go.Proofs.Ytcanphhmflbdmac.item] at h, fun _ _ _ _ _ _ _ _ _ h => by simp [Go.Proofs.Ytcanphhmflbdmac.rowL] at h, fun _ _ _ _ _ _ _ _ _ h => by simp [Go.Proofs.Ytcanphhmflbdmac.altL] at h, fun _ _ _ _ _ _ _ _ h => by simp [Go.Proofs.Ytcanphhmflbdmac.alt] at h⟩
  | succ k ih =>
    refine ⟨?_, ?_, ?_, ?_⟩
    · intro n p o x n' p' hp h
      rw [Go.Proofs.Ytcanphhmflbdmac.item] at h
      split at h
      · rename_i h1
        split at h
        · cases h
        · have := lt_of_knd h1 (by decide); cases h; exact ⟨fun e => (by cases e), fun _ => by omega⟩
      · split at h
        · rename_i h1
          split at h
          · cases h
          · have := lt_of_knd h1 (by decide); cases h; exact ⟨fun e => (by cases e), fun _ => by omega⟩
        · split at h
          · rename_i h1
            have h1 := lt_of_opn h1
            split at h
            · cases h
            · split at h
              · cases h
              · split at h
                · rename_i h2
                  have := ih.alt _ _ _ _ _ _ (by omega) (by omega) h2
                  split at h
                  · rename_i h3; have := lt_of_isS h3; cases h; exact ⟨fun e => (by cases e), fun _ => by omega⟩
                  · cases h
                · cases h
                · cases h
          · cases h; exact ⟨fun _ => ⟨rfl, rfl⟩, fun e => absurd rfl e⟩
    · intro n p o acc x n' p' hp hn h
      rw [Go.Proofs.Ytcanphhmflbdmac.rowL] at h
      split at h
      · rename_i h1
        have := (ih.item _ _ _ _ _ _ hp h1).1 rfl
        cases h; omega
      · rename_i h1
        have h2 := (ih.item _ _ _ _ _ _ hp h1).2 (by simp)
        have := ih.row _ _ _ _ _ _ _ (by omega) (by omega) h
        omega
      · cases h
      · cases h
    · intro n p o acc x n' p' hp hn h
      rw [Go.Proofs.Ytcanphhmflbdmac.altL] at h
      split at h
      · rename_i h0
        have h0 := lt_of_isS h0
        split at h
        · cases h
        · split at h
          · rename_i h1
            have h2 := ih.row _ _ _ _ _ _ _ (by omega) (by omega) h1
            have := ih.altL _ _ _ _ _ _ _ (by omega) (by omega) h
            omega
          · cases h
          · cases h
      · cases h; omega
    · intro n p o x n' p' hp hn h
      rw [Go.Proofs.Ytcanphhmflbdmac.alt] at h
      split at h
      · rename_i h1
        have h2 := ih.row _ _ _ _ _ _ _ hp hn h1
        have := ih.altL _ _ _ _ _ _ _ (by omega) (by omega) h
        omega
      · cases h
      · cases h
/-- A definition: its name, its place, its expression. -/
structure Df where
  nm : ByteArray
  at_ : Int
  e : Xp
  deriving DecidableEq
def fuel (l : List Tk) : Nat := 4 * l.length + 3
def defn (l : List Tk) (en : Int) (n : Nat) : Res Df :=
  if knd l n = 1 then
    if isS l (n + 1) ⟨#[61]⟩ = true then
      match alt l en (fuel l) (n + 2) 0 0 with
      | .ok x n' p' => if isS l n' ⟨#[59]⟩ = true then .ok ⟨txt l n, at0 l n, x⟩ (n' + 1) p' else .err (fm l n') (plc l en n')
      | .err c a => .err c a
      | .out => .out
    else .err (fm l (n + 1)) (plc l en (n + 1))
  else .err (fm l n) (plc l en n)
theorem defn_far {l : List Tk} {en : Int} {n : Nat} {d : Df} {n' p' : Nat} (h : defn l en n = .ok d n' p') : n < n' ∧ n' ≤ l.length ∧ p' ≤ 60 := by
  unfold defn at h
  split at h
  · split at h
    · rename_i h0
      have h0 := lt_of_isS h0
      split at h
      · rename_i h1
        have h2 := (far l en _).alt _ _ _ _ _ _ (by omega) (by omega) h1
        split at h
        · rename_i h3; have := lt_of_isS h3; cases h; omega
        · cases h
      · cases h
      · cases h
    · cases h
  · cases h
/-- The definitions from a token on, behind some others. -/
def textL (l : List Tk) (en : Int) : Nat → Nat → List Df → Res (List Df)
  | 0, _, _ => .out
  | k + 1, n, acc =>
    if n < l.length ∨ acc = [] then
      if acc.length = 16 then .err 6 (plc l en n)
      else match defn l en n with
        | .ok d n' _ => textL l en k n' (acc ++ [d])
        | .err c a => .err c a
        | .out => .out
    else .ok acc n 0
def text (l : List Tk) (en : Int) : Res (List Df) := textL l en (l.length + 2) 0 []
end Go.Proofs.Ytcanphhmflbdmac

/- Contracts of the library's functions, laid at this dump. -/
namespace Go.Proofs
open Go.Shelf
def Try.lays169_ren : Go.Shelf.Ren := ⟨fun | 169 => 96 | n => n, fun | 70 => 121 | 9 => 9 | 0 => 0 | 72 => 124 | 37 => 122 | 127 => 133 | 3 => 3 | 5 => 5 | n => n, fun | n => n⟩
theorem Try.lays169 : Go.Proofs.Lays.n169 Try.prog Try.lays169_ren := {
  mixed := by kernel_rfl
  f169 := Try.func96.trans (congrArg some (by kernel_rfl))
  t0 := Try.underlying0
  a0 := Try.isAgg0
  z0 := Try.sizeOf0
  v0 := Try.zeroValue0
  t3 := Try.underlying3
  a3 := Try.isAgg3
  z3 := Try.sizeOf3
  v3 := Try.zeroValue3
  t9 := Try.underlying9
  a9 := Try.isAgg9
  z9 := Try.sizeOf9
  v9 := Try.zeroValue9
  t37 := Try.underlying122
  a37 := Try.isAgg122
  z37 := Try.sizeOf122
  v37 := Try.zeroValue122
  t70 := Try.underlying121
  a70 := Try.isAgg121
  z70 := Try.sizeOf121
  v70 := Try.zeroValue121
  t72 := Try.underlying124
  a72 := Try.isAgg124
  z72 := Try.sizeOf124
  v72 := Try.zeroValue124
  t127 := Try.underlying133
  a127 := Try.isAgg133
  z127 := Try.sizeOf133
  v127 := Try.zeroValue133 }
theorem Try.Builder_Extra_169 : Builder.Extra Try.prog Try.lays169_ren := {
  sizeBuilder := by kernel_rfl
  liesBuilder := by kernel_rfl
  t5 := Try.underlying5
  a5 := Try.isAgg5
  z5 := Try.sizeOf5
  v5 := Try.zeroValue5
  infoByte := by kernel_rfl
  cellsByte := by kernel_rfl
  sizeByte := by kernel_rfl
  neB5 := by decide }
open Go.RowKit in
theorem Try.Builder_String (B b : Nat) (l : List UInt8) (w : World) (h : Lib.IsBuilder 124 5 B b (Lib.byteCells l) w) (h0 : l ≠ []) :
    Calls Try.prog 96 #[.pointer (some ⟨b, 0, none⟩)] w fun e w' => e = .returned (.string ⟨l.toArray⟩) ∧ Below B w w' := Any.Builder_String Try.lays169 Try.Builder_Extra_169 B b l w h h0
open Go.RowKit in
theorem Try.Builder_String_empty (B b : Nat) (w : World) (h : Lib.IsBuilder 124 5 B b [] w) (hBw : B ≤ w.heap.size) :
    Calls Try.prog 96 #[.pointer (some ⟨b, 0, none⟩)] w fun e w' => e = .returned (.string ⟨#[]⟩) ∧ Below B w w' := Any.Builder_String_empty Try.lays169 Try.Builder_Extra_169 B b w h hBw
open Go.RowKit in
theorem Try.Builder_String_any (B b : Nat) (l : List UInt8) (w : World) (h : Lib.IsBuilder 124 5 B b (Lib.byteCells l) w) (hBw : B ≤ w.heap.size) :
    Calls Try.prog 96 #[.pointer (some ⟨b, 0, none⟩)] w fun e w' => e = .returned (.string ⟨l.toArray⟩) ∧ Below B w w' := Any.Builder_String_any Try.lays169 Try.Builder_Extra_169 B b l w h hBw
open Go.RowKit in
theorem Try.Builder_String_f (B b : Nat) (l : List UInt8) (w : World) (h : Lib.IsBuilderF 124 5 B b (Lib.byteCells l) w) (h0 : l ≠ []) :
    Calls Try.prog 96 #[.pointer (some ⟨b, 0, none⟩)] w fun e w' => e = .returned (.string ⟨l.toArray⟩) ∧ (Lib.IsBuilderF 124 5 B b (Lib.byteCells l) w' ∧ Below B w w') := Any.Builder_String_f Try.lays169 Try.Builder_Extra_169 B b l w h h0
open Go.RowKit in
theorem Try.Builder_String_empty_f (B b : Nat) (w : World) (h : Lib.IsBuilderF 124 5 B b [] w) (hBw : B ≤ w.heap.size) :
    Calls Try.prog 96 #[.pointer (some ⟨b, 0, none⟩)] w fun e w' => e = .returned (.string ⟨#[]⟩) ∧ (Lib.IsBuilderF 124 5 B b [] w' ∧ Below B w w') := Any.Builder_String_empty_f Try.lays169 Try.Builder_Extra_169 B b w h hBw
open Go.RowKit in
theorem Try.Builder_String_any_f (B b : Nat) (l : List UInt8) (w : World) (h : Lib.IsBuilderF 124 5 B b (Lib.byteCells l) w) (hBw : B ≤ w.heap.size) :
    Calls Try.prog 96 #[.pointer (some ⟨b, 0, none⟩)] w fun e w' => e = .returned (.string ⟨l.toArray⟩) ∧ (Lib.IsBuilderF 124 5 B b (Lib.byteCells l) w' ∧ Below B w w') := Any.Builder_String_any_f Try.lays169 Try.Builder_Extra_169 B b l w h hBw
open Go.RowKit in
theorem Try.Builder_String_k (B b : Nat) (l : List UInt8) (w : World) (h : Lib.IsBuilderF 124 5 B b (Lib.byteCells l) w) (h0 : l ≠ []) :
    Calls Try.prog 96 #[.pointer (some ⟨b, 0, none⟩)] w fun e w' => e = .returned (.string ⟨l.toArray⟩) ∧ (Lib.IsBuilderF 124 5 B b (Lib.byteCells l) w' ∧ Below B w w' ∧ Lib.OthersKept 5 (some b) w w') := Any.Builder_String_k Try.lays169 Try.Builder_Extra_169 B b l w h h0
open Go.RowKit in
theorem Try.Builder_String_empty_k (B b : Nat) (w : World) (h : Lib.IsBuilderF 124 5 B b [] w) (hBw : B ≤ w.heap.size) :
    Calls Try.prog 96 #[.pointer (some ⟨b, 0, none⟩)] w fun e w' => e = .returned (.string ⟨#[]⟩) ∧ (Lib.IsBuilderF 124 5 B b [] w' ∧ Below B w w' ∧ Lib.OthersKept 5 (some b) w w') := Any.Builder_String_empty_k Try.lays169 Try.Builder_Extra_169 B b w h hBw
open Go.RowKit in
theorem Try.Builder_String_any_k (B b : Nat) (l : List UInt8) (w : World) (h : Lib.IsBuilderF 124 5 B b (Lib.byteCells l) w) (hBw : B ≤ w.heap.size) :
    Calls Try.prog 96 #[.pointer (some ⟨b, 0, none⟩)] w fun e w' => e = .returned (.string ⟨l.toArray⟩) ∧ (Lib.IsBuilderF 124 5 B b (Lib.byteCells l) w' ∧ Below B w w' ∧ Lib.OthersKept 5 (some b) w w') := Any.Builder_String_any_k Try.lays169 Try.Builder_Extra_169 B b l w h hBw
end Go.Proofs

/- The small functions, and the scan that goes on by a function that it is handed. -/
namespace Go.Proofs.Ytcanphhmflbdmac
open Go.RowKit

theorem ret_bool {a b : Bool} (h : a = b) : Ending.returned (.bool a) = .returned (.bool b) := by rw [h]
theorem ret_int {a b : Int} (h : a = b) : Ending.returned (.int .i64 a) = .returned (.int .i64 b) := by rw [h]

set_option maxRecDepth 100000 in
set_option maxHeartbeats 400000 in
theorem isLetter_any (c : Int) (w : World) :
    Calls Try.prog 105 #[.int .u8 c] w fun e w' => e = .returned (.bool (letB c)) ∧ w' = w := by
  go_enter Try.func105, Try.ntmps105
  go_wp2
  all_goals go_ret
  all_goals exact ⟨ret_bool (by rw [Bool.eq_iff_iff]; simp [letB]; try omega), rfl⟩
set_option maxRecDepth 100000 in
set_option maxHeartbeats 400000 in
theorem inName_any (c : Int) (w : World) :
    Calls Try.prog 107 #[.int .u8 c] w fun e w' => e = .returned (.bool (nameB c)) ∧ w' = w := by
  go_enter Try.func107, Try.ntmps107
  go_wp2_with (go_at_call 105; refine (isLetter_any _ _).mono ?_; rintro e w' ⟨rfl, rfl⟩)
  all_goals go_ret
  all_goals exact ⟨ret_bool (by rw [Bool.eq_iff_iff]; simp [nameB, digB, *]; try omega), rfl⟩
set_option maxRecDepth 100000 in
set_option maxHeartbeats 400000 in
theorem inTerm_any (c : Int) (w : World) :
    Calls Try.prog 113 #[.int .u8 c] w fun e w' => e = .returned (.bool (termB c)) ∧ w' = w := by
  go_enter Try.func113, Try.ntmps113
  go_wp2
  all_goals go_ret
  all_goals exact ⟨ret_bool (by rw [Bool.eq_iff_iff]; simp [termB, *]; try omega), rfl⟩
def fitsB (s : ByteArray) : Bool := decide (1 ≤ s.size) && decide (s.size ≤ 12)
set_option maxRecDepth 100000 in
set_option maxHeartbeats 400000 in
theorem fits_any (s : ByteArray) (w : World) (hs : s.size ≤ maxLen) :
    Calls Try.prog 104 #[.string s] w fun e w' => e = .returned (.bool (fitsB s)) ∧ w' = w := by
  unfold maxLen at hs
  go_enter Try.func104, Try.ntmps104
  go_wp2
  all_goals go_ret
  all_goals exact ⟨ret_bool (by rw [Bool.eq_iff_iff]; simp [fitsB]; try omega), rfl⟩
def memB (t : ByteArray) (c : Int) : Bool := decide (0 ≤ Lib.indexByte t.data.toList c.toNat.toUInt8)
set_option maxRecDepth 100000 in
set_option maxHeartbeats 400000 in
theorem over_inName (s : ByteArray) (a : Int) (w : World) (hs : s.size ≤ maxLen) (h0 : 0 ≤ a) (ha : a ≤ s.size) :
    Calls Try.prog 106 #[.string s, .int .i64 a, .func (.func 107) #[] #[]] w fun e w' => e = .returned (.int .i64 (over nameB s a.toNat)) ∧ w' = w := by
  unfold maxLen at hs
  obtain ⟨n, rfl⟩ := Int.eq_ofNat_of_zero_le h0
  rw [Int.toNat_natCast]
  go_enter Try.func106, Try.ntmps106
  go_wp2
  go_loop [1] (fun i => ∃ k : Nat, k ≤ s.size ∧ i = .int .i64 k ∧ Hid (over nameB s k = over nameB s n)) (fun i => s.size - (intOf i).toNat)
  case atStart => exact ⟨n, by omega, rfl, hd rfl⟩
  case round =>
    obtain ⟨k, hk, rfl, ho⟩ := hrel
    by_cases hlt : k < s.size
    · go_wp2_with (go_at_call 107; refine (inName_any _ _).mono ?_; rintro e w' ⟨rfl, rfl⟩)
      · have hp : nameB (s[k].toNat : Int) = true := by assumption
        go_round
        case rel => exact ⟨k + 1, by omega, by go_num, hd ((over_yes hlt hp).trans ho.out)⟩
        case measure => simp [intOf]; omega
      · have hp : nameB (s[k].toNat : Int) = false := by assumption
        go_ret
        exact ⟨ret_int (by rw [← ho.out, over_no hlt hp]), rfl⟩
    · go_wp2
      go_ret
      exact ⟨ret_int (by rw [← ho.out, over_end (by omega)]), rfl⟩
set_option maxRecDepth 100000 in
set_option maxHeartbeats 400000 in
theorem over_inTerm (s : ByteArray) (a : Int) (w : World) (hs : s.size ≤ maxLen) (h0 : 0 ≤ a) (ha : a ≤ s.size) :
    Calls Try.prog 106 #[.string s, .int .i64 a, .func (.func 113) #[] #[]] w fun e w' => e = .returned (.int .i64 (over termB s a.toNat)) ∧ w' = w := by
  unfold maxLen at hs
  obtain ⟨n, rfl⟩ := Int.eq_ofNat_of_zero_le h0
  rw [Int.toNat_natCast]
  go_enter Try.func106, Try.ntmps106
  go_wp2
  go_loop [1] (fun i => ∃ k : Nat, k ≤ s.size ∧ i = .int .i64 k ∧ Hid (over termB s k = over termB s n)) (fun i => s.size - (intOf i).toNat)
  case atStart => exact ⟨n, by omega, rfl, hd rfl⟩
  case round =>
    obtain ⟨k, hk, rfl, ho⟩ := hrel
    by_cases hlt : k < s.size
    · go_wp2_with (go_at_call 113; refine (inTerm_any _ _).mono ?_; rintro e w' ⟨rfl, rfl⟩)
      · have hp : termB (s[k].toNat : Int) = true := by assumption
        go_round
        case rel => exact ⟨k + 1, by omega, by go_num, hd ((over_yes hlt hp).trans ho.out)⟩
        case measure => simp [intOf]; omega
      · have hp : termB (s[k].toNat : Int) = false := by assumption
        go_ret
        exact ⟨ret_int (by rw [← ho.out, over_no hlt hp]), rfl⟩
    · go_wp2
      go_ret
      exact ⟨ret_int (by rw [← ho.out, over_end (by omega)]), rfl⟩
theorem over_inNameN (s : ByteArray) (n : Nat) (w : World) (hs : s.size ≤ maxLen) (ha : n ≤ s.size) :
    Calls Try.prog 106 #[.string s, .int .i64 n, .func (.func 107) #[] #[]] w fun e w' => e = .returned (.int .i64 (over nameB s n)) ∧ w' = w := by
  have := over_inName s n w hs (by omega) (by omega); rwa [Int.toNat_natCast] at this
theorem over_inTermN (s : ByteArray) (n : Nat) (w : World) (hs : s.size ≤ maxLen) (ha : n ≤ s.size) :
    Calls Try.prog 106 #[.string s, .int .i64 n, .func (.func 113) #[] #[]] w fun e w' => e = .returned (.int .i64 (over termB s n)) ∧ w' = w := by
  have := over_inTerm s n w hs (by omega) (by omega); rwa [Int.toNat_natCast] at this
end Go.Proofs.Ytcanphhmflbdmac

/- What is skipped: token.skip and graftworkref.skipped come to one number. -/
namespace Go.Proofs.Ytcanphhmflbdmac
open Go.RowKit

theorem over_congr {p q : Int → Bool} (h : ∀ c : UInt8, p c.toNat = q c.toNat) (s : ByteArray) (a : Nat) : over p s a = over q s a := by
  have e : (fun c : UInt8 => p c.toNat) = (fun c : UInt8 => q c.toNat) := funext h
  unfold over wh; rw [e]
theorem all_bytes {P : Nat → Bool} (h : (List.range 256).all P = true) (c : UInt8) : P c.toNat = true := by
  rw [List.all_eq_true] at h
  exact h _ (by simpa using c.toNat_lt)
theorem memB_blank (c : UInt8) : memB ⟨#[32, 9, 13, 10]⟩ c.toNat = blankB c.toNat := by
  have := all_bytes (P := fun n => memB ⟨#[32, 9, 13, 10]⟩ n == blankB n) (by decide +kernel) c
  simpa using this
theorem memB_sign (c : UInt8) : memB ⟨#[61, 59, 124, 40, 41, 91, 93, 123, 125, 60, 62]⟩ c.toNat = signB c.toNat := by
  have := all_bytes (P := fun n => memB ⟨#[61, 59, 124, 40, 41, 91, 93, 123, 125, 60, 62]⟩ n == signB n) (by decide +kernel) c
  simpa using this
theorem over_blanks (s : ByteArray) (a : Nat) : over (memB ⟨#[32, 9, 13, 10]⟩) s a = over blankB s a := over_congr memB_blank s a

theorem over_blank_not {s : ByteArray} {a : Nat} (ha : a ≤ s.size) (h : over blankB s a < s.size) : blankB (bt s (over blankB s a)) = false :=
  (over_spec blankB s a ha).2 h

end Go.Proofs.Ytcanphhmflbdmac

/- The small functions of the document's own answer, and Name and Term of package token. -/
namespace Go.Proofs.Ytcanphhmflbdmac
open Go.RowKit

set_option maxRecDepth 100000 in
set_option maxHeartbeats 400000 in
theorem rIsLetter_any (c : Int) (w : World) :
    Calls Try.prog 89 #[.int .u8 c] w fun e w' => e = .returned (.bool (letB c)) ∧ w' = w := by
  go_enter Try.func89, Try.ntmps89
  go_wp2
  all_goals go_ret
  all_goals exact ⟨ret_bool (by rw [Bool.eq_iff_iff]; simp [letB]; try omega), rfl⟩
set_option maxRecDepth 100000 in
set_option maxHeartbeats 400000 in
theorem rIsDigit_any (c : Int) (w : World) :
    Calls Try.prog 88 #[.int .u8 c] w fun e w' => e = .returned (.bool (digB c)) ∧ w' = w := by
  go_enter Try.func88, Try.ntmps88
  go_wp2
  all_goals go_ret
  all_goals exact ⟨ret_bool (by rw [Bool.eq_iff_iff]; simp [digB]; try omega), rfl⟩

def sgn : ByteArray := ⟨#[61, 59, 124, 40, 41, 91, 93, 123, 125, 60, 62]⟩
theorem sgn_size : sgn.size = 11 := rfl
theorem sgn_hit (k : Nat) (h : k < sgn.size) : signB (sgn[k].toNat : Int) = true := by
  match k, h with
  | 0, _ => rfl
  | 1, _ => rfl
  | 2, _ => rfl
  | 3, _ => rfl
  | 4, _ => rfl
  | 5, _ => rfl
  | 6, _ => rfl
  | 7, _ => rfl
  | 8, _ => rfl
  | 9, _ => rfl
  | 10, _ => rfl
  | k + 11, h => exact absurd h (by rw [sgn_size]; omega)
theorem sgn_none (c : Int) (h : ∀ j (hj : j < sgn.size), ((sgn[j].toNat : Int) == c) = false) : signB c = false := by
  have h0 := h 0 (by decide); have h1 := h 1 (by decide); have h2 := h 2 (by decide); have h3 := h 3 (by decide); have h4 := h 4 (by decide)
  have h5 := h 5 (by decide); have h6 := h 6 (by decide); have h7 := h 7 (by decide); have h8 := h 8 (by decide); have h9 := h 9 (by decide); have h10 := h 10 (by decide)
  simp only [sgn, beq_eq_false_iff_ne, ne_eq] at *
  simp only [signB, Bool.or_eq_false_iff, beq_eq_false_iff_ne, ne_eq]
  refine ⟨⟨⟨⟨⟨⟨⟨⟨⟨⟨?_, ?_⟩, ?_⟩, ?_⟩, ?_⟩, ?_⟩, ?_⟩, ?_⟩, ?_⟩, ?_⟩, ?_⟩
  · exact fun e => h0 e.symm
  · exact fun e => h1 e.symm
  · exact fun e => h2 e.symm
  · exact fun e => h3 e.symm
  · exact fun e => h4 e.symm
  · exact fun e => h5 e.symm
  · exact fun e => h6 e.symm
  · exact fun e => h7 e.symm
  · exact fun e => h8 e.symm
  · exact fun e => h9 e.symm
  · exact fun e => h10 e.symm

def isTermB (s : ByteArray) : Bool := fitsB s && (over termB s 0 == s.size)
def isNameB (s : ByteArray) : Bool := fitsB s && letB (bt s 0) && (over nameB s 0 == s.size)
set_option maxRecDepth 100000 in
set_option maxHeartbeats 400000 in
theorem rIsTerm_any (s : ByteArray) (w : World) (hs : s.size ≤ maxLen) :
    Calls Try.prog 91 #[.string s] w fun e w' => e = .returned (.bool (isTermB s)) ∧ w' = w := by
  unfold maxLen at hs
  by_cases hf : 1 ≤ s.size ∧ s.size ≤ 12
  · obtain ⟨hf1, hf2⟩ := hf
    have F : Hid (fitsB s = true) := hd (by simp [fitsB, hf1, hf2])
    have hc1 : decide ((s.size : Int) < 1) = false := by simp; omega
    have hc2 : decide (12 < (s.size : Int)) = false := by simp; omega
    go_enter Try.func91, Try.ntmps91
    go_wp2
    go_loop [3] (fun i => ∃ k : Nat, k ≤ s.size ∧ i = .int .i64 k ∧ Hid (over termB s k = over termB s 0)) (fun i => s.size - (intOf i).toNat)
    case atStart => exact ⟨0, Nat.zero_le _, rfl, hd rfl⟩
    case round =>
      obtain ⟨k, hk, rfl, ho⟩ := hrel
      by_cases hlt : k < s.size
      · by_cases hp : termB (s[k].toNat : Int) = true
        · have hp' := hp
          simp only [termB, Bool.and_eq_true, decide_eq_true_eq, bne_iff_ne, ne_eq] at hp'
          obtain ⟨⟨c1, c2⟩, c3⟩ := hp'
          have c4 : ((s[k].toNat : Int) == 34) = false := by simpa using c3
          have E := hd ((over_yes hlt hp).trans ho.out)
          clear hp ho c3
          go_wp2
          go_round
          case rel => exact ⟨k + 1, by omega, by go_num, E⟩
          case measure => simp [intOf]; omega
        · have hp' : termB (s[k].toNat : Int) = false := by simpa using hp
          have E : Hid (isTermB s = false) := hd (by have := ho.out; rw [over_no hlt hp'] at this; simp [isTermB, ← this]; omega)
          have hq : (s[k].toNat : Int) < 32 ∨ 126 < (s[k].toNat : Int) ∨ (32 ≤ (s[k].toNat : Int) ∧ (s[k].toNat : Int) ≤ 126 ∧ ((s[k].toNat : Int) == 34) = true) := by
            simp only [termB, Bool.and_eq_false_iff, decide_eq_false_iff_not, bne_eq_false_iff_eq] at hp'
            simp only [beq_iff_eq]; omega
          clear hp hp' ho
          rcases hq with c1 | c1 | ⟨c1, c2, c3⟩
          · go_wp2
            go_ret
            exact ⟨ret_bool (by rw [E.out]), rfl⟩
          · go_wp2
            go_ret
            exact ⟨ret_bool (by rw [E.out]), rfl⟩
          · go_wp2
            go_ret
            exact ⟨ret_bool (by rw [E.out]), rfl⟩
      · go_wp2
        go_ret
        exact ⟨ret_bool (by have := ho.out; rw [over_end (by omega)] at this; simp [isTermB, F.out, ← this]; omega), rfl⟩
  · have F : Hid (isTermB s = false) := hd (by
      have : fitsB s = false := by simp [fitsB]; omega
      simp [isTermB, this])
    go_enter Try.func91, Try.ntmps91
    go_wp2_with fail
    all_goals first
      | (go_ret; exact ⟨ret_bool (by rw [F.out]), rfl⟩)
      | (exfalso; omega)
theorem fits_true {s : ByteArray} (h : fitsB s = true) : 1 ≤ s.size ∧ s.size ≤ 12 := by simpa [fitsB] using h
theorem dig_let {c : Int} (h : digB c = true) : letB c = false := by
  simp only [digB, Bool.and_eq_true, decide_eq_true_eq] at h
  simp [letB]; omega
theorem name_let {c : Int} (h : nameB c = true) (hn : digB c = false) : letB c = true := by simpa [nameB, hn] using h
set_option maxRecDepth 100000 in
set_option maxHeartbeats 800000 in
theorem rIsName_any (s : ByteArray) (w : World) (hs : s.size ≤ maxLen) :
    Calls Try.prog 80 #[.string s] w fun e w' => e = .returned (.bool (isNameB s)) ∧ w' = w := by
  unfold maxLen at hs
  by_cases hf : fitsB s = true
  · obtain ⟨hf1, hf2⟩ := fits_true hf
    have F : Hid (fitsB s = true) := hf
    have hc1 : decide ((s.size : Int) < 1) = false := by simp; omega
    have hc2 : decide (12 < (s.size : Int)) = false := by simp; omega
    clear hf
    by_cases hdg : digB (s[0].toNat : Int) = true
    · have E : Hid (isNameB s = false) := hd (by simp [isNameB, bt_lt hf1, dig_let hdg])
      go_enter Try.func80, Try.ntmps80
      go_wp2_with (go_at_call 88; refine (rIsDigit_any _ _).mono ?_; rintro e w' ⟨rfl, rfl⟩)
      go_ret
      exact ⟨ret_bool (by rw [E.out]), rfl⟩
    · have hdg' : digB (s[0].toNat : Int) = false := by simpa using hdg
      clear hdg
      go_enter Try.func80, Try.ntmps80
      go_wp2_with (go_at_call 88; refine (rIsDigit_any _ _).mono ?_; rintro e w' ⟨rfl, rfl⟩)
      go_loop [3] (fun i => ∃ k : Nat, k ≤ s.size ∧ i = .int .i64 k ∧ Hid (over nameB s k = over nameB s 0)) (fun i => s.size - (intOf i).toNat)
      case atStart => exact ⟨0, Nat.zero_le _, rfl, hd rfl⟩
      case round =>
        obtain ⟨k, hk, rfl, ho⟩ := hrel
        by_cases hlt : k < s.size
        · by_cases hl : letB (s[k].toNat : Int) = true
          · have E := hd ((over_yes hlt (p := nameB) (by simp [nameB, hl])).trans ho.out)
            clear ho
            go_wp2_with (first | (go_at_call 88; refine (rIsDigit_any _ _).mono ?_; rintro e w' ⟨rfl, rfl⟩) | (go_at_call 89; refine (rIsLetter_any _ _).mono ?_; rintro e w' ⟨rfl, rfl⟩))
            go_round
            case rel => exact ⟨k + 1, by omega, by go_num, E⟩
            case measure => simp [intOf]; omega
          · have hl' : letB (s[k].toNat : Int) = false := by simpa using hl
            clear hl
            by_cases hdk : digB (s[k].toNat : Int) = true
            · have E := hd ((over_yes hlt (p := nameB) (by simp [nameB, hdk])).trans ho.out)
              clear ho
              go_wp2_with (first | (go_at_call 88; refine (rIsDigit_any _ _).mono ?_; rintro e w' ⟨rfl, rfl⟩) | (go_at_call 89; refine (rIsLetter_any _ _).mono ?_; rintro e w' ⟨rfl, rfl⟩))
              go_round
              case rel => exact ⟨k + 1, by omega, by go_num, E⟩
              case measure => simp [intOf]; omega
            · have hdk' : digB (s[k].toNat : Int) = false := by simpa using hdk
              have E : Hid (isNameB s = false) := hd (by have := ho.out; rw [over_no hlt (p := nameB) (by simp [nameB, hl', hdk'])] at this; simp [isNameB, ← this]; omega)
              clear hdk ho
              go_wp2_with (first | (go_at_call 88; refine (rIsDigit_any _ _).mono ?_; rintro e w' ⟨rfl, rfl⟩) | (go_at_call 89; refine (rIsLetter_any _ _).mono ?_; rintro e w' ⟨rfl, rfl⟩))
              go_ret
              exact ⟨ret_bool (by rw [E.out]), rfl⟩
        · have E : Hid (isNameB s = true) := hd (by
            have := ho.out; rw [over_end (by omega)] at this
            have hn := (over_spec nameB s 0 (by omega)).1 0 (by omega) (by omega)
            rw [bt_lt hf1] at hn
            simp [isNameB, F.out, ← this, bt_lt hf1, name_let hn hdg']; omega)
          clear ho
          go_wp2
          go_ret
          exact ⟨ret_bool (by rw [E.out]), rfl⟩
  · have hf' : fitsB s = false := by simpa using hf
    have F : Hid (isNameB s = false) := hd (by simp [isNameB, hf'])
    have hq : ¬ (1 ≤ s.size ∧ s.size ≤ 12) := fun h => hf (by simp [fitsB, h.1, h.2])
    clear hf hf'
    rcases Nat.lt_or_ge s.size 1 with h1 | h1
    · go_enter Try.func80, Try.ntmps80
      go_wp2_with fail
      go_ret
      exact ⟨ret_bool (by rw [F.out]), rfl⟩
    · have h2 : 12 < s.size := by omega
      clear hq
      go_enter Try.func80, Try.ntmps80
      go_wp2_with fail
      go_ret
      exact ⟨ret_bool (by rw [F.out]), rfl⟩
end Go.Proofs.Ytcanphhmflbdmac

/- token.Name, token.Term, and how token.read reads one token. -/
namespace Go.Proofs.Ytcanphhmflbdmac
open Go.RowKit

set_option maxRecDepth 100000 in
set_option maxHeartbeats 400000 in
theorem term_any (s : ByteArray) (w : World) (hs : s.size ≤ maxLen) :
    Calls Try.prog 112 #[.string s] w fun e w' => e = .returned (.bool (isTermB s)) ∧ w' = w := by
  by_cases hf : fitsB s = true
  · go_enter Try.func112, Try.ntmps112
    go_wp2_with fail
    refine (fits_any s _ hs).mono ?_
    rintro e w' ⟨rfl, rfl⟩
    go_wp2_with fail
    refine (over_inTermN s 0 _ hs (by omega)).mono ?_
    rintro e w' ⟨rfl, rfl⟩
    go_wp2
    go_ret
    exact ⟨ret_bool (by rw [Bool.eq_iff_iff]; simp [isTermB, hf]; try omega), rfl⟩
  · have hf' : fitsB s = false := by simpa using hf
    clear hf
    go_enter Try.func112, Try.ntmps112
    go_wp2_with fail
    refine (fits_any s _ hs).mono ?_
    rintro e w' ⟨rfl, rfl⟩
    go_wp2
    go_ret
    exact ⟨ret_bool (by simp [isTermB, hf']), rfl⟩
set_option maxRecDepth 100000 in
set_option maxHeartbeats 400000 in
theorem name_any (s : ByteArray) (w : World) (hs : s.size ≤ maxLen) :
    Calls Try.prog 97 #[.string s] w fun e w' => e = .returned (.bool (isNameB s)) ∧ w' = w := by
  by_cases hf : fitsB s = true
  · have hf1 := (fits_true hf).1
    by_cases hl : letB (s[0].toNat : Int) = true
    · go_enter Try.func97, Try.ntmps97
      go_wp2_with fail
      refine (fits_any s _ hs).mono ?_
      rintro e w' ⟨rfl, rfl⟩
      go_wp2_with fail
      refine (isLetter_any _ _).mono ?_
      rintro e w' ⟨rfl, rfl⟩
      go_wp2_with fail
      refine (over_inNameN s 0 _ hs (by omega)).mono ?_
      rintro e w' ⟨rfl, rfl⟩
      go_wp2
      go_ret
      exact ⟨ret_bool (by rw [Bool.eq_iff_iff]; simp [isNameB, hf, bt_lt hf1, hl]; try omega), rfl⟩
    · have hl' : letB (s[0].toNat : Int) = false := by simpa using hl
      clear hl
      go_enter Try.func97, Try.ntmps97
      go_wp2_with fail
      refine (fits_any s _ hs).mono ?_
      rintro e w' ⟨rfl, rfl⟩
      go_wp2_with fail
      refine (isLetter_any _ _).mono ?_
      rintro e w' ⟨rfl, rfl⟩
      go_wp2
      go_ret
      exact ⟨ret_bool (by simp [isNameB, bt_lt hf1, hl']), rfl⟩
  · have hf' : fitsB s = false := by simpa using hf
    clear hf
    go_enter Try.func97, Try.ntmps97
    go_wp2_with fail
    refine (fits_any s _ hs).mono ?_
    rintro e w' ⟨rfl, rfl⟩
    go_wp2
    go_ret
    exact ⟨ret_bool (by simp [isNameB, hf']), rfl⟩
theorem bcell {W w1 : World} (hb : Below W.heap.size W w1) : (∀ b o, b < W.heap.size → w1.cell? ⟨b, o, none⟩ = W.cell? ⟨b, o, none⟩) ∧ (∀ b o, b < W.heap.size → w1.frozen? ⟨b, o, none⟩ = W.frozen? ⟨b, o, none⟩) :=
  ⟨fun b o h => hb.cell (p := ⟨b, o, none⟩) h, fun b o h => hb.frozen (p := ⟨b, o, none⟩) h⟩

set_option maxRecDepth 100000 in
set_option maxHeartbeats 400000 in
theorem rF_any (c a : Int) (w : World) :
    Calls Try.prog 34 #[.int .i64 c, .int .i64 a] w fun e w' => e = .returned (.agg #[.int .i64 c, .int .i64 a]) ∧ Below w.heap.size w w' := by
  go_enter Try.func34, Try.ntmps34
  go_wp2_with fail
  exact bodyPost_ret (v := .agg #[.int .i64 c, .int .i64 a]) (by simp [results, Try.results34, go_sem]) rfl ⟨rfl, (Below.refl _ _).alloc (Nat.le_refl _) _⟩
theorem term_not34 {c : Int} (h : termB c = true) : (c == 34) = false := by
  simp only [termB, Bool.and_eq_true, bne_iff_ne] at h; simpa using h.2
theorem memB_signI (s : ByteArray) (n : Nat) (h : n < s.size) : memB ⟨#[61, 59, 124, 40, 41, 91, 93, 123, 125, 60, 62]⟩ (s[n].toNat : Int) = signB (s[n].toNat : Int) := memB_sign s[n]
theorem below3 {W w1 : World} {o p : Obj} {b : Nat} {v0 v1 v2 : Value} (hb : Below ((W.alloc o).alloc p).heap.size ((W.alloc o).alloc p) w1) (h : W.heap.size ≤ b) :
    Below W.heap.size W (((w1.setCell ⟨b, 0, none⟩ v0).setCell ⟨b, 1, none⟩ v1).setCell ⟨b, 2, none⟩ v2) :=
  ((((((Below.refl _ _).alloc (Nat.le_refl _) _).alloc (by simp) _).trans (hb.mono (by simp; omega))).setCell h _).setCell h _).setCell h _
end Go.Proofs.Ytcanphhmflbdmac

/- token.Scan comes to what 'scan' reckons. -/
namespace Go.Proofs.Ytcanphhmflbdmac
open Go.RowKit

theorem owns_below {w w' : World} {base : Nat} {e : TypeId} {size : Nat} {v : Value} {n : Nat} {xs : List Value} (h : w.ownsRow base e size v n xs) (hb : Below w.heap.size w w') : w'.ownsRow base e size v n xs :=
  h.kept (row := none) ⟨hb.os, hb.tape, hb.output, hb.size, fun k hk _ => hb.block k hk⟩ (by cases v.ownBlock <;> simp)
theorem owns_mono {w : World} {base b2 : Nat} {e : TypeId} {size : Nat} {v : Value} {n : Nat} {xs : List Value} (h : w.ownsRow base e size v n xs) (hb : b2 ≤ base) : w.ownsRow b2 e size v n xs := by
  obtain ⟨h1, h2⟩ := h
  refine ⟨h1, ?_⟩
  rcases h2 with h2 | ⟨g, cap, cur, e1, e2, e3⟩
  · exact .inl h2
  · exact .inr ⟨g, cap, cur, e1, Nat.le_trans hb e2, e3⟩
theorem owns_setCell {w : World} {base : Nat} {e : TypeId} {size : Nat} {v u : Value} {n : Nat} {xs : List Value} {a : Addr} (h : w.ownsRow base e size v n xs) (ha : a.block < base) : (w.setCell a u).ownsRow base e size v n xs := by
  obtain ⟨h1, h2⟩ := h
  refine ⟨h1, ?_⟩
  rcases h2 with h2 | ⟨g, cap, cur, e1, e2, e3, e4⟩
  · exact .inl h2
  · exact .inr ⟨g, cap, cur, e1, e2, by rw [Below.heap_setCell _ _ _ _ (by omega)]; exact e3, e4⟩

theorem cell3_new (w : World) (v0 v1 v2 : Value) (t : TypeId) : ∀ j u, [v0, v1, v2][j]? = some u → (w.alloc (.cells #[v0, v1, v2] t)).cell? ((⟨w.heap.size, 0, none⟩ : Addr).add j) = some u := by
  intro j u hj
  match j, hj with
  | 0, hj => simp at hj; subst hj; simp [Addr.add]
  | 1, hj => simp at hj; subst hj; simp [Addr.add]
  | 2, hj => simp at hj; subst hj; simp [Addr.add]

theorem st_next {s : ByteArray} {k : Nat} {l : List Tk} {a : Nat} {x : Tk} {nx c : Int} (e : st s k = (l, a)) (h : a < s.size) (er : rd s a = (x, nx, c)) (hc : c = 0) :
    st s (k + 1) = (l ++ [x], skip s nx.toNat) := by
  show stp s (st s k) = _
  rw [e]; unfold stp
  simp only [er]
  rw [if_pos ⟨h, hc⟩]
theorem scan_bad {s : ByteArray} {k : Nat} {l : List Tk} {a : Nat} {x : Tk} {nx c : Int} (e : st s k = (l, a)) (hk : k ≤ a) (h : a < s.size) (er : rd s a = (x, nx, c)) (hc : c ≠ 0) (h6 : s.size ≤ 6000) :
    scan s = ([], c, (a : Int)) := by
  have hst : stp s (st s k) = st s k := by
    rw [e]; unfold stp; simp only [er]; rw [if_neg (fun h => hc h.2)]
  unfold scan
  rw [if_neg (by omega), st_fin hst (by omega), e]
  unfold fin; simp only [er]; rw [if_pos h]
theorem scan_good {s : ByteArray} {k : Nat} {l : List Tk} {a : Nat} (e : st s k = (l, a)) (hk : k ≤ a) (ha : a ≤ s.size) (h : ¬ a < s.size) (h6 : s.size ≤ 6000) :
    scan s = (l, 0, 0) := by
  have hst : stp s (st s k) = st s k := by
    rw [e]; unfold stp; rw [if_neg (fun x => h x.1)]
  unfold scan
  rw [if_neg (by omega), st_fin hst (by omega), e]
  unfold fin; rw [if_neg h]

theorem below_fault {w W wr : World} {o : Obj} {v0 v1 : Value} (hW : W = w.alloc o) (hb : Below (w.heap.size + 1) W wr) :
    Below w.heap.size w ((wr.setCell ⟨w.heap.size, 0, none⟩ v0).setCell ⟨w.heap.size, 1, none⟩ v1) := by
  subst hW
  exact ((((Below.refl _ _).alloc (Nat.le_refl _) _).trans (hb.mono (by omega))).setCell (Nat.le_refl _) _).setCell (Nat.le_refl _) _
end Go.Proofs.Ytcanphhmflbdmac

/- What the document's own scan looks at is what 'rd' reads. -/
namespace Go.Proofs.Ytcanphhmflbdmac
open Go.RowKit

theorem bt_extract (s : ByteArray) (b e j : Nat) (he : e ≤ s.size) (hj : b + j < e) : bt (s.extract b e) j = bt s (b + j) := by
  have h1 : j < (s.extract b e).size := by simp; omega
  rw [bt_lt h1, bt_lt (by omega : b + j < s.size)]
  simp [ByteArray.getElem_extract]
theorem all_extract (p : Int → Bool) (s : ByteArray) (b e : Nat) (hbe : b ≤ e) (he : e ≤ s.size) :
    (over p (s.extract b e) 0 == (s.extract b e).size) = true ↔ ∀ j, b ≤ j → j < e → p (bt s j) = true := by
  have hz : (s.extract b e).size = e - b := by simp; omega
  rw [beq_iff_eq]
  constructor
  · intro h j h1 h2
    have := (over_spec p (s.extract b e) 0 (by omega)).1 (j - b) (by omega) (by omega)
    rw [bt_extract s b e (j - b) he (by omega)] at this
    rwa [show b + (j - b) = j from by omega] at this
  · intro h
    apply over_unique p (s.extract b e) 0 _ (by omega) (Nat.le_refl _)
    · intro j _ h2
      rw [bt_extract s b e j he (by omega)]
      exact h _ (by omega) (by omega)
    · intro h'; omega
theorem term_quot {c : Int} (h : termB c = true) : quotB c = true := by
  simp only [termB, quotB, Bool.and_eq_true, decide_eq_true_eq, bne_iff_ne, ne_eq] at *; omega
theorem term_ok {s : ByteArray} {a : Nat} (_ha : a + 1 ≤ s.size) (h1 : over quotB s (a + 1) < s.size) (h2 : bt s (over quotB s (a + 1)) = 34)
    (h3 : isTermB (s.extract (a + 1) (over quotB s (a + 1))) = true) : over termB s (a + 1) = over quotB s (a + 1) ∧ termOk s a (over termB s (a + 1)) = true := by
  have g := over_ge quotB s (a + 1)
  simp only [isTermB, Bool.and_eq_true] at h3
  obtain ⟨f, al⟩ := h3
  rw [all_extract termB s _ _ g (by omega)] at al
  have e : over termB s (a + 1) = over quotB s (a + 1) := over_unique termB s _ _ g (by omega) al (fun _ => by rw [h2]; decide)
  refine ⟨e, ?_⟩
  rw [e]
  have := fits_true f
  have hz : (s.extract (a + 1) (over quotB s (a + 1))).size = over quotB s (a + 1) - (a + 1) := by simp; omega
  simp only [termOk, h2]; simp; omega
theorem term_ok' {s : ByteArray} {a : Nat} (ha : a + 1 ≤ s.size) (h : termOk s a (over termB s (a + 1)) = true) :
    over quotB s (a + 1) < s.size ∧ bt s (over quotB s (a + 1)) = 34 ∧ isTermB (s.extract (a + 1) (over quotB s (a + 1))) = true := by
  have g := over_ge termB s (a + 1)
  have l := over_le termB s (a + 1) ha
  simp only [termOk, Bool.and_eq_true, decide_eq_true_eq, beq_iff_eq] at h
  obtain ⟨⟨k1, k2⟩, k3⟩ := h
  have hlt : over termB s (a + 1) < s.size := by
    rcases Nat.lt_or_ge (over termB s (a + 1)) s.size with h' | h'
    · exact h'
    · rw [bt_ge h'] at k3; simp at k3
  have sp := (over_spec termB s (a + 1) ha).1
  have e : over quotB s (a + 1) = over termB s (a + 1) := over_unique quotB s _ _ g l (fun j h1 h2 => term_quot (sp j h1 h2)) (fun _ => by rw [k3]; decide)
  rw [e]
  refine ⟨hlt, k3, ?_⟩
  simp only [isTermB, Bool.and_eq_true]
  refine ⟨?_, (all_extract termB s _ _ g l).2 sp⟩
  have hz : (s.extract (a + 1) (over termB s (a + 1))).size = over termB s (a + 1) - (a + 1) := by simp; omega
  simp only [fitsB, hz]; simp; omega
theorem sign_let {c : Int} (h : signB c = true) : letB c = false ∧ (c == 34) = false := by
  simp only [signB, Bool.or_eq_true, beq_iff_eq] at h
  constructor
  · simp only [letB, Bool.or_eq_false_iff, Bool.and_eq_false_iff, decide_eq_false_iff_not, beq_eq_false_iff_ne]; omega
  · simp only [beq_eq_false_iff_ne]; omega
theorem let_sign {c : Int} (h : letB c = true) : signB c = false := by
  cases hs : signB c
  · rfl
  · have := (sign_let hs).1; rw [h] at this; simp at this
theorem let_quot {c : Int} (h : letB c = true) : (c == 34) = false := by
  simp only [letB, Bool.or_eq_true, Bool.and_eq_true, decide_eq_true_eq, beq_iff_eq] at h
  simp only [beq_eq_false_iff_ne]; omega
theorem quot_sign {c : Int} (h : (c == 34) = true) : signB c = false := by
  simp only [beq_iff_eq] at h; subst h; decide
theorem quot_let {c : Int} (h : (c == 34) = true) : letB c = false := by
  simp only [beq_iff_eq] at h; subst h; decide
theorem rd_sign {s : ByteArray} {a : Nat} (ha : a < s.size) (h : signB (s[a].toNat : Int) = true) : rd s a = (⟨3, a, s.extract a (a + 1)⟩, ((a + 1 : Nat) : Int), 0) := by
  obtain ⟨h1, h2⟩ := sign_let h
  unfold rd; rw [bt_lt ha, h1, h2, h]; rfl
theorem rd_name {s : ByteArray} {a : Nat} (ha : a < s.size) (h : letB (s[a].toNat : Int) = true) (h12 : over nameB s a - a ≤ 12) : rd s a = (⟨1, a, s.extract a (over nameB s a)⟩, ((over nameB s a : Nat) : Int), 0) := by
  unfold rd rdName; rw [bt_lt ha, if_pos h, if_pos h12]
theorem rd_name_bad {s : ByteArray} {a : Nat} (ha : a < s.size) (h : letB (s[a].toNat : Int) = true) (h12 : ¬ over nameB s a - a ≤ 12) : rd s a = (noTk, 0, 2) := by
  unfold rd rdName; rw [bt_lt ha, if_pos h, if_neg h12]
theorem rd_none {s : ByteArray} {a : Nat} (ha : a < s.size) (h1 : signB (s[a].toNat : Int) = false) (h2 : ((s[a].toNat : Int) == 34) = false) (h3 : letB (s[a].toNat : Int) = false) : rd s a = (noTk, 0, 1) := by
  unfold rd; rw [bt_lt ha, h1, h2, h3]; rfl
theorem rd_term {s : ByteArray} {a : Nat} (ha : a < s.size) (hq : ((s[a].toNat : Int) == 34) = true) (h1 : over quotB s (a + 1) < s.size) (h2 : bt s (over quotB s (a + 1)) = 34)
    (h3 : isTermB (s.extract (a + 1) (over quotB s (a + 1))) = true) : rd s a = (⟨2, a, s.extract (a + 1) (over quotB s (a + 1))⟩, ((over quotB s (a + 1) + 1 : Nat) : Int), 0) := by
  obtain ⟨e, ok⟩ := term_ok ha h1 h2 h3
  unfold rd rdTerm; rw [bt_lt ha, quot_let hq, hq, if_neg (by simp), if_pos rfl, if_pos ok, e]
theorem rd_term_bad {s : ByteArray} {a : Nat} (ha : a < s.size) (hq : ((s[a].toNat : Int) == 34) = true)
    (h : ¬ (over quotB s (a + 1) < s.size ∧ bt s (over quotB s (a + 1)) = 34 ∧ isTermB (s.extract (a + 1) (over quotB s (a + 1))) = true)) : rd s a = (noTk, 0, 1) := by
  unfold rd rdTerm; rw [bt_lt ha, quot_let hq, hq, if_neg (by simp), if_pos rfl, if_neg (fun ok => h (term_ok' ha ok))]
end Go.Proofs.Ytcanphhmflbdmac

/- There and back, in plain mathematics: the tokens of a text, laid one behind the other with a remark behind each, are read as they were. -/
namespace Go.Proofs.Ytcanphhmflbdmac

def bys (s : ByteArray) : List UInt8 := s.data.toList
theorem bys_length (s : ByteArray) : (bys s).length = s.size := by simp [bys]
theorem bys_mk (l : List UInt8) : bys ⟨l.toArray⟩ = l := by simp [bys]
theorem bys_inj {s t : ByteArray} (h : bys s = bys t) : s = t := by
  have : s.data = t.data := by simpa [bys] using h
  exact ByteArray.ext this
theorem bys_extract (s : ByteArray) (a e : Nat) : bys (s.extract a e) = ((bys s).drop a).take (e - a) := by
  simp only [bys, ByteArray.data_extract]
  simp [Array.toList_extract, List.extract_eq_take_drop]

/-- What may stand as a token's text, by its kind. -/
def Okk (k : Int) (l : List UInt8) : Prop :=
  (k = 1 ∧ (∃ c r, l = c :: r ∧ letB c.toNat = true) ∧ (∀ d ∈ l, nameB d.toNat = true) ∧ l.length ≤ 12) ∨
  (k = 2 ∧ 1 ≤ l.length ∧ l.length ≤ 12 ∧ ∀ d ∈ l, termB d.toNat = true) ∨
  (k = 3 ∧ ∃ c, l = [c] ∧ signB c.toNat = true)

/-- A token's bytes, and what is laid behind them. -/
def tb (x : Tk) : List UInt8 := if x.k = 2 then 34 :: (bys x.t ++ [34]) else bys x.t
def tl5 : List UInt8 := [32, 35, 32, 120, 10]
def enc (x : Tk) : List UInt8 := tb x ++ tl5
def re : Nat → List Tk → List Tk
  | _, [] => []
  | p, x :: r => ⟨x.k, p, x.t⟩ :: re (p + (enc x).length) r
theorem re_snoc (p : Nat) (l : List Tk) (x : Tk) : re p (l ++ [x]) = re p l ++ [⟨x.k, ((p + (l.flatMap enc).length : Nat) : Int), x.t⟩] := by
  induction l generalizing p with
  | nil => simp [re]
  | cons y l ih => simp [re, ih, Nat.add_assoc]
theorem re_length (p : Nat) (l : List Tk) : (re p l).length = l.length := by
  induction l generalizing p with
  | nil => rfl
  | cons x l ih => simp [re, ih]
theorem re_get (p : Nat) (l : List Tk) (i : Nat) (h : i < l.length) (h' : i < (re p l).length) : (re p l)[i].k = l[i].k ∧ (re p l)[i].t = l[i].t := by
  induction l generalizing p i with
  | nil => simp at h
  | cons x l ih =>
    cases i with
    | zero => simp [re]
    | succ i => simpa [re] using ih (p + (enc x).length) i (by simpa using h) (by simpa [re] using h')

theorem wh_all (p : Int → Bool) (l : List UInt8) (c : UInt8) (r : List UInt8) (h : ∀ d ∈ l, p d.toNat = true) (hc : p c.toNat = false) : wh p (l ++ c :: r) = l.length := by
  induction l with
  | nil => simp [wh_cons, hc]
  | cons d l ih =>
    rw [List.cons_append, wh_cons, if_pos (h d (by simp)), ih (fun e he => h e (by simp [he]))]
    simp
theorem lt_of_drop {s : ByteArray} {p : Nat} {c : UInt8} {r : List UInt8} (h : (bys s).drop p = c :: r) : p < s.size := by
  rcases Nat.lt_or_ge p s.size with h' | h'
  · exact h'
  · rw [bys, drop_end s p h'] at h; simp at h
theorem bt_drop {s : ByteArray} {p : Nat} {c : UInt8} {r : List UInt8} (h : (bys s).drop p = c :: r) : bt s p = c.toNat := by
  have hl := lt_of_drop h
  rw [bys, drop_at s p hl] at h
  rw [bt_lt hl]
  injection h with h1 h2
  rw [h1]
theorem drop_more {s : ByteArray} {p : Nat} {a r : List UInt8} (h : (bys s).drop p = a ++ r) : (bys s).drop (p + a.length) = r := by
  rw [← List.drop_drop, h]; simp

theorem tb_len (x : Tk) : (tb x).length = (bys x.t).length + if x.k = 2 then 2 else 0 := by
  unfold tb; split <;> simp
theorem rd_enc {s : ByteArray} {p : Nat} {x : Tk} {r : List UInt8} (hx : Okk x.k (bys x.t)) (h : (bys s).drop p = enc x ++ r) :
    rd s p = (⟨x.k, p, x.t⟩, ((p + (tb x).length : Nat) : Int), 0) := by
  rcases hx with ⟨hk, ⟨c, q, hl, hc⟩, hall, hlen⟩ | ⟨hk, h1, h12, hall⟩ | ⟨hk, c, hl, hc⟩
  · have e : tb x = bys x.t := by unfold tb; rw [if_neg (by omega)]
    rw [enc, e, List.append_assoc] at h
    have h2 : (bys s).drop p = c :: (q ++ (tl5 ++ r)) := by rw [h, hl]; rfl
    have hov : over nameB s p = p + (bys x.t).length := by
      unfold over; rw [show s.data.toList = bys s from rfl, h]
      rw [show tl5 ++ r = 32 :: ([35, 32, 120, 10] ++ r) from rfl, wh_all _ _ _ _ hall (by decide)]
    have ht : s.extract p (p + (bys x.t).length) = x.t := by
      apply bys_inj; rw [bys_extract, h]; simp
    unfold rd rdName
    rw [bt_drop h2, if_pos hc, hov, if_pos (by omega), ht, e, hk]
  · have e : tb x = 34 :: (bys x.t ++ [34]) := by unfold tb; rw [if_pos hk]
    rw [enc, e] at h
    have h2 : (bys s).drop p = 34 :: (bys x.t ++ 34 :: (tl5 ++ r)) := by rw [h]; simp
    have h3 : (bys s).drop (p + 1) = bys x.t ++ 34 :: (tl5 ++ r) := by
      have := drop_more (a := [34]) (r := bys x.t ++ 34 :: (tl5 ++ r)) (by rw [h2]; rfl)
      simpa using this
    have h4 : (bys s).drop (p + 1 + (bys x.t).length) = 34 :: (tl5 ++ r) := drop_more h3
    have hov : over termB s (p + 1) = p + 1 + (bys x.t).length := by
      unfold over; rw [show s.data.toList = bys s from rfl, h3]
      rw [wh_all _ _ _ _ hall (by decide)]
    have ht : s.extract (p + 1) (p + 1 + (bys x.t).length) = x.t := by
      apply bys_inj; rw [bys_extract, h3]; simp
    have hb := bt_drop h2
    have hok : termOk s p (p + 1 + (bys x.t).length) = true := by
      simp only [termOk, bt_drop h4]; simp; omega
    unfold rd rdTerm
    rw [hb, if_neg (by decide), if_pos (by decide), hov, hok, if_pos rfl, ht, e, hk]
    simp; omega
  · have e : tb x = [c] := by unfold tb; rw [if_neg (by omega), hl]
    rw [enc, e] at h
    have h2 : (bys s).drop p = c :: (tl5 ++ r) := by rw [h]; rfl
    have ht : s.extract p (p + 1) = x.t := by
      apply bys_inj; rw [bys_extract, h2, hl]; simp
    obtain ⟨hs1, hs2⟩ := sign_let hc
    unfold rd
    rw [bt_drop h2, hs1, if_neg (by simp), hs2, if_neg (by simp), hc, if_pos rfl, ht, e, hk]
    rfl

/-- A rest that begins with a token, or is none: nothing of it is skipped. -/
theorem sk_enc (l : List Tk) (h : ∀ x ∈ l, Okk x.k (bys x.t)) : sk false (l.flatMap enc) = 0 := by
  cases l with
  | nil => rfl
  | cons x l =>
    have hx := h x (by simp)
    have hd : ∃ c r, enc x = c :: r ∧ blankB c.toNat = false ∧ ((c.toNat : Int) == 35) = false := by
      rcases hx with ⟨hk, ⟨c, q, hl, hc⟩, _⟩ | ⟨hk, _⟩ | ⟨hk, c, hl, hc⟩
      · refine ⟨c, q ++ tl5, ?_, ?_⟩
        · unfold enc tb; rw [if_neg (by omega), hl]; rfl
        · simp only [letB, Bool.or_eq_true, Bool.and_eq_true, decide_eq_true_eq, beq_iff_eq] at hc
          simp only [blankB, Bool.or_eq_false_iff, beq_eq_false_iff_ne, ne_eq]; omega
      · refine ⟨34, bys x.t ++ [34] ++ tl5, ?_, by decide, by decide⟩
        unfold enc tb; rw [if_pos hk]; rfl
      · refine ⟨c, tl5, ?_, ?_⟩
        · unfold enc tb; rw [if_neg (by omega), hl]; rfl
        · simp only [signB, Bool.or_eq_true, beq_iff_eq] at hc
          simp only [blankB, Bool.or_eq_false_iff, beq_eq_false_iff_ne, ne_eq]; omega
    obtain ⟨c, r, e, h1, h2⟩ := hd
    rw [List.flatMap_cons, e, List.cons_append]
    simp [sk, h1, h2]
theorem sk_tail (r : List UInt8) : sk false (tl5 ++ r) = 5 + sk false r := by
  simp [tl5, sk, blankB]; omega

theorem flat_split (l : List Tk) (i : Nat) (hi : i < l.length) : (l.flatMap enc).drop ((l.take i).flatMap enc).length = enc l[i] ++ (l.drop (i + 1)).flatMap enc := by
  have e : l.flatMap enc = (l.take i).flatMap enc ++ (l.drop i).flatMap enc := by rw [← List.flatMap_append, List.take_append_drop]
  have e2 : (l.drop i).flatMap enc = enc l[i] ++ (l.drop (i + 1)).flatMap enc := by rw [List.drop_eq_getElem_cons hi, List.flatMap_cons]
  rw [e, List.drop_append_of_le_length (Nat.le_refl _), List.drop_of_length_le (Nat.le_refl _), List.nil_append, e2]
theorem st_enc (l : List Tk) (h : ∀ x ∈ l, Okk x.k (bys x.t)) (s : ByteArray) (hs : bys s = l.flatMap enc) (i : Nat) (hi : i ≤ l.length) :
    st s i = (re 0 (l.take i), ((l.take i).flatMap enc).length) := by
  induction i with
  | zero =>
    show ([], skip s 0) = _
    unfold skip; rw [show s.data.toList = bys s from rfl, List.drop_zero, hs, sk_enc l h]; simp [re]
  | succ i ih =>
    have hi' : i < l.length := by omega
    have hd := flat_split l i hi'
    rw [← hs] at hd
    have hx := h l[i] (List.getElem_mem hi')
    have er := rd_enc hx hd
    have hlt : ((l.take i).flatMap enc).length < s.size := by
      rw [← bys_length, hs]
      have := congrArg List.length (flat_split l i hi')
      have ht := tb_len l[i]
      simp only [List.length_drop, List.length_append, enc, tl5, List.length_cons, List.length_nil] at this
      omega
    rw [st_next (ih (by omega)) hlt er rfl]
    rw [List.take_succ_eq_append_getElem hi', re_snoc]
    rw [Int.toNat_natCast]
    congr 1
    · simp
    · unfold skip
      have h2 : (bys s).drop (((l.take i).flatMap enc).length + (tb l[i]).length) = tl5 ++ (l.drop (i + 1)).flatMap enc := by
        apply drop_more; rw [hd, enc, List.append_assoc]
      rw [show s.data.toList = bys s from rfl, h2, sk_tail, sk_enc _ (fun x hx => h x (List.mem_of_mem_drop hx))]
      have h5 : tl5.length = 5 := rfl
      rw [List.flatMap_append, List.length_append]
      simp only [List.flatMap_cons, List.flatMap_nil, List.append_nil, enc, List.length_append]
      omega
theorem enc_pos (x : Tk) : 5 ≤ (enc x).length := by simp [enc, tl5]
theorem flat_ge (l : List Tk) : l.length ≤ (l.flatMap enc).length := by
  induction l with
  | nil => simp
  | cons x l ih => have := enc_pos x; rw [List.flatMap_cons, List.length_append, List.length_cons]; omega
theorem scan_enc (l : List Tk) (h : ∀ x ∈ l, Okk x.k (bys x.t)) (s : ByteArray) (hs : bys s = l.flatMap enc) (h6 : s.size ≤ 6000) : scan s = (re 0 l, 0, 0) := by
  have e := st_enc l h s hs l.length (Nat.le_refl _)
  rw [List.take_length] at e
  have hz : (l.flatMap enc).length = s.size := by rw [← hs, bys_length]
  have hg := flat_ge l
  exact scan_good e hg (by omega) (by omega) h6

/-- What holds of all tokens that a scan has come to. -/
structure Good (s : ByteArray) (l : List Tk) (a : Nat) : Prop where
  ok : ∀ x ∈ l, Okk x.k (bys x.t)
  at_ : ∀ x ∈ l, 0 ≤ x.at_ ∧ x.at_ < a
  up : l.Pairwise (fun x y => x.at_ < y.at_)
theorem all_bys {p : Int → Bool} {s : ByteArray} {a e : Nat} (he : e ≤ s.size) (h : ∀ j, a ≤ j → j < e → p (bt s j) = true) : ∀ d ∈ bys (s.extract a e), p d.toNat = true := by
  intro d hd
  rw [bys_extract] at hd
  obtain ⟨i, hi, e1⟩ := List.getElem_of_mem hd
  simp only [List.length_take, List.length_drop, bys_length] at hi
  have := h (a + i) (by omega) (by omega)
  rw [bt_lt (by omega)] at this
  rw [← e1]
  simp only [List.getElem_take, List.getElem_drop]
  exact this
theorem rd_ok {s : ByteArray} {a : Nat} (ha : a < s.size) (hc : (rd s a).2.2 = 0) : Okk (rd s a).1.k (bys (rd s a).1.t) ∧ (rd s a).1.at_ = a := by
  unfold rd at *
  split at hc
  · rename_i hl
    simp only [hl, if_true]
    unfold rdName at *
    split at hc
    · rename_i h12
      simp only [h12, if_true]
      refine ⟨.inl ⟨rfl, ?_, all_bys (over_le nameB s a (by omega)) (over_spec nameB s a (by omega)).1, ?_⟩, trivial⟩
      · have g : a + 1 ≤ over nameB s a := by
          have := over_ge nameB s (a + 1)
          rwa [over_yes ha (by rw [bt_lt ha] at hl; simp [nameB, hl])] at this
        refine ⟨s[a], ((bys s).drop (a + 1)).take (over nameB s a - a - 1), ?_, by rw [bt_lt ha] at hl; exact hl⟩
        rw [bys_extract, bys, drop_at s a ha, show over nameB s a - a = (over nameB s a - a - 1) + 1 from by omega, List.take_succ_cons]; rfl
      · rw [bys_extract]; simp; omega
    · simp at hc
  · rename_i hl
    simp only [if_neg hl]
    split at hc
    · rename_i hq
      simp only [hq, if_true]
      unfold rdTerm at *
      split at hc
      · rename_i hk
        simp only [hk, if_true]
        have hk' := hk
        simp only [termOk, Bool.and_eq_true, decide_eq_true_eq, beq_iff_eq] at hk'
        have l1 := over_le termB s (a + 1) ha
        have hz : (bys (s.extract (a + 1) (over termB s (a + 1)))).length = over termB s (a + 1) - (a + 1) := by rw [bys_length]; simp; omega
        exact ⟨.inr (.inl ⟨rfl, by omega, by omega, all_bys l1 (over_spec termB s (a + 1) ha).1⟩), trivial⟩
      · simp at hc
    · rename_i hq
      simp only [if_neg hq]
      split at hc
      · rename_i hs
        simp only [hs, if_true]
        refine ⟨.inr (.inr ⟨rfl, s[a], ?_, by rw [bt_lt ha] at hs; exact hs⟩), trivial⟩
        rw [bys_extract, bys, drop_at s a ha]; simp
      · simp at hc
theorem st_ok (s : ByteArray) (k : Nat) : Good s (st s k).1 (st s k).2 := by
  induction k with
  | zero => exact ⟨by simp [st], by simp [st], by simp [st]⟩
  | succ k ih =>
    show Good s (stp s (st s k)).1 (stp s (st s k)).2
    unfold stp
    split
    · rename_i h
      obtain ⟨o1, o2⟩ := rd_ok h.1 h.2
      have n1 := (rd_next h.1 h.2).1
      have g := skip_ge s (rd s (st s k).2).2.1.toNat
      refine ⟨?_, ?_, ?_⟩
      · intro x hx
        rcases List.mem_append.1 hx with hx | hx
        · exact ih.ok x hx
        · simp at hx; subst hx; exact o1
      · intro x hx
        show 0 ≤ x.at_ ∧ x.at_ < ((skip s (rd s (st s k).2).2.1.toNat : Nat) : Int)
        rcases List.mem_append.1 hx with hx | hx
        · have := ih.at_ x hx; omega
        · simp at hx; subst hx; omega
      · show ((st s k).1 ++ [(rd s (st s k).2).1]).Pairwise _
        rw [List.pairwise_append]
        refine ⟨ih.up, by simp, ?_⟩
        intro x hx y hy
        simp at hy; subst hy
        have := ih.at_ x hx; omega
    · exact ih
theorem scan_ok (s : ByteArray) : Good s (scan s).1 s.size := by
  unfold scan
  split
  · exact ⟨by simp, by simp, by simp⟩
  · unfold fin
    split
    · exact ⟨by simp, by simp, by simp⟩
    · have o := st_ok s s.size
      have := st_le s s.size
      exact ⟨o.ok, fun x hx => by have := o.at_ x hx; omega, o.up⟩
theorem up_get {l : List Tk} (h : l.Pairwise (fun x y => x.at_ < y.at_)) (i : Nat) (hi : i + 1 < l.length) : l[i].at_ < l[i + 1].at_ :=
  List.pairwise_iff_getElem.1 h i (i + 1) (by omega) hi (by omega)
theorem scan_code (s : ByteArray) (h : (scan s).2.1 ≠ 0) : (scan s).1 = [] := by
  unfold scan at *
  split
  · rfl
  · rename_i h6
    rw [if_neg h6] at h
    unfold fin at *
    split
    · rfl
    · rename_i h7; rw [if_neg h7] at h; simp at h
end Go.Proofs.Ytcanphhmflbdmac
