/-
  Plain: a text's runes, and the text of runes.
-/
import Derived.Test.YtlaeaeciomkababDoorGen
import Derived.Shelf.Unicode.DecodeSlow
import Derived.Lib.RuneBytes
import Derived.Lib.Small
namespace Go.Proofs.YtlaeaeciomkababDoor
open Go.Lib

def bAt (l : List UInt8) (i : Nat) : Nat := (l.getD i 0).toNat
theorem bAt_lt (l : List UInt8) (i : Nat) : bAt l i < 256 := UInt8.toNat_lt _
/-- The rune that bytes begin with, and how long it is. -/
def decL (l : List UInt8) : Nat × Nat := decodeN l.length (bAt l 0) (bAt l 1) (bAt l 2) (bAt l 3)
theorem get_bang (s : ByteArray) (i : Nat) : (s.get! i).toNat = bAt s.data.toList i := by
  unfold bAt
  congr 1
  rw [List.getD_eq_getElem?_getD, Array.getElem?_toList]
  by_cases h : i < s.size
  · rw [Utf8W.get!_of_lt s i h, Array.getElem?_eq_getElem h]; rfl
  · have h2 : ¬ i < s.data.size := h
    rw [Array.getElem?_eq_none (by omega)]
    show s.data[i]! = _
    rw [getElem!_neg s.data i h2]; rfl
theorem decodeGo_eq {s : ByteArray} (h : s.data.toList ≠ []) : decodeGo s = decL s.data.toList := by
  have h0 : ¬ s.size = 0 := fun e => h (List.eq_nil_of_length_eq_zero (by rw [← Lib.size_eq]; exact e))
  unfold decodeGo decL
  rw [if_neg h0, decode_at, get_bang, get_bang, get_bang, get_bang, Nat.sub_zero, Lib.size_eq]
/-- A rune's number; less than 0: a byte that belongs to none. -/
def itemL (l : List UInt8) : Int := if (decL l).1 = 65533 ∧ (decL l).2 = 1 then -1 - (bAt l 0 : Int) else ((decL l).1 : Int)
theorem decN_len (n b0 b1 b2 b3 : Nat) (h : 1 ≤ n) : 1 ≤ (decodeN n b0 b1 b2 b3).2 ∧ (decodeN n b0 b1 b2 b3).2 ≤ n ∧ (decodeN n b0 b1 b2 b3).2 ≤ 4 := by
  unfold decodeN
  repeat' split
  all_goals (simp only; omega)
theorem decL_len {l : List UInt8} (h : l ≠ []) : 1 ≤ (decL l).2 ∧ (decL l).2 ≤ l.length ∧ (decL l).2 ≤ 4 := decN_len _ _ _ _ _ (List.length_pos_iff.2 h)
/-- A number as its bytes. -/
def encZ8 (n : Int) : List Int := if -256 ≤ n ∧ n ≤ -129 then [-1 - n] else encodeRuneZ n
def okZ (n : Int) : Bool := decide (-256 ≤ n ∧ n ≤ -129) || Lib.validRune n
set_option maxRecDepth 100000 in
set_option maxHeartbeats 4000000 in
theorem decN_back (n b0 b1 b2 b3 : Nat) (h0 : b0 < 256) :
    ((decodeN n b0 b1 b2 b3).1 = 65533 ∧ (decodeN n b0 b1 b2 b3).2 = 1 ∧ 128 ≤ b0) ∨
    (¬ ((decodeN n b0 b1 b2 b3).1 = 65533 ∧ (decodeN n b0 b1 b2 b3).2 = 1) ∧ Lib.validRune ((decodeN n b0 b1 b2 b3).1 : Int) = true ∧ encodeRuneZ ((decodeN n b0 b1 b2 b3).1 : Int) = ([b0, b1, b2, b3].take (decodeN n b0 b1 b2 b3).2).map fun (b : Nat) => (b : Int)) := by
  unfold decodeN
  by_cases c0 : b0 < 128
  · rw [if_pos c0]
    refine Or.inr ⟨by simp only; omega, ?_, ?_⟩
    · unfold Lib.validRune; simp only; exact decide_eq_true (by omega)
    · simp only; rw [encodeRuneZ_one (by omega) (by omega)]; rfl
  · rw [if_neg c0]
    by_cases c1 : b0 / 32 = 6 ∧ (1 < n ∧ b1 / 64 = 2)
    · rw [if_pos c1]
      by_cases d : b0 % 32 * 64 + b1 % 64 ≥ 128
      · rw [if_pos d]
        refine Or.inr ⟨by simp only; omega, ?_, ?_⟩
        · unfold Lib.validRune; simp only; exact decide_eq_true (by omega)
        · simp only
          rw [encodeRuneZ_two (by omega) (by omega)]
          simp only [List.take_succ_cons, List.take_zero, List.map_cons, List.map_nil, List.cons.injEq, and_true]
          omega
      · rw [if_neg d]; exact Or.inl ⟨rfl, rfl, by omega⟩
    · rw [if_neg c1]
      by_cases c2 : b0 / 16 = 14 ∧ (1 < n ∧ b1 / 64 = 2) ∧ (2 < n ∧ b2 / 64 = 2)
      · rw [if_pos c2]
        by_cases d : b0 % 16 * 4096 + b1 % 64 * 64 + b2 % 64 ≥ 2048 ∧ (b0 % 16 * 4096 + b1 % 64 * 64 + b2 % 64 < 55296 ∨ (57344 ≤ b0 % 16 * 4096 + b1 % 64 * 64 + b2 % 64 ∧ b0 % 16 * 4096 + b1 % 64 * 64 + b2 % 64 ≤ 1114111))
        · rw [if_pos d]
          refine Or.inr ⟨by simp only; omega, ?_, ?_⟩
          · unfold Lib.validRune; simp only; exact decide_eq_true (by omega)
          · simp only
            rw [encodeRuneZ_three (by omega)]
            simp only [List.take_succ_cons, List.take_zero, List.map_cons, List.map_nil, List.cons.injEq, and_true]
            omega
        · rw [if_neg d]; exact Or.inl ⟨rfl, rfl, by omega⟩
      · rw [if_neg c2]
        by_cases c3 : b0 / 8 = 30 ∧ (1 < n ∧ b1 / 64 = 2) ∧ (2 < n ∧ b2 / 64 = 2) ∧ (3 < n ∧ b3 / 64 = 2)
        · rw [if_pos c3]
          by_cases d : b0 % 8 * 262144 + b1 % 64 * 4096 + b2 % 64 * 64 + b3 % 64 ≥ 65536 ∧ (b0 % 8 * 262144 + b1 % 64 * 4096 + b2 % 64 * 64 + b3 % 64 < 55296 ∨ (57344 ≤ b0 % 8 * 262144 + b1 % 64 * 4096 + b2 % 64 * 64 + b3 % 64 ∧ b0 % 8 * 262144 + b1 % 64 * 4096 + b2 % 64 * 64 + b3 % 64 ≤ 1114111))
          · rw [if_pos d]
            refine Or.inr ⟨by simp only; omega, ?_, ?_⟩
            · unfold Lib.validRune; simp only; exact decide_eq_true (by omega)
            · simp only
              rw [encodeRuneZ_four (by omega) (by omega)]
              simp only [List.take_succ_cons, List.take_zero, List.map_cons, List.map_nil, List.cons.injEq, and_true]
              omega
          · rw [if_neg d]; exact Or.inl ⟨rfl, rfl, by omega⟩
        · rw [if_neg c3]; exact Or.inl ⟨rfl, rfl, by omega⟩
theorem decL_le (l : List UInt8) : (decL l).1 ≤ 1114111 := by
  rcases decN_back l.length (bAt l 0) (bAt l 1) (bAt l 2) (bAt l 3) (bAt_lt _ _) with ⟨a, _, _⟩ | ⟨_, b, _⟩
  · have a' : (decL l).1 = 65533 := a
    omega
  · have b' : Lib.validRune ((decL l).1 : Int) = true := b
    unfold Lib.validRune at b'
    have := of_decide_eq_true b'
    omega
/-- Numbers as bytes. -/
def toB (l : List Int) : List UInt8 := l.map fun x => x.toNat.toUInt8
theorem toB_nat (l : List UInt8) : toB (l.map fun b => (b.toNat : Int)) = l := by
  unfold toB
  rw [List.map_map]
  conv => rhs; rw [← List.map_id l]
  apply List.map_congr_left
  intro b _
  simp
theorem take4 (l : List UInt8) {k : Nat} (hk : k ≤ l.length) (h4 : k ≤ 4) : ([bAt l 0, bAt l 1, bAt l 2, bAt l 3].take k).map (fun (b : Nat) => (b : Int)) = (l.take k).map fun b => (b.toNat : Int) := by
  apply List.ext_getElem?
  intro i
  rw [List.getElem?_map, List.getElem?_map, List.getElem?_take, List.getElem?_take]
  by_cases hi : i < k
  · rw [if_pos hi, if_pos hi]
    have hl : i < l.length := by omega
    have e : l[i]? = some (l.getD i 0) := by rw [List.getD_eq_getElem?_getD, List.getElem?_eq_getElem hl]; rfl
    rw [e]
    have : i = 0 ∨ i = 1 ∨ i = 2 ∨ i = 3 := by omega
    rcases this with rfl | rfl | rfl | rfl <;> rfl
  · rw [if_neg hi, if_neg hi]; rfl
/-- No byte is lost. -/
theorem item_back {l : List UInt8} (h : l ≠ []) : okZ (itemL l) = true ∧ encZ8 (itemL l) = (l.take (decL l).2).map fun b => (b.toNat : Int) := by
  have hk := decL_len h
  have hlt := bAt_lt l 0
  rcases decN_back l.length (bAt l 0) (bAt l 1) (bAt l 2) (bAt l 3) (bAt_lt _ _) with ⟨a, b, c⟩ | ⟨a, b, c⟩
  · have a' : (decL l).1 = 65533 := a
    have b' : (decL l).2 = 1 := b
    have e : itemL l = -1 - (bAt l 0 : Int) := by unfold itemL; rw [if_pos ⟨a', b'⟩]
    rw [e, b']
    have hr : -256 ≤ -1 - (bAt l 0 : Int) ∧ -1 - (bAt l 0 : Int) ≤ -129 := by omega
    refine ⟨by unfold okZ; rw [decide_eq_true hr]; rfl, ?_⟩
    unfold encZ8
    rw [if_pos hr]
    cases l with
    | nil => exact absurd rfl h
    | cons x t =>
      show [-1 - (-1 - (x.toNat : Int))] = [(x.toNat : Int)]
      congr 1; omega
  · have e : itemL l = ((decL l).1 : Int) := by unfold itemL; exact if_neg a
    rw [e]
    refine ⟨by unfold okZ; rw [show Lib.validRune ((decL l).1 : Int) = true from b, Bool.or_true], ?_⟩
    unfold encZ8
    have hr : ¬ (-256 ≤ ((decL l).1 : Int) ∧ ((decL l).1 : Int) ≤ -129) := by omega
    rw [if_neg hr, ← take4 l hk.2.1 hk.2.2]
    exact c
/-- The runes of bytes. -/
def runesL : Nat → List UInt8 → List Int
  | _, [] => []
  | 0, _ :: _ => []
  | f + 1, a :: t => itemL (a :: t) :: runesL f ((a :: t).drop (decL (a :: t)).2)
def runesS (l : List UInt8) : List Int := runesL l.length l
theorem runesL_more : ∀ {f g : Nat} {t : List UInt8}, t.length ≤ f → t.length ≤ g → runesL f t = runesL g t
  | f, g, [], _, _ => by cases f <;> cases g <;> rfl
  | 0, _, _ :: _, h, _ => absurd h (by simp)
  | _ + 1, 0, _ :: _, _, h => absurd h (by simp)
  | f + 1, g + 1, a :: t, hf, hg => by
    have hk := decL_len (l := a :: t) (by simp)
    rw [runesL, runesL, runesL_more (f := f) (g := g)]
    · rw [List.length_drop]; rw [List.length_cons] at hf ⊢; omega
    · rw [List.length_drop]; rw [List.length_cons] at hg ⊢; omega
theorem runesS_step {l : List UInt8} (h : l ≠ []) : runesS l = itemL l :: runesS (l.drop (decL l).2) := by
  have hk := decL_len h
  cases l with
  | nil => exact absurd rfl h
  | cons a t =>
    unfold runesS
    rw [show (a :: t).length = t.length + 1 from rfl, runesL, runesL_more (f := t.length) (g := ((a :: t).drop (decL (a :: t)).2).length)]
    · rw [List.length_drop, List.length_cons]; omega
    · exact Nat.le_refl _
theorem runesS_nil : runesS [] = [] := rfl
/-- The bytes of a number, as bytes. -/
def encUtf (n : Int) : List UInt8 := if -256 ≤ n ∧ n ≤ -129 then [(-1 - n).toNat.toUInt8] else encodeRune n
theorem encU_eq (n : Int) : encUtf n = toB (encZ8 n) := by
  unfold encUtf encZ8 toB
  split <;> rfl
theorem item_backU {l : List UInt8} (h : l ≠ []) : okZ (itemL l) = true ∧ encUtf (itemL l) = l.take (decL l).2 := by
  obtain ⟨a, b⟩ := item_back h
  exact ⟨a, by rw [encU_eq, b, toB_nat]⟩
theorem encU_le (n : Int) : (encUtf n).length ≤ 4 := by
  unfold encUtf
  split
  · simp
  · unfold encodeRune
    rw [List.length_map]
    exact (encodeRuneZ_length n).2
/-- The text of numbers: what is wrong, the bytes so far. -/
def textU : List Int → List UInt8 → Nat × List UInt8
  | [], acc => (0, acc)
  | n :: t, acc => if okZ n = false then (1, []) else if 60 < (acc ++ encUtf n).length then (4, []) else textU t (acc ++ encUtf n)
theorem textU_bad {n : Int} {t : List Int} {acc : List UInt8} (h : okZ n = false) : textU (n :: t) acc = (1, []) := by rw [textU, if_pos h]
theorem textU_full {n : Int} {t : List Int} {acc : List UInt8} (h : okZ n = true) (h2 : 60 < (acc ++ encUtf n).length) : textU (n :: t) acc = (4, []) := by rw [textU, if_neg (by rw [h]; simp), if_pos h2]
theorem textU_go {n : Int} {t : List Int} {acc : List UInt8} (h : okZ n = true) (h2 : ¬ 60 < (acc ++ encUtf n).length) : textU (n :: t) acc = textU t (acc ++ encUtf n) := by rw [textU, if_neg (by rw [h]; simp), if_neg h2]
/-- The text of a text's runes is the text. -/
theorem text_runes : ∀ (f : Nat) {l acc : List UInt8}, l.length ≤ f → acc.length + l.length ≤ 60 → textU (runesS l) acc = (0, acc ++ l)
  | _, [], acc, _, _ => by rw [runesS_nil, textU]; simp
  | 0, _ :: _, _, h, _ => absurd h (by simp)
  | f + 1, a :: t, acc, hf, h60 => by
    have hne : a :: t ≠ [] := by simp
    have hk := decL_len hne
    obtain ⟨h1, h2⟩ := item_backU hne
    have hl : ((a :: t).take (decL (a :: t)).2).length = (decL (a :: t)).2 := by rw [List.length_take]; omega
    rw [runesS_step hne, textU_go h1 (by rw [h2, List.length_append, hl]; omega), h2, text_runes f]
    · rw [List.append_assoc, List.take_append_drop]
    · rw [List.length_drop]; rw [List.length_cons] at hf ⊢; omega
    · rw [List.length_append, hl, List.length_drop]; omega
theorem runes_len : ∀ (f : Nat) {l : List UInt8}, l.length ≤ f → (runesS l).length ≤ l.length ∧ l.length ≤ 4 * (runesS l).length
  | _, [], _ => by rw [runesS_nil]; simp
  | 0, _ :: _, h => absurd h (by simp)
  | f + 1, a :: t, hf => by
    have hne : a :: t ≠ [] := by simp
    have hk := decL_len hne
    have ih := runes_len f (l := (a :: t).drop (decL (a :: t)).2) (by rw [List.length_drop]; rw [List.length_cons] at hf ⊢; omega)
    rw [List.length_drop] at ih
    rw [runesS_step hne, List.length_cons]
    omega
#print axioms text_runes
end Go.Proofs.YtlaeaeciomkababDoor
