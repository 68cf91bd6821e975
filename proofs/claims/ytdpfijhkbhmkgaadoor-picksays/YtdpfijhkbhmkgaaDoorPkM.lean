/-
  Plain facts: of the first items those that are asked for.
-/
import Derived.Test.YtdpfijhkbhmkgaaDoorRd
namespace Go.Proofs.YtdpfijhkbhmkgaaDoor
open Go.Sort

/-- Of the first i items those of a kind. -/
def pk (p : Int × Int → Bool) (xs : Array (Int × Int)) (i : Nat) : List (Int × Int) := (xs.toList.take i).filter p
theorem pk_zero (p : Int × Int → Bool) (xs : Array (Int × Int)) : pk p xs 0 = [] := by simp [pk]
theorem pk_succ (p : Int × Int → Bool) (xs : Array (Int × Int)) (i : Nat) (h : i < xs.size) : pk p xs (i + 1) = if p xs[i]! then pk p xs i ++ [xs[i]!] else pk p xs i := by
  have hi : i < xs.toList.length := by simpa using h
  unfold pk
  rw [List.take_succ_eq_append_getElem hi, List.filter_append, getD_toList xs i hi]
  split <;> rename_i e <;> simp [e]
theorem pk_in {p : Int × Int → Bool} {xs : Array (Int × Int)} {i : Nat} {x : Int × Int} (h : i < xs.size) (e : xs[i]! = x) (hp : p x = true) : pk p xs (i + 1) = pk p xs i ++ [x] := by
  rw [pk_succ p xs i h, e, if_pos hp]
theorem pk_out {p : Int × Int → Bool} {xs : Array (Int × Int)} {i : Nat} {x : Int × Int} (h : i < xs.size) (e : xs[i]! = x) (hp : p x = false) : pk p xs (i + 1) = pk p xs i := by
  rw [pk_succ p xs i h, e, if_neg (by rw [hp]; decide)]
theorem pk_len (p : Int × Int → Bool) (xs : Array (Int × Int)) (i : Nat) : (pk p xs i).length ≤ i :=
  Nat.le_trans (List.length_filter_le _ _) (List.length_take_le _ _)
theorem pk_all (p : Int × Int → Bool) (xs : Array (Int × Int)) (n : Nat) (h : xs.size = n) : pk p xs n = xs.toList.filter p := by
  subst h; unfold pk; rw [List.take_of_length_le (by simp)]

/-- Below a key, it, and above it. -/
def blwB (key : Int) (x : Int × Int) : Bool := decide (x.1 < key)
def smeB (key : Int) (x : Int × Int) : Bool := decide (x.1 = key)
def abvB (key : Int) (x : Int × Int) : Bool := decide (key < x.1)
theorem tri_lt {key x0 x1 : Int} (h : x0 < key) : blwB key (x0, x1) = true ∧ smeB key (x0, x1) = false ∧ abvB key (x0, x1) = false :=
  ⟨decide_eq_true h, decide_eq_false (by show ¬ x0 = key; omega), decide_eq_false (by show ¬ key < x0; omega)⟩
theorem tri_eq {key x0 x1 : Int} (h : x0 = key) : blwB key (x0, x1) = false ∧ smeB key (x0, x1) = true ∧ abvB key (x0, x1) = false :=
  ⟨decide_eq_false (by show ¬ x0 < key; omega), decide_eq_true h, decide_eq_false (by show ¬ key < x0; omega)⟩
theorem tri_gt {key x0 x1 : Int} (h : key < x0) : blwB key (x0, x1) = false ∧ smeB key (x0, x1) = false ∧ abvB key (x0, x1) = true :=
  ⟨decide_eq_false (by show ¬ x0 < key; omega), decide_eq_false (by show ¬ x0 = key; omega), decide_eq_true h⟩
end Go.Proofs.YtdpfijhkbhmkgaaDoor
