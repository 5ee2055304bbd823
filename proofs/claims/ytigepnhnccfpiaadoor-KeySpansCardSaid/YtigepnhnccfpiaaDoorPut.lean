/- val.put, val.Put -/
import Derived.Test.YtigepnhnccfpiaaDoorSize
import Derived.Test.YtigepnhnccfpiaaDoorEight
import Derived.Test.YtigepnhnccfpiaaDoorBld
namespace Go.Proofs.YtigepnhnccfpiaaDoor
open Go.ChangeShapes Go.WideShapes Go.ChangeAt Go.RowKit Go.Fl

/-- a kind's byte -/
def kby (k : Int) : UInt8 := UInt8.ofNat (k % 256).toNat

theorem kby_eq (k : Int) : k % 256 = (kby k).toNat := by
  unfold kby
  rw [UInt8.toNat_ofNat']
  omega

def eightL (n : Nat) : List UInt8 := (eightS n).data.toList

def twoS (m : Nat) : ByteArray := strOfNums [(m : Int) / 256 % 256, (m : Int) % 256]

theorem eight_size (n : Nat) : (eightS n).size = 8 := by unfold eightS; rw [nums_size]; rfl

theorem two_size (n : Nat) : (twoS n).size = 2 := by unfold twoS; rw [nums_size]; rfl

theorem eightL_len (n : Nat) : (eightL n).length = 8 := eight_size n

theorem twoL_len (n : Nat) : (twoS n).data.toList.length = 2 := two_size n

/-- an int64 as its word -/
def word (n : Int) : Nat := (n % 18446744073709551616).toNat

mutual
/-- a value's bytes -/
def bys : T → List UInt8
  | .mk k b n f s l => kby k :: (if k = 1 then [if b then 1 else 0] else if k = 2 ∨ k = 7 ∨ k = 8 then eightL (word n) else if k = 3 then eightL (canonN f)
      else if k = 4 then (twoS s.size).data.toList ++ s.data.toList else if k = 5 ∨ k = 6 then (twoS l.length).data.toList ++ bysL l else [])
def bysL : List T → List UInt8
  | [] => []
  | t :: r => bys t ++ bysL r
end

theorem bysL_snoc {l : List T} {i : Nat} (hi : i < l.length) : bysL (l.take (i + 1)) = bysL (l.take i) ++ bys l[i] := by
  induction l generalizing i with
  | nil => exact absurd hi (Nat.not_lt_zero _)
  | cons t r ih =>
    cases i with
    | zero => simp [bysL]
    | succ i =>
      have := ih (i := i) (by simpa using hi)
      simp only [List.take_succ_cons, bysL, List.getElem_cons_succ, List.append_assoc]
      rw [this]

theorem bysL_len {l : List T} {i : Nat} (hi : i ≤ l.length) : (bysL (l.take i)).length ≤ (bysL l).length := by
  induction l generalizing i with
  | nil => simp [bysL]
  | cons t r ih =>
    cases i with
    | zero => simp [bysL]
    | succ i =>
      have := ih (i := i) (by simpa using hi)
      simp only [List.take_succ_cons, bysL, List.length_append]
      omega

theorem bys_tot (t : T) : ((bys t).length : Int) ≤ tot t := by
  induction t using T.ind with | h k b n f s l ih => _
  have hl : ∀ r : List T, (∀ i (hi : i < r.length), ((bys r[i]).length : Int) ≤ tot r[i]) → ((bysL r).length : Int) ≤ totL r := by
    intro r
    induction r with
    | nil => intro _; simp [bysL, totL]
    | cons t r ihr =>
      intro h
      have h0 := h 0 (by simp)
      have h1 := ihr fun i hi => by have := h (i + 1) (by simpa using hi); simpa using this
      simp only [List.getElem_cons_zero] at h0
      rw [bysL, totL, List.length_append]; omega
  have h2 := hl l ih
  have h8 := eightL_len (word n)
  have h8' := eightL_len (canonN f)
  have ht := twoL_len s.size
  have ht' := twoL_len l.length
  have hs : s.data.toList.length = s.size := rfl
  rw [bys, tot, List.length_cons]
  unfold hdT
  by_cases k0 : k = 0
  · subst k0; simp
  by_cases k1 : k = 1
  · subst k1; simp
  by_cases k2 : k = 2 ∨ k = 7 ∨ k = 8
  · rw [if_neg k1, if_pos k2, if_neg k0, if_neg k1, if_neg (by omega), if_neg (by omega), if_neg (by omega)]; omega
  by_cases k3 : k = 3
  · subst k3; simp; omega
  by_cases k4 : k = 4
  · subst k4; simp; simp at ht hs; omega
  by_cases k5 : k = 5 ∨ k = 6
  · rw [if_neg k1, if_neg k2, if_neg k3, if_neg k4, if_pos k5, if_neg k0, if_neg k1, if_neg k4, if_pos k5, if_pos k5, List.length_append]; omega
  · rw [if_neg k1, if_neg k2, if_neg k3, if_neg k4, if_neg k5, if_neg k0, if_neg k1, if_neg k4, if_neg k5, if_neg k5]; simp

theorem ownsRow_below {w w' : World} {base : Nat} {e : TypeId} {size : Nat} {v : Value} {n : Nat} {xs : List Value} (h : w.ownsRow base e size v n xs) (hb : Below w.heap.size w w') : w'.ownsRow base e size v n xs := by
  obtain ⟨h1, h2⟩ := h
  refine ⟨h1, ?_⟩
  rcases h2 with h2 | ⟨g, cap, cur, hv, hg, hh, r⟩
  · exact .inl h2
  · exact .inr ⟨g, cap, cur, hv, hg, (hb.block _ (Blk.lt (w := w) hh)).trans hh, r⟩

theorem Holds.alloc {B b : Nat} {l : List UInt8} {w : World} (h : Holds B b l w) (o : Obj) : Holds B b l (w.alloc o) := by
  unfold Holds at h ⊢
  rcases h with ⟨hB, v, hb, hown, hne⟩ | ⟨hB, v, hb, hown, hne⟩
  · exact .inl ⟨hB, v, (Blk.lt (w := w) hb |> Below.heap_alloc w o b).trans hb, hown.alloc _, hne⟩
  · exact .inr ⟨hB, v, (Blk.lt (w := w) hb |> Below.heap_alloc w o b).trans hb, hown.alloc _, hne⟩

theorem Holds.lt {B b : Nat} {l : List UInt8} {w : World} (h : Holds B b l w) : b < w.heap.size := by
  unfold Holds at h
  rcases h with h | h
  · exact h.lt
  · exact h.lt

theorem Holds.below {B b : Nat} {l : List UInt8} {w w' : World} (h : Holds B b l w) (hb : Below w.heap.size w w') : Holds B b l w' := by
  unfold Holds at h ⊢
  rcases h with ⟨hB, v, hv, hown, hne⟩ | ⟨hB, v, hv, hown, hne⟩
  · exact .inl ⟨hB, v, (hb.block _ (Blk.lt (w := w) hv)).trans hv, ownsRow_below hown hb, hne⟩
  · exact .inr ⟨hB, v, (hb.block _ (Blk.lt (w := w) hv)).trans hv, ownsRow_below hown hb, hne⟩

end Go.Proofs.YtigepnhnccfpiaaDoor
