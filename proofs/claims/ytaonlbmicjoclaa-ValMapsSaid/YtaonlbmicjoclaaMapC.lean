/- the document's Map: where a pair goes -/
import Derived.Test.YtaonlbmicjoclaaMapA
namespace Go.Proofs.Ytaonlbmicjoclaa
open Go.ChangeShapes Go.WideShapes Go.ChangeAt Go.RowKit Go.Fl

theorem insR_split (p : T × T) : ∀ (X Y : List (T × T)), (∀ q ∈ X, cmpT q.1 p.1 < 0) → insR p (X ++ Y) = X ++ insR p Y
  | [], _, _ => rfl
  | q :: X, Y, h => by rw [List.cons_append, insR_l (h q (by simp)), insR_split p X Y (fun x hx => h x (List.mem_cons_of_mem _ hx)), List.cons_append]

theorem insR_same {p q : T × T} {X Y : List (T × T)} (h : ∀ q ∈ X, cmpT q.1 p.1 < 0) (hq : cmpT q.1 p.1 = 0) : insR p (X ++ q :: Y) = X ++ (q.1, p.2) :: Y := by
  rw [insR_split p X _ h, insR_e hq]

theorem insR_here {p : T × T} {X Y : List (T × T)} (h : ∀ q ∈ X, cmpT q.1 p.1 < 0) (hY : ∀ q r, Y = q :: r → 0 < cmpT q.1 p.1) : insR p (X ++ Y) = X ++ p :: Y := by
  rw [insR_split p X _ h]
  cases Y with
  | nil => rfl
  | cons q r => rw [insR_g (hY q r rfl)]

theorem flat_same (X Y : List (T × T)) (q : T × T) (v : T) : flat (X ++ (q.1, v) :: Y) = (flat (X ++ q :: Y)).set (2 * X.length + 1) v := by
  rw [flat_app, flat_app, List.set_append_right _ _ (by rw [flat_len]; omega), flat_len]
  rw [show 2 * X.length + 1 - 2 * X.length = 1 by omega]; rfl

theorem flat_take (X Y : List (T × T)) : (flat (X ++ Y)).take (2 * X.length) = flat X := by
  rw [flat_app, List.take_append_of_le_length (by rw [flat_len]; omega), List.take_of_length_le (by rw [flat_len]; omega)]

theorem flat_drop (X Y : List (T × T)) : (flat (X ++ Y)).drop (2 * X.length) = flat Y := by
  rw [flat_app, List.drop_append, List.drop_eq_nil_of_le (by rw [flat_len]; omega), flat_len, Nat.sub_self]; rfl

theorem flat_here (X Y : List (T × T)) (p : T × T) : flat (X ++ p :: Y) = (flat (X ++ Y)).take (2 * X.length) ++ [p.1, p.2] ++ (flat (X ++ Y)).drop (2 * X.length) := by
  rw [flat_take, flat_drop, flat_app, flat]; simp

theorem flat_key (X Y : List (T × T)) (q : T × T) : (flat (X ++ q :: Y))[2 * X.length]? = some q.1 := by
  rw [flat_app, List.getElem?_append_right (by rw [flat_len]; omega), flat_len, Nat.sub_self]; rfl

theorem mapR_snoc (l : List (T × T)) (p : T × T) : mapR (l ++ [p]) = insR p (mapR l) := by
  unfold mapR; rw [List.foldl_append]; rfl

theorem mapR_len (l : List (T × T)) : (mapR l).length ≤ l.length := by
  rw [← mrg_srt]
  exact Nat.le_trans (mrg_len _) (by rw [srt_len]; exact Nat.le_refl _)

end Go.Proofs.Ytaonlbmicjoclaa
