/- entries that stand are read: plain mathematics -/
import Derived.Test.YtaoaidjbpfdgmaaLogM
import Derived.Test.YtaoaidjbpfdgmaaLogO
namespace Go.Proofs.Ytaoaidjbpfdgmaa

theorem fill_take {x : Sec} {m j : Nat} (h : x.length = m ∧ m ≤ j ∨ x.length = j) : (fillS x m).take j = x := by
  rcases h with ⟨h1, h2⟩ | h
  · rw [fillS_full h1, List.take_of_length_le (by omega)]
  · unfold fillS
    rw [← h, List.take_left]

theorem head_front (n : Nat) (s : Sec) : (headS n s).take 8 = eightL n := by
  unfold headS
  rw [List.append_assoc, List.append_assoc, List.take_append_of_le_length (by rw [eightL_len]; omega), List.take_of_length_le (by rw [eightL_len]; omega)]

theorem head_size (n : Nat) (s : Sec) : ((headS n s).drop 8).take 8 = eightL s.length := by
  unfold headS
  rw [List.append_assoc, List.append_assoc, List.drop_append_of_le_length (by rw [eightL_len]; omega), List.drop_of_length_le (l := eightL n) (by rw [eightL_len]; omega), List.nil_append,
    List.take_append_of_le_length (by rw [eightL_len]; omega), List.take_of_length_le (by rw [eightL_len]; omega)]

theorem head_body_len (s : Sec) : (fillS (s.take 104) 104).length = 104 := fillS_len (by rw [List.length_take]; omega)

theorem head_back (n : Nat) (s : Sec) : (headS n s).drop 120 = eightL n := by
  unfold headS
  have e : (eightL n ++ eightL s.length ++ fillS (s.take 104) 104).length = 120 := by
    simp only [List.length_append, eightL_len, head_body_len]
  rw [← e, List.drop_left]

theorem head_body (n : Nat) (s : Sec) : ((headS n s).take 120).drop 16 = fillS (s.take 104) 104 := by
  unfold headS
  have e : (eightL n ++ eightL s.length ++ fillS (s.take 104) 104).length = 120 := by
    simp only [List.length_append, eightL_len, head_body_len]
  rw [← e, List.take_left]
  have e2 : (eightL n ++ eightL s.length).length = 16 := by simp only [List.length_append, eightL_len]
  rw [← e2, List.drop_left]

theorem stands_entry {d : Dv} {g : Lg} {s : Sec} (ho : d.off = false) (hto : g.to_ ≤ d.sure.length) (hs : Stand (conL d) g.at_ g.next s) (hfit : g.at_ + sectN s.length ≤ g.to_) (hn0 : g.next ≠ 0) (hn : g.next < 18446744073709551616)
    (hl : s.length < 18446744073709551616) : standsG d g = some s.length := by
  have hp := sectN_pos s.length
  have h0 := hs 0 (by omega)
  rw [Nat.add_zero] at h0
  have hr : (readD d g.at_).1 = headS g.next s := by rw [on_read ho (by omega)]; exact h0
  have hsz : s.length ≤ (g.to_ - g.at_) * 128 - 24 := by
    have : s.length ≤ 104 + 128 * (sectN s.length - 1) := sectN_fits
    omega
  unfold standsG
  rw [if_neg (by omega), hr, head_front, head_size, head_back, List.take_of_length_le (by rw [eightL_len]; omega), wd_eight hn, wd_eight hl, if_neg (by simp), if_neg (by omega)]

theorem read_entry {d : Dv} {at_ hi nx : Nat} {s : Sec} (ho : d.off = false) (hto : hi ≤ d.sure.length) (hs : Stand (conL d) at_ nx s) (hfit : at_ + sectN s.length ≤ hi) : readG d at_ s.length (sectN s.length) = s := by
  have key : ∀ i, i < sectN s.length → readG d at_ s.length (i + 1) = s.take (104 + 128 * i) := by
    intro i
    induction i with
    | zero =>
      intro hi
      have h0 := hs 0 hi
      have hr : (readD d ((at_ + 0 : Nat) : Int)).1 = headS nx s := by rw [on_read ho (by omega)]; exact h0
      show readG d at_ s.length 0 ++ (pieceG d at_ 0).take (s.length - (readG d at_ s.length 0).length) = _
      have hp : pieceG d at_ 0 = fillS (s.take 104) 104 := by
        unfold pieceG
        rw [if_pos rfl, hr, head_body]
      rw [hp]
      show [] ++ (fillS (s.take 104) 104).take (s.length - 0) = _
      rw [List.nil_append, fill_take (by rw [List.length_take]; omega), Nat.mul_zero, Nat.add_zero]
    | succ i ih =>
      intro hi
      have h0 := hs (i + 1) hi
      have hr : (readD d ((at_ + (i + 1) : Nat) : Int)).1 = partS (s.drop 104) i := by rw [on_read ho (by omega)]; exact h0
      have hi' := ih (by omega)
      show readG d at_ s.length (i + 1) ++ (pieceG d at_ (i + 1)).take (s.length - (readG d at_ s.length (i + 1)).length) = _
      have hp : pieceG d at_ (i + 1) = fillS ((s.drop (104 + 128 * i)).take 128) 128 := by
        unfold pieceG
        rw [if_neg (by omega), hr]
        unfold partS
        rw [List.drop_drop]
      rw [hp, hi', fill_take (by simp only [List.length_take, List.length_drop]; omega)]
      have e : 104 + 128 * (i + 1) = 104 + 128 * i + 128 := by omega
      rw [e]
      rw [show (s.drop (104 + 128 * i)).take 128 = (s.drop (104 + 128 * i)).take 128 from rfl]
      exact List.take_add.symm
  have hp := sectN_pos s.length
  obtain ⟨i, hi⟩ : ∃ i, sectN s.length = i + 1 := ⟨sectN s.length - 1, by omega⟩
  rw [hi, key i (by omega), List.take_of_length_le]
  have : s.length ≤ 104 + 128 * (sectN s.length - 1) := sectN_fits
  rw [hi] at this
  exact this

theorem open_chain {d : Dv} (ho : d.off = false) : ∀ {l : List Sec} {g : Lg} {e : Nat}, g.to_ ≤ d.sure.length → Chain (conL d) g.at_ g.next l e → e ≤ g.to_ → g.next ≠ 0 → g.next + l.length < 18446744073709551616 → (∀ s ∈ l, s.length < 18446744073709551616) →
    standsG d { g with at_ := e, next := g.next + l.length } = none → openG d g = (l, { g with at_ := e, next := g.next + l.length })
  | [], g, e, hto, hc, he, hn0, hn, hl, hend => by
    have hc' : g.at_ = e := hc
    subst hc'
    exact openG_none hend
  | s :: r, g, e, hto, hc, he, hn0, hn, hl, hend => by
    have hle := Chain.le hc.2
    have hlen : (s :: r).length = r.length + 1 := rfl
    rw [hlen] at hn hend ⊢
    have h1 := stands_entry ho hto hc.1 (by omega) hn0 (by omega) (hl s (by simp))
    have hp : passG g s.length = { g with at_ := g.at_ + sectN s.length, next := g.next + 1 } := by
      unfold passG
      rw [Nat.mod_eq_of_lt (by omega)]
    have e2 : g.next + (r.length + 1) = g.next + 1 + r.length := by omega
    rw [e2] at hend hn ⊢
    have ih := open_chain ho (l := r) (g := { g with at_ := g.at_ + sectN s.length, next := g.next + 1 }) (e := e) hto hc.2 he (Nat.succ_ne_zero _) hn (fun t ht => hl t (List.mem_cons_of_mem _ ht)) hend
    rw [openG_some h1, hp, ih, read_entry ho hto hc.1 (Nat.le_trans hle he)]

/-- nothing stands where there are noughts -/
theorem stands_zer {d : Dv} {g : Lg} (ho : d.off = false) (hto : g.to_ ≤ d.sure.length) (h : g.at_ < g.to_ → (conL d).getD g.at_ [] = zer) : standsG d g = none := by
  unfold standsG
  by_cases h0 : g.next = 0 ∨ g.to_ - g.at_ = 0
  · rw [if_pos h0]
  · rw [if_neg h0]
    have hr : (readD d g.at_).1 = zer := by rw [on_read ho (by omega)]; exact h (by omega)
    have hw : wd (zer.take 8) = 0 := by decide
    rw [hr, if_pos (.inl (by rw [hw]; omega))]

end Go.Proofs.Ytaoaidjbpfdgmaa
