/- PageReads -/
import Derived.Test.YtdfkahkomcfoeaaPgT
namespace Go.Proofs.Ytdfkahkomcfoeaa
open Go.ChangeShapes Go.WideShapes Go.ChangeAt Go.RowKit

theorem getP_cases (s : List UInt8) : (∃ er : Int, er ≠ 0 ∧ getP s = (none, er)) ∨ ∃ l, getP s = (some l, 0) ∧ encP l = s := by
  unfold getP
  split
  · exact .inl ⟨4, by decide, rfl⟩
  split
  · exact .inl ⟨5, by decide, rfl⟩
  split
  · exact .inl ⟨6, by decide, rfl⟩
  cases parseP s (wd (s.take 2)) (s.drop 2) with
  | none => exact .inl ⟨6, by decide, rfl⟩
  | some l =>
    simp only
    split
    · rename_i h; exact .inr ⟨l, rfl, h.2.2⟩
    · exact .inl ⟨6, by decide, rfl⟩

theorem same_own {l : Pg} {A A' : Option Addr} {c c' b b' : Nat} {w : World} (h : Seen w l A c b) (h' : Seen w l A' c' b') (hl : l.length ≤ 1000) :
    Calls Try.prog 15 #[.slice A l.length c, .slice A' l.length c'] w fun e w' => e = .returned (.bool true) ∧ Below w.heap.size w w' := by
  have := same_any l l A A' c c' b b' w h h' hl
  rw [decide_eq_true rfl] at this
  exact this

theorem bel4 {a b c d e : World} (h1 : Below a.heap.size a b) (h2 : Below b.heap.size b c) (h3 : Below c.heap.size c d) (h4 : Below d.heap.size d e) : Below a.heap.size a e :=
  h1.trans ((h2.trans ((h3.trans (h4.mono h3.size)).mono h2.size)).mono h1.size)

set_option maxHeartbeats 1000000 in
set_option maxRecDepth 100000 in
theorem preads_walk (s : List UInt8) (w : World) (hs : s.length ≤ 9223372036854775807) : Calls Try.prog 4 #[.string ⟨s.toArray⟩] w fun e w' => e = .returned (.bool true) ∧ Below w.heap.size w w' := by
  obtain ⟨t, ht1, ht2⟩ : ∃ t, (s.length ≤ 600 → t = s) ∧ (600 < s.length → t = s.take 600) := by
    by_cases h : s.length ≤ 600
    · exact ⟨s, fun _ => rfl, fun h2 => absurd h2 (by omega)⟩
    · exact ⟨s.take 600, fun h2 => absurd h2 h, fun _ => rfl⟩
  have htl : t.length ≤ 600 := by
    by_cases h : s.length ≤ 600
    · rw [ht1 h]; exact h
    · rw [ht2 (by omega), List.length_take]; omega
  have HDE := Lib.hid (decode_any t (by omega) w)
  have HGE := Lib.hid (fun wn => rget_any t (by omega) wn)
  have HAW := Lib.hid (fun wn => awake5 wn)
  have hl := fun W => len_str s 3 W
  have hcut : 600 < s.length → ∀ W, (Instr.slice 9 (.string ⟨s.toArray⟩) none (some (.int .i64 600)) none).run Try.prog W = .ok (.string ⟨t.toArray⟩) W := fun h W => by
    rw [ht2 h]
    exact sl_head (s := s) (n := 600) (N := 600) rfl (by omega) W
  rw [dec_get] at HDE
  rcases getP_cases t with ⟨er, her, hgp⟩ | ⟨l, hgp, hen⟩
  · rw [hgp] at HDE HGE
    have HNA := Lib.hid (fun wn => nil_all wn)
    have HSA : Hid (∀ (wn : World) (A : Option Addr) (c : Nat), Calls Try.prog 15 #[.slice none 0 0, .slice A 0 c] wn fun e w' => e = .returned (.bool true) ∧ Below wn.heap.size wn w') := Lib.hid fun wn A c =>
      same_own (l := []) (b := 0) (b' := 0) ⟨Nat.le_refl _, fun h => absurd rfl h, fun j u hu => by simp [cellsB] at hu⟩ ⟨Nat.zero_le _, fun h => absurd rfl h, fun j u hu => by simp [cellsB] at hu⟩ (by simp)
    have b1 : (er != 0) = true := by simpa using her
    by_cases h6 : s.length ≤ 600
    · have e := ht1 h6
      subst e
      clear hgp htl hcut ht1 ht2 her
      have h7 : ¬ 600 < t.length := by omega
      go_enter Try.func4, Try.ntmps4
      go_wp2_with (first
        | (go_at_call 11; (with_reducible refine HDE.out.mono ?_); rintro e w1 ⟨hb1, rfl⟩)
        | (go_at_call 21; (with_reducible refine (HGE.out _).mono ?_); rintro e w2 ⟨v, rfl, hown, hb2⟩; obtain ⟨A, c, rfl, -, -⟩ := owns_form hown; clear hown)
        | (go_at_call 8; (with_reducible refine (HAW.out _).mono ?_); rintro e w3 ⟨rfl, hb3⟩)
        | (go_at_call 16; (with_reducible refine (HNA.out _).mono ?_); rintro e w4 ⟨rfl, rfl⟩)
        | (go_at_call 15; (with_reducible refine (HSA.out _ _ _).mono ?_); rintro e w5 ⟨rfl, hb5⟩)
        | fail)
      go_ret
      exact ⟨rfl, bel4 hb1 hb2 hb3 hb5⟩
    · have hc := hcut (by omega)
      have h7 : 600 < s.length := by omega
      clear hgp htl hcut ht1 ht2 her h6
      go_enter Try.func4, Try.ntmps4
      go_wp2_with (first
        | (go_at_call 11; (with_reducible refine HDE.out.mono ?_); rintro e w1 ⟨hb1, rfl⟩)
        | (go_at_call 21; (with_reducible refine (HGE.out _).mono ?_); rintro e w2 ⟨v, rfl, hown, hb2⟩; obtain ⟨A, c, rfl, -, -⟩ := owns_form hown; clear hown)
        | (go_at_call 8; (with_reducible refine (HAW.out _).mono ?_); rintro e w3 ⟨rfl, hb3⟩)
        | (go_at_call 16; (with_reducible refine (HNA.out _).mono ?_); rintro e w4 ⟨rfl, rfl⟩)
        | (go_at_call 15; (with_reducible refine (HSA.out _ _ _).mono ?_); rintro e w5 ⟨rfl, hb5⟩)
        | fail)
      go_ret
      exact ⟨rfl, bel4 hb1 hb2 hb3 hb5⟩
  · rw [hgp] at HDE HGE
    have HGE2 : Hid (∀ wn : World, Calls Try.prog 21 #[.string ⟨t.toArray⟩] wn fun e w' => ∃ v, e = .returned (.tuple #[v, .int .i64 0]) ∧ w'.ownsRow wn.heap.size 47 2 v l.length (cellsB l) ∧ Below wn.heap.size wn w') := Lib.hid fun wn => HGE.out wn
    have HALL : Hid (∀ (wn : World) (P : Nat) (v : Value), IsPg w.heap.size wn P v l → Calls Try.prog 16 #[.pointer (some ⟨P, 0, none⟩)] wn (AllOk wn l)) := Lib.hid fun wn P v hp => pg_all hp
    have HENC : Hid (∀ (wn : World) (P : Nat) (v : Value), IsPg w.heap.size wn P v l → Calls Try.prog 12 #[.pointer (some ⟨P, 0, none⟩)] wn fun e w' => e = .returned (.string ⟨t.toArray⟩) ∧ Below wn.heap.size wn w') := Lib.hid fun wn P v hp => by
      have := pg_encode hp
      rw [hen] at this
      exact this
    by_cases h6 : s.length ≤ 600
    · have e := ht1 h6
      subst e
      clear hgp htl hcut ht1 ht2 hen
      have h7 : ¬ 600 < t.length := by omega
      go_enter Try.func4, Try.ntmps4
      go_wp2_with (first
        | (go_at_call 11; (with_reducible refine HDE.out.mono ?_); rintro e w1 ⟨hb1, P, v, rfl, hp⟩; have HP := Lib.hid hp; have HB1 := Lib.hid hb1; clear hp hb1)
        | (go_at_call 21; (with_reducible refine (HGE2.out _).mono ?_); rintro e w2 ⟨v2, rfl, hown, hb2⟩; obtain ⟨A, c, b, rfl, hsn⟩ := owns_seen hown; have HP2 := Lib.hid (HP.out.on hb2); have HS2 := Lib.hid hsn; have HB2 := Lib.hid (HB1.out.trans (hb2.mono HB1.out.size)); clear hown hb2 hsn)
        | (go_at_call 8; (with_reducible refine (HAW.out _).mono ?_); rintro e w3 ⟨rfl, hb3⟩; have HP3 := Lib.hid (HP2.out.on hb3); have HS3 := Lib.hid (HS2.out.below hb3); have HB3 := Lib.hid (HB2.out.trans (hb3.mono HB2.out.size)); clear hb3)
        | (go_at_call 16; (with_reducible refine (HALL.out _ _ _ HP3.out).mono ?_); rintro e w4 ⟨v4, rfl, hown, hb4⟩; obtain ⟨A4, c4, b4, rfl, hsn⟩ := owns_seen hown; have HP4 := Lib.hid (HP3.out.on hb4); have HS4 := Lib.hid (HS3.out.below hb4); have HS4' := Lib.hid hsn; have HB4 := Lib.hid (HB3.out.trans (hb4.mono HB3.out.size)); clear hown hb4 hsn)
        | (go_at_call 15; (with_reducible refine (same_own HS4'.out HS4.out (by have := HP4.out.ok.len; omega)).mono ?_); rintro e w5 ⟨rfl, hb5⟩; have HP5 := Lib.hid (HP4.out.on hb5); have HB5 := Lib.hid (HB4.out.trans (hb5.mono HB4.out.size)); clear hb5)
        | (go_at_call 12; (with_reducible refine (HENC.out _ _ _ HP5.out).mono ?_); rintro e w6 ⟨rfl, hb6⟩; have HB6 := Lib.hid (HB5.out.trans (hb6.mono HB5.out.size)); clear hb6)
        | fail)
      go_ret
      exact ⟨rfl, HB6.out⟩
    · have hc := hcut (by omega)
      have h7 : 600 < s.length := by omega
      clear hgp htl hcut ht1 ht2 h6 hen
      go_enter Try.func4, Try.ntmps4
      go_wp2_with (first
        | (go_at_call 11; (with_reducible refine HDE.out.mono ?_); rintro e w1 ⟨hb1, P, v, rfl, hp⟩; have HP := Lib.hid hp; have HB1 := Lib.hid hb1; clear hp hb1)
        | (go_at_call 21; (with_reducible refine (HGE2.out _).mono ?_); rintro e w2 ⟨v2, rfl, hown, hb2⟩; obtain ⟨A, c, b, rfl, hsn⟩ := owns_seen hown; have HP2 := Lib.hid (HP.out.on hb2); have HS2 := Lib.hid hsn; have HB2 := Lib.hid (HB1.out.trans (hb2.mono HB1.out.size)); clear hown hb2 hsn)
        | (go_at_call 8; (with_reducible refine (HAW.out _).mono ?_); rintro e w3 ⟨rfl, hb3⟩; have HP3 := Lib.hid (HP2.out.on hb3); have HS3 := Lib.hid (HS2.out.below hb3); have HB3 := Lib.hid (HB2.out.trans (hb3.mono HB2.out.size)); clear hb3)
        | (go_at_call 16; (with_reducible refine (HALL.out _ _ _ HP3.out).mono ?_); rintro e w4 ⟨v4, rfl, hown, hb4⟩; obtain ⟨A4, c4, b4, rfl, hsn⟩ := owns_seen hown; have HP4 := Lib.hid (HP3.out.on hb4); have HS4 := Lib.hid (HS3.out.below hb4); have HS4' := Lib.hid hsn; have HB4 := Lib.hid (HB3.out.trans (hb4.mono HB3.out.size)); clear hown hb4 hsn)
        | (go_at_call 15; (with_reducible refine (same_own HS4'.out HS4.out (by have := HP4.out.ok.len; omega)).mono ?_); rintro e w5 ⟨rfl, hb5⟩; have HP5 := Lib.hid (HP4.out.on hb5); have HB5 := Lib.hid (HB4.out.trans (hb5.mono HB4.out.size)); clear hb5)
        | (go_at_call 12; (with_reducible refine (HENC.out _ _ _ HP5.out).mono ?_); rintro e w6 ⟨rfl, hb6⟩; have HB6 := Lib.hid (HB5.out.trans (hb6.mono HB5.out.size)); clear hb6)
        | fail)
      go_ret
      exact ⟨rfl, HB6.out⟩

end Go.Proofs.Ytdfkahkomcfoeaa
