/- SrB -/
import Derived.Test.YtgmjhoppjjjilaaDoorQ44

/- a told value's text, read again, is the value: the plain mathematics -/
namespace Go.Proofs.YtgmjhoppjjjilaaDoor
open Go.ChangeShapes Go.WideShapes Go.ChangeAt Go.RowKit Go.Fl

/-- the words stand in G from i on -/
def AlW (G : Nat → Wd) (i : Nat) (ws : List Wd) : Prop := ∀ j x, ws[j]? = some x → G (i + j) = x

theorem AlW.drop {G : Nat → Wd} {i c : Nat} {ws ws' : List Wd} {x : Wd} (h : AlW G i ws) (hd : ws.drop c = x :: ws') : G (i + c) = x ∧ AlW G (i + c + 1) ws' ∧ ws.drop (c + 1) = ws' ∧ c + 1 ≤ ws.length := by
  have h0 : ∀ j, ws[c + j]? = (x :: ws')[j]? := fun j => by rw [← hd, List.getElem?_drop]
  refine ⟨h c x (by have := h0 0; simpa using this), fun j y hy => ?_, by rw [← List.drop_drop, hd]; rfl, ?_⟩
  · have := h0 (j + 1)
    rw [show i + c + 1 + j = i + (c + (j + 1)) by omega]
    exact h _ _ (by rw [this]; simpa using hy)
  · have : (ws.drop c).length = ws'.length + 1 := by rw [hd]; rfl
    rw [List.length_drop] at this
    omega

/-- what a told value's words come to, whatever comes behind -/
def Bck (x : T) : Prop := ∀ (fu : Nat) (rest : List UInt8) (n : Nat) (ws : List Wd), Sep rest → wdR fu (shT x ++ rest) n = some ws →
  ∃ w0 wr, ws = w0 :: wr ∧ isSgn w0 93 = false ∧ isSgn w0 41 = false ∧
    ∀ (G : Nat → Wd) (i k m : Nat), AlW G i ws → valA w0 = true →
      (∃ j e, pVal G k ⟨i, m⟩ = .bad j e) ∨ ∃ c x' fu' n', pVal G k ⟨i, m⟩ = .ok x' ⟨i + c, m⟩ ∧ smT x' x = true ∧ wdR fu' rest n' = some (ws.drop c)

theorem sgn_not {w : Wd} (h : w.k ≠ 5) (c : UInt8) : isSgn w c = false := by unfold isSgn; rw [decide_eq_false h]; rfl

theorem bck_first {x : T} (hne : ∃ c q, shT x = c :: q ∧ c ≠ 32) (hw : ∀ rest, Sep rest → oneR (shT x ++ rest) = none ∨ ∃ W m, oneR (shT x ++ rest) = some (W, m) ∧ W.k ≠ 5 ∧ (valA W = true → smT (wdT W) x = true ∧ m = (shT x).length)) : Bck x := by
  intro fu rest n ws hs h
  obtain ⟨c, q, he, hc⟩ := hne
  have hw' := hw rest hs
  have hh := h
  rw [he, List.cons_append] at hh
  obtain ⟨fu', W, m, ws', rfl, ho, hr, rfl⟩ := wdR_step hc hh
  rw [he, List.cons_append] at hw'
  rcases hw' with hw' | ⟨W', m', hw', h5, hv⟩
  · rw [hw'] at ho; cases ho
  · rw [hw'] at ho
    obtain ⟨rfl, rfl⟩ : W' = W ∧ m' = m := by injection ho with ho; injection ho with a b; exact ⟨a, b⟩
    refine ⟨era W', ws', rfl, sgn_not h5 _, sgn_not h5 _, fun G i k m hal hva => .inr ?_⟩
    obtain ⟨h1, h2⟩ := hv hva
    have hG : G i = era W' := by have := hal 0 _ rfl; simpa using this
    refine ⟨1, wdT W', fu', n + 1, ?_, h1, ?_⟩
    · have h5' : ¬ (G i).k = 5 := by rw [hG]; exact h5
      cases k with
      | zero => rw [pVal, if_neg h5']; rw [hG]; rfl
      | succ k => rw [pVal, if_neg h5']; rw [hG]; rfl
    · rw [h2] at hr
      have e : (c :: (q ++ rest)).drop (c :: q).length = rest := by rw [← List.cons_append]; exact List.drop_left
      rw [e] at hr
      exact hr

theorem smL_nil : smL [] [] = true := rfl

theorem lst_back (k : Nat) : ∀ (l : List T), (∀ x ∈ l, Bck x) → l ≠ [] → ∀ (fu : Nat) (rest : List UInt8) (n : Nat) (ws : List Wd), wdR fu (shTs l ++ 93 :: rest) n = some ws → ∀ (G : Nat → Wd) (i m f : Nat) (acc : List T), AlW G i ws →
    (∃ j e, sevL G 93 valA (fun _ => pVal G k) f acc ⟨i, m⟩ = .bad j e) ∨ ∃ c l' fu' n', sevL G 93 valA (fun _ => pVal G k) f acc ⟨i, m⟩ = .ok (acc ++ l') ⟨i + c, m⟩ ∧ smL l' l = true ∧ wdR fu' rest n' = some (ws.drop c) := by
  intro l
  induction l with
  | nil => intro _ h; exact absurd rfl h
  | cons x r ih =>
    intro hb _ fu rest n ws h G i m f acc hal
    cases f with
    | zero => exact .inl ⟨_, _, rfl⟩
    | succ f =>
      have hsep : Sep (shTt r ++ 93 :: rest) := by
        intro c q e
        cases r with
        | nil => rw [shTt] at e; injection e with e _; rw [← e]; decide
        | cons y r => rw [shTt] at e; injection e with e _; rw [← e]; decide
      rw [shTs, List.append_assoc] at h
      obtain ⟨w0, wr, rfl, -, -, hP⟩ := hb x (List.mem_cons_self ..) fu _ n ws hsep h
      have hG : G i = w0 := by have := hal 0 _ rfl; simpa using this
      by_cases hv : valA w0 = true
      · by_cases h12 : acc.length = 12
        · left
          exact ⟨i, 3, by rw [sevL, if_neg (by show ¬ valA (G i) = false; rw [hG, hv]; decide), if_pos h12]⟩
        · have hvG : valA (G i) = true := by rw [hG]; exact hv
          rcases hP G i k m hal hv with ⟨j, e, hbad⟩ | ⟨c, x', fu', n', hok, hsm, hw⟩
          · exact .inl ⟨j, e, sevL_bad hvG h12 hbad⟩
          · cases r with
            | nil =>
              rw [shTt, List.nil_append] at hw
              obtain ⟨fu2, W, m2, ws', rfl, ho, hr, hd⟩ := wdR_step (by decide) hw
              rw [one_sign rest (by decide)] at ho
              obtain ⟨rfl, rfl⟩ : W = ⟨5, ofL [93], 0, 0, 0⟩ ∧ m2 = 1 := by injection ho with ho; injection ho with a b; exact ⟨a.symm, b.symm⟩
              obtain ⟨hGc, -, hdr, -⟩ := hal.drop hd
              refine .inr ⟨c + 1, [x'], fu2, n' + 1, ?_, by rw [smL, hsm]; rfl, by rw [hdr]; exact hr⟩
              exact sevL_end (s := ⟨i, m⟩) (s' := ⟨i + c, m⟩) (x := x') (rd := fun _ => pVal G k) hvG h12 hok (by show isSgn (G (i + c)) 93 = true; rw [hGc]; rfl)
            | cons y r =>
              rw [shTt, List.append_assoc, List.append_assoc] at hw
              obtain ⟨fu2, W, m2, ws', rfl, ho, hr, hd⟩ := wdR_step (c := 44) (by decide) hw
              rw [one_sign _ (by decide)] at ho
              obtain ⟨rfl, rfl⟩ : W = ⟨5, ofL [44], 0, 0, 0⟩ ∧ m2 = 1 := by injection ho with ho; injection ho with a b; exact ⟨a.symm, b.symm⟩
              obtain ⟨hGc, hal2, hdr, -⟩ := hal.drop hd
              cases fu2 with
              | zero => cases hr
              | succ fu2 =>
                have hr2 : wdR fu2 (shT y ++ (shTt r ++ 93 :: rest)) (n' + 1) = some ws' := hr
                rw [← List.append_assoc, ← shTs] at hr2
                have hgo := sevL_go (f := f) (s := ⟨i, m⟩) (rd := fun _ => pVal G k) (l := acc) hvG h12 hok (by show isSgn (G (i + c)) 93 = false; rw [hGc]; rfl) (by show isSgn (G (i + c)) 44 = true; rw [hGc]; rfl)
                rw [hgo]
                rcases ih (fun z hz => hb z (List.mem_cons_of_mem _ hz)) (by simp) fu2 rest (n' + 1) ws' hr2 G (i + c + 1) m f (acc ++ [x']) hal2 with hbad | ⟨c2, l', fu3, n3, h1, h2, h3⟩
                · exact .inl hbad
                · refine .inr ⟨c + 1 + c2, x' :: l', fu3, n3, ?_, by rw [smL, hsm, h2]; rfl, ?_⟩
                  · refine h1.trans ?_
                    rw [List.append_assoc, List.singleton_append, show i + c + 1 + c2 = i + (c + 1 + c2) by omega]
                  · rw [← List.drop_drop, hdr]; exact h3
      · left
        have hv' : valA w0 = false := by simpa using hv
        exact ⟨i, 120, by rw [sevL, if_pos (by show valA (G i) = false; rw [hG]; exact hv')]⟩

theorem first_not (l : List T) (hb : ∀ x ∈ l, Bck x) (hne : l ≠ []) {fu n : Nat} {rest : List UInt8} {ws : List Wd} (h : wdR fu (shTs l ++ 93 :: rest) n = some ws) : ∃ w0 wr, ws = w0 :: wr ∧ isSgn w0 93 = false := by
  cases l with
  | nil => exact absurd rfl hne
  | cons x r =>
    have hsep : Sep (shTt r ++ 93 :: rest) := by
      intro c q e
      cases r with
      | nil => rw [shTt] at e; injection e with e _; rw [← e]; decide
      | cons y r => rw [shTt] at e; injection e with e _; rw [← e]; decide
    rw [shTs, List.append_assoc] at h
    obtain ⟨w0, wr, rfl, h1, -, -⟩ := hb x (List.mem_cons_self ..) fu _ n ws hsep h
    exact ⟨w0, wr, rfl, h1⟩

theorem smT_mk {k : Int} {b b' : Bool} {n n' : Int} {f f' : Nat} {s s' : ByteArray} {l l' : List T} (hb : b' = b) (hn : n' = n) (hf : canonN f' = canonN f) (hs : s'.toList = s.toList) (hl : smL l' l = true) (hll : l'.length = l.length) : smT (.mk k b' n' f' s' l') (.mk k b n f s l) = true := by
  rw [smT, hl, Bool.and_true]
  unfold hdB
  rw [hb, hn, hf, hs, hll]
  simp

theorem smL_len : ∀ {l' l : List T}, smL l' l = true → l'.length = l.length
  | [], [], _ => rfl
  | [], _ :: _, h => by cases h
  | _ :: _, [], h => by cases h
  | x :: r, y :: q, h => by
    rw [smL, Bool.and_eq_true] at h
    rw [List.length_cons, List.length_cons, smL_len h.2]

theorem bck_list {b : Bool} {n : Int} {f : Nat} {s : ByteArray} {l : List T} (hb : b = false) (hn : n = 0) (hf : f = 0) (hs : s.toList = []) (hl : ∀ x ∈ l, Bck x) : Bck (.mk 5 b n f s l) := by
  have hT : shT (.mk 5 b n f s l) = 91 :: (shTs l ++ [93]) := by rw [shT]; rfl
  intro fu rest m0 ws hsep h
  rw [hT, List.cons_append, List.append_assoc] at h
  obtain ⟨fu2, W, m2, ws', rfl, ho, hr, rfl⟩ := wdR_step (by decide) h
  rw [one_sign _ (by decide)] at ho
  obtain ⟨rfl, rfl⟩ : W = ⟨5, ofL [91], 0, 0, 0⟩ ∧ m2 = 1 := by injection ho with ho; injection ho with a b; exact ⟨a.symm, b.symm⟩
  have hr' : wdR fu2 (shTs l ++ 93 :: rest) (m0 + 1) = some ws' := hr
  refine ⟨_, ws', rfl, rfl, rfl, fun G i k m hal _ => ?_⟩
  have hG : G i = ⟨5, ofL [91], 0, 0, 0⟩ := by have := hal 0 _ rfl; simpa [era] using this
  have h5 : (G i).k = 5 := by rw [hG]
  cases k with
  | zero => exact .inl ⟨i, 3, by rw [pVal, if_pos h5]⟩
  | succ k =>
    obtain ⟨-, hal2, -, -⟩ := hal.drop (c := 0) rfl
    rw [Nat.add_zero] at hal2
    rw [pVal, if_pos h5]
    by_cases hne : l = []
    · subst hne
      have hr2 : wdR fu2 (93 :: rest) (m0 + 1) = some ws' := hr'
      obtain ⟨fu3, W, m3, ws3, rfl, ho, hr3, rfl⟩ := wdR_step (by decide) hr2
      rw [one_sign _ (by decide)] at ho
      obtain ⟨rfl, rfl⟩ : W = ⟨5, ofL [93], 0, 0, 0⟩ ∧ m3 = 1 := by injection ho with ho; injection ho with a b; exact ⟨a.symm, b.symm⟩
      have hG1 : G (i + 1) = ⟨5, ofL [93], 0, 0, 0⟩ := by have := hal2 0 _ rfl; simpa [era] using this
      refine .inr ⟨2, .mk 5 false 0 0 ⟨#[]⟩ [], fu3, m0 + 1 + 1, ?_, ?_, hr3⟩
      · unfold sev
        rw [if_pos (by show isSgn (G (i + 1)) 93 = true; rw [hG1]; rfl)]
      · exact smT_mk hb.symm hn.symm (by rw [hf]) (by rw [hs]; exact empty_list) rfl rfl
    · obtain ⟨w1, wr, rfl, h93⟩ := first_not l hl hne hr'
      have hG1 : G (i + 1) = w1 := by have := hal2 0 _ rfl; simpa using this
      have hsv : sev G 93 valA (fun _ => pVal G k) ⟨i + 1, m⟩ = sevL G 93 valA (fun _ => pVal G k) 13 [] ⟨i + 1, m⟩ := by
        unfold sev
        rw [if_neg (by show ¬ isSgn (G (i + 1)) 93 = true; rw [hG1, h93]; decide)]
      rcases lst_back k l hl hne fu2 rest (m0 + 1) _ hr' G (i + 1) m 13 [] hal2 with ⟨j, e, hbad⟩ | ⟨c, l', fu3, n3, h1, h2, h3⟩
      · exact .inl ⟨j, e, by rw [hsv, hbad]⟩
      · refine .inr ⟨c + 1, .mk 5 false 0 0 ⟨#[]⟩ l', fu3, n3, ?_, ?_, ?_⟩
        · rw [hsv, h1]
          show Rs.ok (T.mk 5 false 0 0 ⟨#[]⟩ ([] ++ l')) _ = _
          rw [List.nil_append, show i + 1 + c = i + (c + 1) by omega]
        · exact smT_mk hb.symm hn.symm (by rw [hf]) (by rw [hs]; exact empty_list) h2 (smL_len h2)
        · exact h3

theorem canonN_twice (f : Nat) : canonN (canonN f) = canonN f := by
  unfold canonN
  by_cases h : nanB f = true
  · rw [if_pos h, if_pos (by decide)]
  · rw [if_neg h, if_neg h]

theorem val_nam2 (c : List UInt8) (h : c ≠ txTrue) (h2 : c ≠ txFalse) (h3 : c ≠ txNull) : valA ⟨1, ofL c, 0, 0, 0⟩ = false := by
  have e : ∀ t, c ≠ t → isL ⟨1, ofL c, 0, 0, 0⟩ t = false := fun t ht => by
    unfold isL ofL
    simpa using ht
  unfold valA
  rw [e _ h, e _ h2, e _ h3]
  simp [isSgn]

theorem bck_any (x : T) : ∀ d, chkT x d = 0 → NumsT x → Bck x := by
  induction x using T.ind with | h k b n f s l ih => _
  intro d hc hnum
  obtain ⟨hn64, hf64, hsub⟩ := hnum.parts
  obtain ⟨-, hsh, hss, -, hL, -⟩ := chk_parts hc
  obtain ⟨h0, h8, hb, hn, -, hf, hs, hm⟩ := shp_parts hsh
  have hbf : k ≠ 1 → b = false := fun h => by cases b with | false => rfl | true => exact absurd (hb rfl) h
  have hn0 : k ≠ 2 → k ≠ 7 → k ≠ 8 → n = 0 := fun h2 h7 h8 => by
    by_cases e : n = 0
    · exact e
    · rcases hn e with h | h | h
      · exact absurd h h2
      · exact absurd h h7
      · exact absurd h h8
  have hf0 : k ≠ 3 → f = 0 := fun h => by
    by_cases e : f = 0
    · exact e
    · exact absurd (hf e) h
  have hs0 : k ≠ 4 → s.toList = [] := fun h => by
    by_cases e : s.toList = []
    · exact e
    · exact absurd (hs e) h
  have hl0 : k ≠ 5 → k ≠ 6 → l = [] := fun h5 h6 => by
    by_cases e : l.length = 0
    · exact List.length_eq_zero_iff.1 e
    · rcases hm e with h | h
      · exact absurd h h5
      · exact absurd h h6
  have he : ([] : List UInt8) = (⟨#[]⟩ : ByteArray).toList := empty_list.symm
  by_cases k0 : k = 0
  · subst k0
    have hT : shT (.mk 0 b n f s l) = txNull := by rw [shT]; rfl
    refine bck_first ⟨110, [117, 108, 108], hT, by decide⟩ fun rest hr => .inr ⟨⟨1, ofL txNull, 0, 0, 0⟩, 4, ?_, by decide, fun _ => ⟨?_, by rw [hT]; rfl⟩⟩
    · rw [hT]; exact one_name (c := 110) (q := [117, 108, 108]) (by decide) (by decide) (.inl (by decide)) (by decide) (by decide) hr
    · rw [show wdT ⟨1, ofL txNull, 0, 0, 0⟩ = .mk 0 false 0 0 ⟨#[]⟩ [] from rfl]
      have := hl0 (by decide) (by decide)
      subst this
      exact smT_mk (hbf (by decide)).symm (hn0 (by decide) (by decide) (by decide)).symm (by rw [hf0 (by decide)]) (by rw [hs0 (by decide)]; exact he.symm) rfl rfl
  by_cases k1 : k = 1
  · subst k1
    have hl1 := hl0 (by decide) (by decide)
    subst hl1
    cases b with
    | true =>
      have hT : shT (.mk 1 true n f s []) = txTrue := by rw [shT]; rfl
      refine bck_first ⟨116, [114, 117, 101], hT, by decide⟩ fun rest hr => .inr ⟨⟨1, ofL txTrue, 0, 0, 0⟩, 4, ?_, by decide, fun _ => ⟨?_, by rw [hT]; rfl⟩⟩
      · rw [hT]; exact one_name (c := 116) (q := [114, 117, 101]) (by decide) (by decide) (.inl (by decide)) (by decide) (by decide) hr
      · rw [show wdT ⟨1, ofL txTrue, 0, 0, 0⟩ = .mk 1 true 0 0 ⟨#[]⟩ [] from rfl]
        exact smT_mk rfl (hn0 (by decide) (by decide) (by decide)).symm (by rw [hf0 (by decide)]) (by rw [hs0 (by decide)]; exact he.symm) rfl rfl
    | false =>
      have hT : shT (.mk 1 false n f s []) = txFalse := by rw [shT]; rfl
      refine bck_first ⟨102, [97, 108, 115, 101], hT, by decide⟩ fun rest hr => .inr ⟨⟨1, ofL txFalse, 0, 0, 0⟩, 5, ?_, by decide, fun _ => ⟨?_, by rw [hT]; rfl⟩⟩
      · rw [hT]; exact one_name (c := 102) (q := [97, 108, 115, 101]) (by decide) (by decide) (.inr ⟨by decide, by decide⟩) (by decide) (by decide) hr
      · rw [show wdT ⟨1, ofL txFalse, 0, 0, 0⟩ = .mk 1 false 0 0 ⟨#[]⟩ [] from rfl]
        exact smT_mk rfl (hn0 (by decide) (by decide) (by decide)).symm (by rw [hf0 (by decide)]) (by rw [hs0 (by decide)]; exact he.symm) rfl rfl
  by_cases k2 : k = 2
  · subst k2
    have hl1 := hl0 (by decide) (by decide)
    subst hl1
    have hT : shT (.mk 2 b n f s []) = Lib.itoa n := by rw [shT]; rfl
    refine bck_first ?_ fun rest hr => .inr ⟨⟨2, ⟨#[]⟩, n, 0, 0⟩, (Lib.itoa n).length, ?_, by show ¬ (2 : Int) = 5; decide, fun _ => ⟨?_, by rw [hT]⟩⟩
    · obtain ⟨c, q, h1, h2, -⟩ := itoa_shape n
      exact ⟨c, q, by rw [hT]; exact h1, fun e => by rw [e] at h2; exact absurd h2 (by decide)⟩
    · rw [hT]; exact one_itoa hn64 hr
    · rw [show wdT ⟨2, ⟨#[]⟩, n, 0, 0⟩ = .mk 2 false n 0 ⟨#[]⟩ [] from rfl]
      exact smT_mk (hbf (by decide)).symm rfl (by rw [hf0 (by decide)]) (by rw [hs0 (by decide)]; exact he.symm) rfl rfl
  by_cases k3 : k = 3
  · subst k3
    have hl1 := hl0 (by decide) (by decide)
    subst hl1
    have hT : shT (.mk 3 b n f s []) = fltL (canonN f) := by rw [shT]; rfl
    refine bck_first ⟨102, 39 :: (hex16 (canonN f) 16 ++ [39]), by rw [hT]; unfold fltL; simp, by decide⟩ fun rest hr => .inr ⟨⟨3, ⟨#[]⟩, 0, canonN f, 0⟩, 19, ?_, by show ¬ (3 : Int) = 5; decide, fun _ => ⟨?_, by rw [hT]; unfold fltL; simp [hex16_len]⟩⟩
    · rw [hT]; exact one_float (canonN_lt f hf64) (canonN_twice f) rest
    · rw [show wdT ⟨3, ⟨#[]⟩, 0, canonN f, 0⟩ = .mk 3 false 0 (canonN (canonN f)) ⟨#[]⟩ [] from rfl]
      exact smT_mk (hbf (by decide)).symm (hn0 (by decide) (by decide) (by decide)).symm (by rw [canonN_twice, canonN_twice]) (by rw [hs0 (by decide)]; exact he.symm) rfl rfl
  by_cases k4 : k = 4
  · subst k4
    have hl1 := hl0 (by decide) (by decide)
    subst hl1
    have hT : shT (.mk 4 b n f s []) = textL s.data.toList := by rw [shT]; rfl
    refine bck_first ⟨39, sayL s.data.toList ++ [39], by rw [hT]; rfl, by decide⟩ fun rest hr => .inr ⟨⟨4, ofL s.data.toList, 0, 0, 0⟩, (textL s.data.toList).length, ?_, by show ¬ (4 : Int) = 5; decide, fun _ => ⟨?_, by rw [hT]⟩⟩
    · rw [hT, one_text, if_neg (by rw [len_list]; omega)]
    · rw [show wdT ⟨4, ofL s.data.toList, 0, 0, 0⟩ = .mk 4 false 0 0 (ofL s.data.toList) [] from rfl, ofL_list]
      exact smT_mk (hbf (by decide)).symm (hn0 (by decide) (by decide) (by decide)).symm (by rw [hf0 (by decide)]) rfl rfl rfl
  by_cases k5 : k = 5
  · subst k5
    refine bck_list (hbf (by decide)) (hn0 (by decide) (by decide) (by decide)) (hf0 (by decide)) (hs0 (by decide)) fun y hy => ?_
    obtain ⟨i, hi, rfl⟩ := List.getElem_of_mem hy
    exact ih i hi (d + 1) (chkL_all hL i hi) (hsub i hi)
  by_cases k6 : k = 6
  · subst k6
    have hT : shT (.mk 6 b n f s l) = 123 :: (shTs l ++ [125]) := by rw [shT]; rfl
    refine bck_first ⟨123, _, hT, by decide⟩ fun rest hr => .inl ?_
    rw [hT, List.cons_append]
    unfold oneR
    simp only []
    rw [if_neg (by rintro ⟨h, -⟩; exact absurd h (by decide)), if_neg (by decide), if_neg (by decide), if_neg (by decide), if_neg (by decide)]
  by_cases k7 : k = 7
  · subst k7
    have hT : shT (.mk 7 b n f s l) = [118, 40] ++ Lib.itoa n ++ [41] := by rw [shT]; rfl
    refine bck_first ⟨118, 40 :: (Lib.itoa n ++ [41]), by rw [hT]; rfl, by decide⟩ fun rest hr => .inr ⟨⟨1, ofL [118], 0, 0, 0⟩, 1, ?_, by decide, fun h => ?_⟩
    · rw [hT, show [118, 40] ++ Lib.itoa n ++ [41] ++ rest = 118 :: [] ++ (40 :: (Lib.itoa n ++ [41] ++ rest)) by simp]
      exact one_name (c := 118) (q := []) (by decide) (by decide) (.inl (by decide)) (by decide) (by decide) (fun c q e => by injection e with e _; rw [← e]; decide)
    · rw [val_nam2 [118] (by decide) (by decide) (by decide)] at h; cases h
  have k8 : k = 8 := by omega
  subst k8
  have hT : shT (.mk 8 b n f s l) = [101, 40] ++ Lib.itoa n ++ [41] := by rw [shT]; rfl
  refine bck_first ⟨101, 40 :: (Lib.itoa n ++ [41]), by rw [hT]; rfl, by decide⟩ fun rest hr => .inr ⟨⟨1, ofL [101], 0, 0, 0⟩, 1, ?_, by decide, fun h => ?_⟩
  · rw [hT, show [101, 40] ++ Lib.itoa n ++ [41] ++ rest = 101 :: [] ++ (40 :: (Lib.itoa n ++ [41] ++ rest)) by simp]
    exact one_name (c := 101) (q := []) (by decide) (by decide) (.inl (by decide)) (by decide) (by decide) (fun c q e => by injection e with e _; rw [← e]; decide)
  · rw [val_nam2 [101] (by decide) (by decide) (by decide)] at h; cases h

theorem sevL_pre {G : Nat → Wd} {α : Type} {en : UInt8} {b : Wd → Bool} {rd : Nat → Ps → Rs α} : ∀ (f : Nat) (l : List α) (s s2 : Ps) (l2 : List α), sevL G en b rd f l s = .ok l2 s2 → ∃ x s1 t, rd l.length s = .ok x s1 ∧ l2 = l ++ x :: t
  | 0, _, _, _, _, h => by cases h
  | f + 1, l, s, s2, l2, h => by
    rw [sevL] at h
    split at h
    · cases h
    · split at h
      · cases h
      · split at h
        · cases h
        · rename_i x s' hr
          split at h
          · injection h with h _
            exact ⟨x, s', [], hr, h.symm⟩
          · split at h
            · obtain ⟨y, s1, t, -, h2⟩ := sevL_pre f (l ++ [x]) _ s2 l2 h
              exact ⟨x, s', y :: t, hr, by rw [h2, List.append_assoc]; rfl⟩
            · cases h

theorem pChainL_pre {G : Nat → Wd} {arg : Ps → Rs Ag} : ∀ (f : Nat) (l : List Sp) (s s2 : Ps) (l2 : List Sp), pChainL G arg f l s = .ok l2 s2 → ∃ t, l2 = l ++ t
  | 0, _, _, _, _, h => by cases h
  | f + 1, l, s, s2, l2, h => by
    rw [pChainL] at h
    split at h
    · injection h with h _
      exact ⟨[], by rw [List.append_nil, h]⟩
    · split at h
      · cases h
      · rename_i x s' hx
        obtain ⟨t, h2⟩ := pChainL_pre f (l ++ [x]) _ s2 l2 h
        exact ⟨x :: t, by rw [h2, List.append_assoc]; rfl⟩

/-- g.inject( -/
def txInj : List UInt8 := [103, 46, 105, 110, 106, 101, 99, 116, 40]

theorem some_two {α β : Type} {a a' : α} {b b' : β} {o : Option (α × β)} (h : o = some (a, b)) (h' : o = some (a', b')) : a = a' ∧ b = b' := by
  rw [h] at h'
  injection h' with h'
  injection h' with h1 h2
  exact ⟨h1, h2⟩

theorem prs_words {l : List UInt8} {st : List Sp} (h : prsO l = some st) : ∃ ws2 s2, wdR (l.length + 1) l 0 = some ws2 ∧ ∃ G, AlW G 0 ws2 ∧ rText G = .ok st s2 := by
  unfold prsO at h
  split at h
  · rename_i he
    have hl : ¬ 3000 < l.length := fun hlt => by
      unfold rwO at he
      rw [if_pos hlt] at he
      exact absurd he (by decide)
    have hrw : rwO l = rwGo l (l.length + 1) 0 [] := by unfold rwO; rw [if_neg hl]
    obtain ⟨ws2, h1, h2⟩ := rwGo_wdR l (l.length + 1) 0 [] (rwO l).1 (rwO l).2.1 (by rw [← hrw, ← he]) (Nat.zero_le _) (by omega)
    rw [List.map_nil, List.nil_append] at h2
    split at h
    · rename_i t s2 ht
      obtain rfl := Option.some.inj h
      refine ⟨ws2, s2, h1, gx (rwO l).1, fun j x hx => ?_, ht⟩
      rw [← h2, List.getElem?_map, Option.map_eq_some_iff] at hx
      obtain ⟨y, hy, rfl⟩ := hx
      unfold gx era
      rw [Nat.zero_add, List.getD_eq_getElem?_getD, hy]
      rfl
    · cases h
  · cases h

/-- a told value, parsed again as the only argument, is the value -/
theorem tell_back {x : T} {d : Nat} (hc : chkT x d = 0) (hn : NumsT x) {nm : ByteArray} {x' : T} {p : Pd} {t : List Sp} (h : prsO (txInj ++ shT x ++ [41]) = some [.mk nm [.mk 1 x' p t]]) : smT x' x = true := by
  obtain ⟨ws, s2, hw, G, hal, hT⟩ := prs_words h
  have hb := bck_any x d hc hn
  generalize (txInj ++ shT x ++ [41]).length + 1 = fu at hw
  have e0 : txInj ++ shT x ++ [41] = 103 :: [] ++ (46 :: (105 :: [110, 106, 101, 99, 116] ++ (40 :: (shT x ++ [41])))) := by unfold txInj; simp
  rw [e0] at hw
  obtain ⟨fu1, W, m, ws1, rfl, ho, hr1, rfl⟩ := wdR_step (c := 103) (by decide) hw
  obtain ⟨rfl, rfl⟩ := some_two ho (one_name (c := 103) (q := []) (rest := 46 :: (105 :: [110, 106, 101, 99, 116] ++ (40 :: (shT x ++ [41])))) (by decide) (by decide) (.inl (by decide)) (by decide) (by decide) (fun c q e => by injection e with e _; rw [← e]; decide))
  have hr1' : wdR fu1 (46 :: (105 :: [110, 106, 101, 99, 116] ++ (40 :: (shT x ++ [41])))) 1 = some ws1 := hr1
  obtain ⟨fu2, W, m, ws2, rfl, ho, hr2, rfl⟩ := wdR_step (by decide) hr1'
  rw [one_sign _ (by decide)] at ho
  obtain ⟨rfl, rfl⟩ : W = ⟨5, ofL [46], 0, 0, 0⟩ ∧ m = 1 := by injection ho with ho; injection ho with a b; exact ⟨a.symm, b.symm⟩
  have hr2' : wdR fu2 (105 :: [110, 106, 101, 99, 116] ++ (40 :: (shT x ++ [41]))) 2 = some ws2 := hr2
  obtain ⟨fu3, W, m, ws3, rfl, ho, hr3, rfl⟩ := wdR_step (c := 105) (by decide) hr2'
  obtain ⟨rfl, rfl⟩ := some_two ho (one_name (c := 105) (q := [110, 106, 101, 99, 116]) (rest := 40 :: (shT x ++ [41])) (by decide) (by decide) (.inl (by decide)) (by decide) (by decide) (fun c q e => by injection e with e _; rw [← e]; decide))
  have hr3' : wdR fu3 (40 :: (shT x ++ [41])) 3 = some ws3 := hr3
  obtain ⟨fu4, W, m, ws4, rfl, ho, hr4, rfl⟩ := wdR_step (by decide) hr3'
  rw [one_sign _ (by decide)] at ho
  obtain ⟨rfl, rfl⟩ : W = ⟨5, ofL [40], 0, 0, 0⟩ ∧ m = 1 := by injection ho with ho; injection ho with a b; exact ⟨a.symm, b.symm⟩
  have hr4' : wdR fu4 (shT x ++ [41]) 4 = some ws4 := hr4
  obtain ⟨w0, wr, rfl, -, h41, hP⟩ := hb fu4 [41] 4 ws4 (fun c q e => by injection e with e _; rw [← e]; decide) hr4'
  have g4 : G 4 = w0 := by have := hal 4 _ rfl; simpa using this
  have hal4 : AlW G 4 (w0 :: wr) := fun j y hy => by
    have := hal (4 + j) y (by rw [Nat.add_comm]; simpa using hy)
    rw [Nat.zero_add] at this
    exact this
  unfold rText at hT
  split at hT
  · cases hT
  · split at hT
    · cases hT
    · split at hT
      · cases hT
      · rename_i l1 s1 hch
        split at hT
        · injection hT with hT _
          subst hT
          unfold pChain at hch
          split at hch
          · cases hch
          · rename_i st s3 hst
            obtain ⟨t3, ht3⟩ := pChainL_pre _ _ _ _ _ hch
            obtain ⟨rfl, -⟩ : st = .mk nm [.mk 1 x' p t] ∧ t3 = [] := by
              rw [List.singleton_append] at ht3
              injection ht3 with a b
              exact ⟨a.symm, b.symm⟩
            unfold pStep at hst
            split at hst
            · cases hst
            · split at hst
              · cases hst
              · split at hst
                · cases hst
                · split at hst
                  · cases hst
                  · rename_i la s4 hsv
                    injection hst with hst _
                    injection hst with _ hla
                    subst hla
                    unfold sev at hsv
                    rw [if_neg (by show ¬ isSgn (G 4) 41 = true; rw [g4, h41]; decide)] at hsv
                    obtain ⟨a, s5, t5, ha, hl5⟩ := sevL_pre _ _ _ _ _ hsv
                    obtain rfl : a = .mk 1 x' p t := by
                      rw [List.nil_append] at hl5
                      injection hl5 with a _
                      exact a.symm
                    replace ha : rArg G 12 (rTrav G 12) ⟨4, 1⟩ = .ok (.mk 1 x' p t) s5 := ha
                    unfold rArg at ha
                    split at ha
                    · cases ha
                    · split at ha
                      · rename_i hva
                        rcases hP G 4 12 1 hal4 (by rw [← g4]; exact hva) with ⟨j, e, hbad⟩ | ⟨c, x2, fu5, n5, hok, hsm, -⟩
                        · rw [hbad] at ha; cases ha
                        · rw [hok] at ha
                          injection ha with ha _
                          injection ha with _ ha _ _
                          subst ha
                          exact hsm
                      · split at ha
                        · split at ha
                          · cases ha
                          · injection ha with ha _
                            injection ha with ha _ _ _
                            exact absurd ha (by decide)
                        · split at ha
                          · injection ha with ha _
                            injection ha with ha _ _ _
                            exact absurd ha (by decide)
                          · split at ha
                            · cases ha
                            · injection ha with ha _
                              injection ha with ha _ _ _
                              exact absurd ha (by decide)
        · cases hT

end Go.Proofs.YtgmjhoppjjjilaaDoor
