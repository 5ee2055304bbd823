/- SrZ, SrE -/
import Derived.Test.YtgmjhoppjjjilaaDoorQ48
import Derived.Test.YtgmjhoppjjjilaaDoorTie
import Derived.Test.YtgmjhoppjjjilaaDoorQ46
import Derived.Test.YtgmjhoppjjjilaaDoorQ38
import Derived.Test.YtgmjhoppjjjilaaDoorQ32

/- what the rows of layer 13 list, as the walks take it; ShowValues -/
namespace Go.Proofs.YtgmjhoppjjjilaaDoor
open Go.ChangeShapes Go.WideShapes Go.ChangeAt Go.RowKit Go.Fl
open Go.Shelf

theorem envt_of_laid {w : World} (h : laidMetH Tryd.prog Rows.showValuesRow.laid w) : EnvT w := by
  rw [MakeChecks.laidMetH_plain _ _ _ (by kernel_rfl)] at h
  have h0 : laidMet Tryd.prog [("math/bits.deBruijn32tab", Rows.laid_math_bits_deBruijn32tab), ("math/bits.deBruijn64tab", Rows.laid_math_bits_deBruijn64tab), ("internal/strconv.uint64pow10", Rows.laid_internal_strconv_uint64pow10)] w := h
  have h1 := h0.tail
  have h2 := h1.tail
  refine ⟨?_, ?_⟩
  · exact Lib.tabIs_of_head (g := 1) (t := 150) (e := 49) (n := 20) (by kernel_rfl) (by kernel_rfl) (by kernel_rfl) (by kernel_rfl) (by kernel_rfl) (by kernel_rfl) h2
  · exact Lib.tabIs_of_head (g := 4) (t := 157) (e := 5) (n := 64) (by kernel_rfl) (by kernel_rfl) (by kernel_rfl) (by kernel_rfl) (by kernel_rfl) (by kernel_rfl) h1

end Go.Proofs.YtgmjhoppjjjilaaDoor

/- ShowPreds: the predicates that the document's parser makes: they are such as can be told, and not too long: the plain mathematics -/
namespace Go.Proofs.YtgmjhoppjjjilaaDoor
open Go.ChangeShapes Go.WideShapes Go.ChangeAt Go.RowKit Go.Fl

/-- words up to E -/
structure Gw (G : Nat → Wd) (E : Nat) : Prop where
  sz : ∀ i, (G i).s.size ≤ 3000
  n : ∀ i, is64 (G i).n = true
  e : ∀ i, E ≤ i → (G i).k = 0

theorem Gw.lt {G : Nat → Wd} {E i : Nat} (h : Gw G E) (hk : (G i).k ≠ 0) : i + 1 ≤ E := by
  by_cases hi : E ≤ i
  · exact absurd (h.e i hi) hk
  · omega

theorem sgn_k {x : Wd} {c : UInt8} (h : isSgn x c = true) : x.k ≠ 0 := by
  unfold isSgn at h
  rw [Bool.and_eq_true, decide_eq_true_iff] at h
  rw [h.1]; decide

theorem val_k {x : Wd} (h : valA x = true) : x.k ≠ 0 := by
  intro h0
  unfold valA isSgn at h
  rw [h0] at h
  exact absurd h (by simp)

theorem prd_k {x : Wd} (h : prdA x = true) : x.k ≠ 0 ∧ prdN x.s.data.toList ≠ none := by
  unfold prdA at h
  rw [Bool.and_eq_true, decide_eq_true_iff] at h
  refine ⟨by rw [h.2]; decide, fun e => ?_⟩
  rw [e] at h
  exact absurd h.1 (by decide)

theorem wdT_len {x : Wd} (h1 : x.s.size ≤ 3000) (h2 : is64 x.n = true) : smT' (wdT x) ∧ (shT (wdT x)).length ≤ 12100 := by
  unfold wdT
  split
  · refine ⟨⟨by decide, trivial⟩, ?_⟩
    rw [shT]
    have := itoa_l20 h2
    show (Lib.itoa x.n).length ≤ _
    omega
  · split
    · refine ⟨⟨by decide, trivial⟩, ?_⟩
      rw [shT]
      show (fltL (canonN (canonN x.f))).length ≤ _
      rw [flt_l19]; decide
    · split
      · refine ⟨⟨by omega, trivial⟩, ?_⟩
        rw [shT]
        show (textL x.s.data.toList).length ≤ _
        have := text_len4 x.s.data.toList
        rw [len_list] at this
        omega
      · split
        · refine ⟨⟨by decide, trivial⟩, ?_⟩
          unfold vz
          rw [shT]
          decide
        · refine ⟨⟨by decide, trivial⟩, ?_⟩
          rw [shT]
          cases isL x txTrue <;> decide

section
variable {G : Nat → Wd} {E : Nat}

theorem smTs_app : ∀ {a b : List T}, smTs' a → smTs' b → smTs' (a ++ b)
  | [], _, _, h => h
  | _ :: _, _, h, h' => ⟨h.1, smTs_app h.2 h'⟩

theorem shTs_le (l : List T) : (shTs l).length ≤ (shTt l).length := by
  cases l with
  | nil => rw [shTs, shTt]; exact Nat.le_refl _
  | cons x r =>
    rw [shTs, shTt, List.length_append, List.length_append, List.length_append]
    omega

/-- what a value's reading comes to -/
def RdM (G : Nat → Wd) (E : Nat) (rd : Nat → Ps → Rs T) : Prop := ∀ c s v s', rd c s = .ok v s' → valA (G s.i) = true → s.i < s'.i ∧ s'.i ≤ E ∧ smT' v ∧ (shT v).length + 2 ≤ 20000 * (s'.i - s.i)

theorem sevL_lenZ (hG : Gw G E) {en : UInt8} {rd : Nat → Ps → Rs T} (hrd : RdM G E rd) : ∀ (f : Nat) (l : List T) (s s' : Ps) (l2 : List T), sevL G en valA rd f l s = .ok l2 s' → s.i < s'.i ∧ s'.i ≤ E ∧ ∃ t, l2 = l ++ t ∧ smTs' t ∧ (shTt t).length ≤ 20000 * (s'.i - s.i)
  | 0, _, _, _, _, h => by cases h
  | f + 1, l, s, s', l2, h => by
    rw [sevL] at h
    split at h
    · cases h
    · rename_i hv
      have hv' : valA (G s.i) = true := by simpa using hv
      split at h
      · cases h
      · split at h
        · cases h
        · rename_i x s1 hr
          obtain ⟨h1, h2, h3, h4⟩ := hrd _ _ _ _ hr hv'
          split at h
          · rename_i hs
            injection h with h5 h6
            subst h5; subst h6
            have := hG.lt (sgn_k hs)
            refine ⟨by show s.i < s1.i + 1; omega, this, [x], rfl, ⟨h3, trivial⟩, ?_⟩
            rw [shTt, shTt, List.append_nil, List.length_append]
            show 2 + _ ≤ 20000 * (s1.i + 1 - s.i)
            omega
          · split at h
            · rename_i hs
              obtain ⟨h5, h6, t, rfl, h7, h8⟩ := sevL_lenZ hG hrd f (l ++ [x]) _ s' l2 h
              refine ⟨by simp only [] at h5; omega, h6, x :: t, by simp, ⟨h3, h7⟩, ?_⟩
              rw [shTt, List.length_append, List.length_append]
              simp only [] at h5 h8
              show 2 + _ + _ ≤ _
              omega
            · cases h

theorem sev_lenZ (hG : Gw G E) {en : UInt8} {rd : Nat → Ps → Rs T} (hrd : RdM G E rd) {s s' : Ps} {l : List T} (h : sev G en valA rd s = .ok l s') : s.i < s'.i ∧ s'.i ≤ E ∧ smTs' l ∧ (shTs l).length ≤ 20000 * (s'.i - s.i) := by
  unfold sev at h
  split at h
  · rename_i hs
    injection h with h5 h6
    subst h5; subst h6
    exact ⟨Nat.lt_succ_self _, hG.lt (sgn_k hs), trivial, by rw [shTs]; exact Nat.zero_le _⟩
  · obtain ⟨h1, h2, t, h5, h3, h4⟩ := sevL_lenZ hG hrd _ _ _ _ _ h
    rw [List.nil_append] at h5
    subst h5
    exact ⟨h1, h2, h3, Nat.le_trans (shTs_le _) h4⟩

theorem leaf_len (hG : Gw G E) {s s' : Ps} {v : T} (h : (Rs.ok (wdT (G s.i)) ⟨s.i + 1, s.n⟩ : Rs T) = .ok v s') (hv : valA (G s.i) = true) : s.i < s'.i ∧ s'.i ≤ E ∧ smT' v ∧ (shT v).length + 2 ≤ 20000 * (s'.i - s.i) := by
  injection h with h5 h6
  subst h5; subst h6
  obtain ⟨h1, h2⟩ := wdT_len (hG.sz s.i) (hG.n s.i)
  exact ⟨Nat.lt_succ_self _, hG.lt (val_k hv), h1, by show _ ≤ 20000 * (s.i + 1 - s.i); omega⟩

theorem pVal_len (hG : Gw G E) : ∀ k, RdM G E (fun _ => pVal G k)
  | 0 => by
    intro c s v s' h hv
    replace h : pVal G 0 s = .ok v s' := h
    rw [pVal] at h
    split at h
    · cases h
    · exact leaf_len hG h hv
  | k + 1 => by
    intro c s v s' h hv
    replace h : pVal G (k + 1) s = .ok v s' := h
    rw [pVal] at h
    split at h
    · split at h
      · cases h
      · rename_i l s1 hs
        injection h with h5 h6
        subst h5; subst h6
        obtain ⟨h1, h2, h3, h4⟩ := sev_lenZ hG (pVal_len hG k) hs
        refine ⟨by simp only [] at h1; omega, h2, ⟨by decide, h3⟩, ?_⟩
        rw [shT]
        show (91 :: (shTs l ++ [93])).length + 2 ≤ _
        rw [List.length_cons, List.length_append, List.length_singleton]
        simp only [] at h1 h4
        omega
    · exact leaf_len hG h hv

theorem rPlain_len (hG : Gw G E) {k : Nat} {s s' : Ps} {q : Pd} (h : rPlain G k s = some (q, s')) (hp : prdA (G s.i) = true) : s.i < s'.i ∧ s'.i ≤ E ∧ Pgd q ∧ (shPd q).length ≤ 20000 * (s'.i - s.i) := by
  cases k with
  | zero => cases h
  | succ k =>
    rw [rPlain] at h
    split at h
    · cases h
    · split at h
      · cases h
      · rename_i l s1 hs
        split at h
        · cases h
        · injection h with h; injection h with h5 h6
          subst h5; subst h6
          obtain ⟨h1, h2, h3, h4⟩ := sev_lenZ hG (pVal_len hG k) hs
          refine ⟨by simp only [] at h1; omega, h2, .plain (prd_k hp).2 h3, ?_⟩
          rw [shPd, List.length_append, len_list, List.length_cons, List.length_append, List.length_singleton]
          have := hG.sz s.i
          simp only [] at h1 h4
          omega

theorem isL_eq {x : Wd} {t : List UInt8} (h : isL x t = true) : x.s.data.toList = t := by
  unfold isL at h
  simpa using h

theorem rJoin_len (hG : Gw G E) : ∀ (k : Nat) (out : Pd) (s : Ps) (q : Pd) (s' : Ps), rJoin G k out s = some (q, s') → Pgd out → s.i ≤ E → s.i ≤ s'.i ∧ s'.i ≤ E ∧ Pgd q ∧ (shPd q).length ≤ (shPd out).length + 20000 * (s'.i - s.i)
  | 0, out, s, q, s', h, ho, hE => by
    rw [rJoin] at h
    split at h
    · cases h; exact ⟨Nat.le_refl _, hE, ho, by omega⟩
    · cases h
  | k + 1, out, s, q, s', h, ho, hE => by
    rw [rJoin] at h
    split at h
    · cases h; exact ⟨Nat.le_refl _, hE, ho, by omega⟩
    · split at h
      · cases h
      · split at h
        · cases h
        · split at h
          · rename_i hao
            split at h
            · cases h
            · rename_i hp
              have hp' : prdA (G (s.i + 3)) = true := by simpa using hp
              split at h
              · cases h
              · rename_i p s1 hpl
                obtain ⟨h1, h2, h3, h4⟩ := rPlain_len hG hpl hp'
                split at h
                · cases h
                · rename_i q2 s2 hq
                  obtain ⟨h5, h6, h7, h8⟩ := rJoin_len hG k p s1 q2 s2 hq h3 h2
                  split at h
                  · cases h
                  · rename_i h41
                    have h41' : isSgn (G s2.i) 41 = true := by simpa using h41
                    have h9 := hG.lt (sgn_k h41')
                    rw [Bool.or_eq_true] at hao
                    have hop : (G (s.i + 1)).s.data.toList = [97, 110, 100] ∨ (G (s.i + 1)).s.data.toList = [111, 114] := by
                      rcases hao with h | h
                      · exact .inl (isL_eq h)
                      · exact .inr (isL_eq h)
                    have hol : (G (s.i + 1)).s.data.toList.length ≤ 3 := by
                      rcases hop with h | h
                      · rw [h]; decide
                      · rw [h]; decide
                    obtain ⟨h10, h11, h12, h13⟩ := rJoin_len hG k _ ⟨s2.i + 1, s2.n⟩ q s' h (.join hop ho h7) h9
                    rw [shPd] at h13
                    simp only [List.length_append, List.length_cons, List.length_nil] at h13 h10 h1 h4
                    refine ⟨by omega, h11, h12, by omega⟩
          · split at h
            · split at h
              · cases h
              · rename_i h41
                have h41' : isSgn (G (s.i + 3)) 41 = true := by simpa using h41
                have h9 := hG.lt (sgn_k h41')
                obtain ⟨h10, h11, h12, h13⟩ := rJoin_len hG k _ ⟨s.i + 4, s.n⟩ q s' h (.neg rfl ho) h9
                rw [shPd] at h13
                have h14 : txNgt.length = 9 := rfl
                simp only [List.length_append] at h13 h10
                refine ⟨by omega, h11, h12, by omega⟩
            · cases h

theorem rPred_len (hG : Gw G E) {k : Nat} {s s' : Ps} {q : Pd} (h : rPred G k s = some (q, s')) : Pgd q ∧ (shPd q).length ≤ 20000 * E := by
  unfold rPred at h
  split at h
  · cases h
  · rename_i hp
    have hp' : prdA (G s.i) = true := by simpa using hp
    split at h
    · cases h
    · rename_i p s1 hpl
      obtain ⟨h1, h2, h3, h4⟩ := rPlain_len hG hpl hp'
      obtain ⟨h5, h6, h7, h8⟩ := rJoin_len hG k p s1 q s' h h3 h2
      exact ⟨h7, by omega⟩

theorem sevL_all {α : Type} {en : UInt8} {b : Wd → Bool} {rd : Nat → Ps → Rs α} : ∀ (f : Nat) (l : List α) (s s2 : Ps) (l2 : List α), sevL G en b rd f l s = .ok l2 s2 → ∀ x ∈ l2, x ∈ l ∨ ∃ c s0 s1, rd c s0 = .ok x s1
  | 0, _, _, _, _, h => by cases h
  | f + 1, l, s, s2, l2, h => by
    rw [sevL] at h
    split at h
    · cases h
    · split at h
      · cases h
      · split at h
        · cases h
        · rename_i x s' hr
          have hone : ∀ y ∈ l ++ [x], y ∈ l ∨ ∃ c s0 s1, rd c s0 = .ok y s1 := fun y hy => by
            rcases List.mem_append.1 hy with hy | hy
            · exact .inl hy
            · rw [List.mem_singleton] at hy
              subst hy
              exact .inr ⟨_, _, _, hr⟩
          split at h
          · injection h with h _
            subst h
            exact hone
          · split at h
            · intro y hy
              rcases sevL_all f (l ++ [x]) _ s2 l2 h y hy with hy | hy
              · exact hone y hy
              · exact .inr hy
            · cases h

theorem sev_all {α : Type} {en : UInt8} {b : Wd → Bool} {rd : Nat → Ps → Rs α} {s s2 : Ps} {l : List α} (h : sev G en b rd s = .ok l s2) : ∀ x ∈ l, ∃ c s0 s1, rd c s0 = .ok x s1 := by
  unfold sev at h
  split at h
  · injection h with h _
    subst h
    intro x hx; cases hx
  · intro x hx
    rcases sevL_all _ _ _ _ _ h x hx with hx | hx
    · cases hx
    · exact hx

theorem pStep_all {arg : Ps → Rs Ag} {s s2 : Ps} {nm : ByteArray} {args : List Ag} (h : pStep G arg s = .ok (.mk nm args) s2) : ∀ x ∈ args, ∃ s0 s1, arg s0 = .ok x s1 := by
  unfold pStep at h
  split at h
  · cases h
  · split at h
    · cases h
    · split at h
      · cases h
      · split at h
        · cases h
        · rename_i l s' hs
          injection h with h _
          injection h with _ h
          subst h
          intro x hx
          obtain ⟨c, s0, s1, h⟩ := sev_all hs x hx
          exact ⟨s0, s1, h⟩

theorem pChainL_all {arg : Ps → Rs Ag} : ∀ (f : Nat) (l : List Sp) (s s2 : Ps) (l2 : List Sp), pChainL G arg f l s = .ok l2 s2 → ∀ x ∈ l2, x ∈ l ∨ ∃ s0 s1, pStep G arg s0 = .ok x s1
  | 0, _, _, _, _, h => by cases h
  | f + 1, l, s, s2, l2, h => by
    rw [pChainL] at h
    split at h
    · injection h with h _
      subst h
      exact fun x hx => .inl hx
    · split at h
      · cases h
      · rename_i x s' hx
        intro y hy
        rcases pChainL_all f (l ++ [x]) _ s2 l2 h y hy with hy | hy
        · rcases List.mem_append.1 hy with hy | hy
          · exact .inl hy
          · rw [List.mem_singleton] at hy
            subst hy
            exact .inr ⟨_, _, hx⟩
        · exact .inr hy

theorem pChain_all {arg : Ps → Rs Ag} {s s2 : Ps} {l : List Sp} (h : pChain G arg s = .ok l s2) : ∀ x ∈ l, ∃ s0 s1, pStep G arg s0 = .ok x s1 := by
  unfold pChain at h
  split at h
  · cases h
  · rename_i x s' hx
    intro y hy
    rcases pChainL_all _ _ _ _ _ h y hy with hy | hy
    · rw [List.mem_singleton] at hy
      subst hy
      exact ⟨_, _, hx⟩
    · exact hy

theorem rArg_predZ (hG : Gw G E) {k : Nat} {trav : Ps → Rs (List Sp)} {s s' : Ps} {v : T} {p : Pd} {t : List Sp} (h : rArg G k trav s = .ok (.mk 2 v p t) s') : Pgd p ∧ (shPd p).length ≤ 20000 * E := by
  unfold rArg at h
  split at h
  · cases h
  · split at h
    · split at h
      · cases h
      · injection h with h _
        injection h with h _ _ _
        exact absurd h (by decide)
    · split at h
      · split at h
        · cases h
        · rename_i q s1 hq
          injection h with h _
          injection h with _ _ h _
          subst h
          exact rPred_len hG hq
      · split at h
        · injection h with h _
          injection h with h _ _ _
          exact absurd h (by decide)
        · split at h
          · cases h
          · injection h with h _
            injection h with h _ _ _
            exact absurd h (by decide)

end

/-- predicates of any text's steps can be told -/
theorem preds_good {l : List UInt8} {st : List Sp} (h : prsO l = some st) {nm : ByteArray} {args : List Ag} (hs : .mk nm args ∈ st) {v : T} {p : Pd} {t : List Sp} (ha : .mk 2 v p t ∈ args) : Pgd p ∧ (shPd p).length ≤ 40000000 := by
  unfold prsO at h
  split at h
  · rename_i he
    obtain ⟨hg, -, hlen⟩ := rwO_good he
    obtain ⟨ws, hws⟩ : ∃ ws, (rwO l).1 = ws := ⟨_, rfl⟩
    rw [hws] at h hg hlen
    have hlast : (gx ws (ws.length - 1)).k = 0 := by
      unfold gx
      rw [List.getD_eq_getElem?_getD]
      have hx : ws[ws.length - 1]? = some (ws[ws.length - 1]'(by omega)) := List.getElem?_eq_getElem _
      rw [hx]
      exact hg.last (ws[ws.length - 1]'(by omega)) hx
    have hG : Gw (gx ws) (ws.length - 1) := by
      refine ⟨fun i => ?_, fun i => ?_, fun i hi => ?_⟩
      · unfold gx
        rw [List.getD_eq_getElem?_getD]
        cases hx : ws[i]? with
        | none => exact Nat.zero_le _
        | some x => exact (hg.ok x (List.mem_of_getElem? hx)).2.2.2.2.1
      · unfold gx
        rw [List.getD_eq_getElem?_getD]
        cases hx : ws[i]? with
        | none => decide
        | some x => exact (hg.ok x (List.mem_of_getElem? hx)).2.2.1
      · by_cases e : i = ws.length - 1
        · rw [e]; exact hlast
        · unfold gx
          rw [List.getD_eq_getElem?_getD, List.getElem?_eq_none (by omega)]
          rfl
    have hfew := hg.few
    split at h
    · rename_i t' s2 ht
      obtain rfl := Option.some.inj h
      unfold rText at ht
      split at ht
      · cases ht
      · split at ht
        · cases ht
        · split at ht
          · cases ht
          · rename_i l1 s1 hch
            split at ht
            · injection ht with ht _
              subst ht
              obtain ⟨s0, s3, hst⟩ := pChain_all hch _ hs
              obtain ⟨s4, s5, ha⟩ := pStep_all hst _ ha
              obtain ⟨h1, h2⟩ := rArg_predZ hG ha
              exact ⟨h1, by omega⟩
            · cases ht
    · cases h
  · cases h

end Go.Proofs.YtgmjhoppjjjilaaDoor
