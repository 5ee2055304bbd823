/- PaQ -/
import Derived.Test.YtgmjhoppjjjilaaDoorQ19

/- parse: a predicate with its values -/
namespace Go.Proofs.YtgmjhoppjjjilaaDoor
open Go.ChangeShapes Go.WideShapes Go.ChangeAt Go.RowKit Go.Fl
open Go.Shelf

theorem pPlain_no {G : Nat → Wd} {k : Nat} {s : Ps} (h : isSgn (G (s.i + 1)) 40 = false) : pPlain G k s = .bad (s.i + 1) 120 := by unfold pPlain; exact if_pos h

theorem pPlain_bad {G : Nat → Wd} {k : Nat} {s : Ps} (h : isSgn (G (s.i + 1)) 40 = true) {i : Nat} {e : Int} (hs : sev G 41 valA (pArgV G k s.i (mostN (G s.i).s.data.toList)) ⟨s.i + 2, s.n⟩ = .bad i e) : pPlain G k s = .bad i e := by
  unfold pPlain; rw [if_neg (by rw [h]; decide), hs]

theorem pPlain_few {G : Nat → Wd} {k : Nat} {s s' : Ps} (h : isSgn (G (s.i + 1)) 40 = true) {l : List T} (hs : sev G 41 valA (pArgV G k s.i (mostN (G s.i).s.data.toList)) ⟨s.i + 2, s.n⟩ = .ok l s') (hl : (l.length : Int) < mostN (G s.i).s.data.toList) : pPlain G k s = .bad s.i 120 := by
  unfold pPlain; rw [if_neg (by rw [h]; decide), hs]; exact if_pos hl

theorem pPlain_ok {G : Nat → Wd} {k : Nat} {s s' : Ps} (h : isSgn (G (s.i + 1)) 40 = true) {l : List T} (hs : sev G 41 valA (pArgV G k s.i (mostN (G s.i).s.data.toList)) ⟨s.i + 2, s.n⟩ = .ok l s') (hl : ¬ (l.length : Int) < mostN (G s.i).s.data.toList) : pPlain G k s = .ok (.mk (G s.i).s l []) s' := by
  unfold pPlain; rw [if_neg (by rw [h]; decide), hs]; exact if_neg hl

theorem LstS.shape {α : Type} {R : World → (Nat → Prop) → α → Value → Prop} {sz : Nat} {w : World} {S : Nat → Prop} {l : List α} {v : Value} (h : LstS R sz w S l v) : ∃ A c, v = .slice A l.length c := by
  rcases h with ⟨rfl, rfl⟩ | ⟨g, cap, rfl, -⟩
  · exact ⟨none, 0, rfl⟩
  · exact ⟨_, _, rfl⟩

theorem Only.cut {ok ok' : Nat → Prop} {a b c : World} (h : Only ok a b) (h' : Only ok' b c) (hk : ∀ k, k < a.heap.size → ok' k → ok k) : Only ok a c :=
  ⟨h'.os.trans h.os, h'.tape.trans h.tape, h'.output.trans h.output, Nat.le_trans h.size h'.size, fun k hl hn => (h'.block k (Nat.lt_of_lt_of_le hl h.size) (fun e => hn (hk k hl e))).trans (h.block k hl hn)⟩

theorem mostN_small (l : List UInt8) : mostN l = 0 ∨ mostN l = 1 ∨ mostN l = 2 ∨ mostN l = -1 := by
  unfold mostN prdN
  split
  · exact .inr (.inl rfl)
  · split
    · exact .inr (.inr (.inl rfl))
    · split
      · exact .inr (.inr (.inr rfl))
      · exact .inl rfl

theorem mostN_pred {x : Wd} (h : prdA x = true) : mostN x.s.data.toList = 1 ∨ mostN x.s.data.toList = 2 ∨ mostN x.s.data.toList = -1 := by
  unfold prdA at h
  rw [Bool.and_eq_true] at h
  unfold mostN
  unfold prdN at h ⊢
  split
  · exact .inl rfl
  · split
    · exact .inr (.inl rfl)
    · split
      · exact .inr (.inr rfl)
      · rename_i h1 h2 h3
        rw [if_neg h1, if_neg h2, if_neg h3] at h
        exact absurd h.1 (by decide)

end Go.Proofs.YtgmjhoppjjjilaaDoor

namespace Go.Proofs.YtgmjhoppjjjilaaDoor
open Go.ChangeShapes Go.WideShapes Go.ChangeAt Go.RowKit Go.Fl
open Go.Shelf

section
variable {G : Nat → Wd} {k : Nat} {out q : Pd} {s s1 s2 : Ps}

theorem pPred_bad {i : Nat} {e : Int} (h : pPlain G k s = .bad i e) : pPred G k s = .bad i e := by unfold pPred; rw [h]

theorem pPred_ok (h : pPlain G k s = .ok q s1) : pPred G k s = pJoin G k q s1 := by unfold pPred; rw [h]

theorem pJoin_end (h : isSgn (G s.i) 46 = false) : pJoin G k out s = .ok out s := by cases k <;> rw [pJoin, if_pos h]

theorem pJoin_none (h : isSgn (G s.i) 46 = true) (hj : isJoin (G (s.i + 1)) = false) : pJoin G k out s = .bad (s.i + 1) 120 := by
  cases k <;> rw [pJoin, if_neg (by rw [h]; decide), if_pos hj]

theorem pJoin_deep (h : isSgn (G s.i) 46 = true) (hj : isJoin (G (s.i + 1)) = true) : pJoin G 0 out s = .bad (s.i + 1) 3 := by
  rw [pJoin, if_neg (by rw [h]; decide), if_neg (by rw [hj]; decide)]

theorem pJoin_open (h : isSgn (G s.i) 46 = true) (hj : isJoin (G (s.i + 1)) = true) (ho : isSgn (G (s.i + 2)) 40 = false) : pJoin G (k + 1) out s = .bad (s.i + 2) 120 := by
  rw [pJoin, if_neg (by rw [h]; decide), if_neg (by rw [hj]; decide), if_pos ho]

theorem pJoin_neg0 (h : isSgn (G s.i) 46 = true) (hj : isJoin (G (s.i + 1)) = true) (ho : isSgn (G (s.i + 2)) 40 = true) (hn : isL (G (s.i + 1)) txNeg = true) (hc : isSgn (G (s.i + 3)) 41 = false) : pJoin G (k + 1) out s = .bad (s.i + 3) 120 := by
  rw [pJoin, if_neg (by rw [h]; decide), if_neg (by rw [hj]; decide), if_neg (by rw [ho]; decide), if_pos hn, if_pos hc]

theorem pJoin_neg (h : isSgn (G s.i) 46 = true) (hj : isJoin (G (s.i + 1)) = true) (ho : isSgn (G (s.i + 2)) 40 = true) (hn : isL (G (s.i + 1)) txNeg = true) (hc : isSgn (G (s.i + 3)) 41 = true) : pJoin G (k + 1) out s = pJoin G k (.mk ⟨txNot.toArray⟩ [] [out]) ⟨s.i + 4, s.n⟩ := by
  rw [pJoin, if_neg (by rw [h]; decide), if_neg (by rw [hj]; decide), if_neg (by rw [ho]; decide), if_pos hn, if_neg (by rw [hc]; decide)]

theorem pJoin_nop (h : isSgn (G s.i) 46 = true) (hj : isJoin (G (s.i + 1)) = true) (ho : isSgn (G (s.i + 2)) 40 = true) (hn : isL (G (s.i + 1)) txNeg = false) (hp : prdA (G (s.i + 3)) = false) : pJoin G (k + 1) out s = .bad (s.i + 3) 120 := by
  rw [pJoin, if_neg (by rw [h]; decide), if_neg (by rw [hj]; decide), if_neg (by rw [ho]; decide), if_neg (by rw [hn]; decide), if_pos hp]

theorem pJoin_bad (h : isSgn (G s.i) 46 = true) (hj : isJoin (G (s.i + 1)) = true) (ho : isSgn (G (s.i + 2)) 40 = true) (hn : isL (G (s.i + 1)) txNeg = false) (hp : prdA (G (s.i + 3)) = true) {i : Nat} {e : Int} (hr : pPred G k ⟨s.i + 3, s.n⟩ = .bad i e) : pJoin G (k + 1) out s = .bad i e := by
  rw [pJoin, if_neg (by rw [h]; decide), if_neg (by rw [hj]; decide), if_neg (by rw [ho]; decide), if_neg (by rw [hn]; decide), if_neg (by rw [hp]; decide)]
  unfold pPred at hr
  cases hq : pPlain G k ⟨s.i + 3, s.n⟩ with
  | bad i e => rw [hq] at hr; exact hr
  | ok q s1 => rw [hq] at hr; simp only at hr ⊢; rw [hr]

theorem pJoin_close (h : isSgn (G s.i) 46 = true) (hj : isJoin (G (s.i + 1)) = true) (ho : isSgn (G (s.i + 2)) 40 = true) (hn : isL (G (s.i + 1)) txNeg = false) (hp : prdA (G (s.i + 3)) = true) (hr : pPred G k ⟨s.i + 3, s.n⟩ = .ok q s2) (hc : isSgn (G s2.i) 41 = false) : pJoin G (k + 1) out s = .bad s2.i 120 := by
  rw [pJoin, if_neg (by rw [h]; decide), if_neg (by rw [hj]; decide), if_neg (by rw [ho]; decide), if_neg (by rw [hn]; decide), if_neg (by rw [hp]; decide)]
  unfold pPred at hr
  cases hq : pPlain G k ⟨s.i + 3, s.n⟩ with
  | bad i e => rw [hq] at hr; cases hr
  | ok q s1 => rw [hq] at hr; simp only at hr ⊢; rw [hr]; exact if_pos hc

theorem pJoin_go (h : isSgn (G s.i) 46 = true) (hj : isJoin (G (s.i + 1)) = true) (ho : isSgn (G (s.i + 2)) 40 = true) (hn : isL (G (s.i + 1)) txNeg = false) (hp : prdA (G (s.i + 3)) = true) (hr : pPred G k ⟨s.i + 3, s.n⟩ = .ok q s2) (hc : isSgn (G s2.i) 41 = true) : pJoin G (k + 1) out s = pJoin G k (.mk (G (s.i + 1)).s [] [out, q]) ⟨s2.i + 1, s2.n⟩ := by
  rw [pJoin, if_neg (by rw [h]; decide), if_neg (by rw [hj]; decide), if_neg (by rw [ho]; decide), if_neg (by rw [hn]; decide), if_neg (by rw [hp]; decide)]
  unfold pPred at hr
  cases hq : pPlain G k ⟨s.i + 3, s.n⟩ with
  | bad i e => rw [hq] at hr; cases hr
  | ok q s1 => rw [hq] at hr; simp only at hr ⊢; rw [hr]; exact if_neg (by rw [hc]; decide)

end

theorem sgn_lt {ws : List Wd} (hG : Gd ws) {i : Nat} {c : UInt8} (h : isSgn (gx ws i) c = true) : i + 1 < ws.length := by
  have hk := sgn_kind h
  by_cases hi : i < ws.length
  · have hx : ws[i]? = some ws[i] := List.getElem?_eq_getElem hi
    rw [gx_of hx] at h
    exact sgn_next hG hx h
  · exfalso
    unfold gx at hk
    rw [List.getD_eq_getElem?_getD, List.getElem?_eq_none (by omega)] at hk
    exact absurd hk (by decide)

theorem sevL_lt {ws : List Wd} (hG : Gd ws) {α : Type} {en : UInt8} {b : Wd → Bool} {rd : Nat → Ps → Rs α} : ∀ (f : Nat) (l : List α) (s : Ps) (l' : List α) (s' : Ps), sevL (gx ws) en b rd f l s = .ok l' s' → s'.i < ws.length
  | 0, _, _, _, _, h => by cases h
  | f + 1, l, s, l', s', h => by
    rw [sevL] at h
    split at h
    · cases h
    · split at h
      · cases h
      · split at h
        · cases h
        · split at h
          · rename_i hs; cases h; exact sgn_lt hG hs
          · split at h
            · exact sevL_lt hG f _ _ _ _ h
            · cases h

theorem sev_lt {ws : List Wd} (hG : Gd ws) {α : Type} {en : UInt8} {b : Wd → Bool} {rd : Nat → Ps → Rs α} {s s' : Ps} {l : List α} (h : sev (gx ws) en b rd s = .ok l s') : s'.i < ws.length := by
  unfold sev at h
  split at h
  · rename_i hs; cases h; exact sgn_lt hG hs
  · exact sevL_lt hG _ _ _ _ _ h

theorem pPlain_lt {ws : List Wd} (hG : Gd ws) {k : Nat} {s s' : Ps} {q : Pd} (h : pPlain (gx ws) k s = .ok q s') : s'.i < ws.length := by
  unfold pPlain at h
  split at h
  · cases h
  · split at h
    · cases h
    · rename_i hs
      split at h
      · cases h
      · cases h; exact sev_lt hG hs

theorem pJoin_lt {ws : List Wd} (hG : Gd ws) : ∀ (k : Nat) (out : Pd) (s : Ps) (q : Pd) (s' : Ps), s.i < ws.length → pJoin (gx ws) k out s = .ok q s' → s'.i < ws.length
  | 0, out, s, q, s', hs, h => by
    rw [pJoin] at h
    split at h
    · cases h; exact hs
    · split at h <;> cases h
  | k + 1, out, s, q, s', hs, h => by
    rw [pJoin] at h
    split at h
    · cases h; exact hs
    · split at h
      · cases h
      · split at h
        · cases h
        · split at h
          · split at h
            · cases h
            · rename_i hc
              exact pJoin_lt hG k _ _ _ _ (sgn_lt hG (by simpa using hc)) h
          · split at h
            · cases h
            · split at h
              · cases h
              · split at h
                · cases h
                · split at h
                  · cases h
                  · rename_i hc
                    exact pJoin_lt hG k _ _ _ _ (sgn_lt hG (by simpa using hc)) h

theorem pPred_lt {ws : List Wd} (hG : Gd ws) {k : Nat} {s s' : Ps} {q : Pd} (h : pPred (gx ws) k s = .ok q s') : s'.i < ws.length := by
  unfold pPred at h
  split at h
  · cases h
  · rename_i hs
    exact pJoin_lt hG _ _ _ _ _ (pPlain_lt hG hs) h

theorem RdP.shape {w : World} {S : Nat → Prop} {op : ByteArray} {l : List T} {kids : List Pd} {v : Value} (h : RdP w S (.mk op l kids) v) : ∃ lA lc kA kc, v = .agg #[.string op, .slice lA l.length lc, .slice kA kids.length kc] := by
  obtain ⟨m, h⟩ := h
  cases m with
  | zero =>
    obtain ⟨lv, rfl, h1, rfl⟩ := h
    obtain ⟨A, c, rfl⟩ := h1.shape
    exact ⟨A, c, none, 0, rfl⟩
  | succ m =>
    obtain ⟨lv, kv, rfl, h1, h2⟩ := h
    obtain ⟨A, c, rfl⟩ := h1.shape
    obtain ⟨B, e, rfl⟩ := h2.shape
    exact ⟨A, c, B, e, rfl⟩

theorem rdP_one {w : World} {S : Nat → Prop} (op : ByteArray) {p : Pd} {u : Value} {b : Nat} (hS : S b) (hp : RdP w S p u) (hc : ∀ k c, u.cells[k]? = some c → w.cell? ⟨b, k, none⟩ = some c) :
    RdP w S (.mk op [] [p]) (.agg #[.string op, .slice none 0 0, .slice (some ⟨b, 0, none⟩) 1 1]) := by
  obtain ⟨m, hp⟩ := hp
  refine ⟨m + 1, _, _, rfl, .inl ⟨rfl, rfl⟩, .inr ⟨b, 1, rfl, Nat.le_refl _, by decide, hS, fun j hj => ?_⟩⟩
  obtain rfl : j = 0 := by simp at hj; exact hj
  exact ⟨u, fun k c h => by rw [Nat.zero_mul, Nat.zero_add]; exact hc k c h, hp⟩

theorem rdP_two {w : World} {S : Nat → Prop} (op : ByteArray) {p q : Pd} {u v : Value} {b : Nat} (hS : S b) (hp : RdP w S p u) (hq : RdP w S q v) (hc : ∀ k c, u.cells[k]? = some c → w.cell? ⟨b, k, none⟩ = some c) (hd : ∀ k c, v.cells[k]? = some c → w.cell? ⟨b, 3 + k, none⟩ = some c) :
    RdP w S (.mk op [] [p, q]) (.agg #[.string op, .slice none 0 0, .slice (some ⟨b, 0, none⟩) 2 2]) := by
  obtain ⟨m, hp⟩ := hp
  obtain ⟨m', hq⟩ := hq
  refine ⟨max m m' + 1, _, _, rfl, .inl ⟨rfl, rfl⟩, .inr ⟨b, 2, rfl, Nat.le_refl _, by decide, hS, fun j hj => ?_⟩⟩
  match j, hj with
  | 0, _ => exact ⟨u, fun k c h => by rw [Nat.zero_mul, Nat.zero_add]; exact hc k c h, rdP_le (Nat.le_max_left _ _) hp⟩
  | 1, _ => exact ⟨v, fun k c h => hd k c h, rdP_le (Nat.le_max_right _ _) hq⟩

section
variable {pb g cap : Nat} {ws : List Wd} {w wr : World} {ob tb : Nat} {y : Wd} {o : Array Value} {i d n i' d' n' : Nat} {W W' : World}

end

section
variable {pb g cap : Nat} {ws : List Wd} {w wr : World} {ob tb : Nat} {y : Wd} {i d n : Nat} {W : World} {op : ByteArray} {lA kA : Option Addr} {ln lc kn kc : Nat}

theorem put_keep {w : World} {ob : Nat} {X : Obj} (a b c : Value) {q : Nat} (hq : q < w.heap.size) (hn : q ≠ ob) : ((((w.alloc X).setCell ⟨ob, 0, none⟩ a).setCell ⟨ob, 1, none⟩ b).setCell ⟨ob, 2, none⟩ c).heap[q]? = w.heap[q]? :=
  (((Below.heap_setCell _ ⟨ob, 2, none⟩ c q hn).trans (Below.heap_setCell _ ⟨ob, 1, none⟩ b q hn)).trans (Below.heap_setCell _ ⟨ob, 0, none⟩ a q hn)).trans (((Below.refl w.heap.size w).alloc (Nat.le_refl _) X).block q hq)

theorem put_size {w : World} {ob : Nat} {X : Obj} (a b c : Value) : ((((w.alloc X).setCell ⟨ob, 0, none⟩ a).setCell ⟨ob, 1, none⟩ b).setCell ⟨ob, 2, none⟩ c).heap.size = w.heap.size + 1 := by simp [World.setCell]

theorem put_blk {w : World} {ob : Nat} {t : TypeId} {cs : Array Value} (h : w.heap.size ≠ ob) (a b c : Value) : Blk ((((w.alloc (.cells cs t)).setCell ⟨ob, 0, none⟩ a).setCell ⟨ob, 1, none⟩ b).setCell ⟨ob, 2, none⟩ c) w.heap.size t cs :=
  (((Blk.new w t cs).far (p := ⟨ob, 0, none⟩) h a).far (p := ⟨ob, 1, none⟩) h b).far (p := ⟨ob, 2, none⟩) h c

theorem rd_far {W W' : World} {out : Pd} {v : Value} (h : RdP W (fun q => w.heap.size < q ∧ q < W.heap.size ∧ q ≠ ob) out v) (hf : FR pb W W') (hp : pb < w.heap.size) : RdP W' (fun q => w.heap.size < q ∧ q < W'.heap.size ∧ q ≠ ob) out v :=
  keepS_Pd _ _ _ _ _ _ (fun q hq => World.cell?_of_block (hf.block _ hq.2.1 (by have := hq.1; omega))) (fun _ hq => ⟨hq.1, Nat.lt_of_lt_of_le hq.2.1 hf.size, hq.2.2⟩) h

end

theorem join_name {y : Wd} (h : isJoin y = true) : isNam y txAnd = true ∨ (isNam y txAnd = false ∧ isNam y txOr = true) ∨ (isNam y txAnd = false ∧ isNam y txOr = false ∧ isNam y txNeg = true) := by
  unfold isJoin at h
  cases h1 : isNam y txAnd <;> cases h2 : isNam y txOr <;> cases h3 : isNam y txNeg <;> simp_all

theorem join_none {y : Wd} (h : isJoin y = false) : isNam y txAnd = false ∧ isNam y txOr = false ∧ isNam y txNeg = false := by
  unfold isJoin at h
  cases h1 : isNam y txAnd <;> cases h2 : isNam y txOr <;> cases h3 : isNam y txNeg <;> simp_all

theorem nam_list {y : Wd} {l : List UInt8} (h : isNam y l = true) : y.k = 1 ∧ y.s.data.toList = l := by
  unfold isNam isL at h
  rw [Bool.and_eq_true, decide_eq_true_eq, beq_iff_eq] at h
  exact h

end Go.Proofs.YtgmjhoppjjjilaaDoor
