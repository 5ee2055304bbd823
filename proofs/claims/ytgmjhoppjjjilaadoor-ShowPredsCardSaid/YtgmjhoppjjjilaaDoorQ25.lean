/- SpJ -/
import Derived.Test.YtgmjhoppjjjilaaDoorQ24
import Derived.Deep.CutBlock

/- the document's parser: pred, walked (written by tools/laws13j.py) -/
namespace Go.Proofs.YtgmjhoppjjjilaaDoor
open Go.ChangeShapes Go.WideShapes Go.ChangeAt Go.RowKit Go.Fl
open Go.Shelf

/-- pred's loop -/
def PrdL (g cap : Nat) (ws : List Wd) (k i d m : Nat) (a : Int) (w wr : World) (p7 gg : Nat) : Prop :=
  w.heap.size + 4 ≤ p7 ∧ Below w.heap.size w wr ∧ wr.heap[w.heap.size + 1]? = some (.cells #[.slice none 0 0, .int .i64 0, .int .i64 0, .int .i64 0, .int .i64 0, .int .i64 0] 63 (0, 0)) ∧ wr.heap[w.heap.size + 1 + 1]? = some (.cells #[.string ⟨#[]⟩, .slice none 0 0, .slice none 0 0] 38 (0, 0)) ∧ SB wr (w.heap.size + 1 + 1 + 1) g ws.length cap i d m a 0 ∧
    ∃ (i5 d5 m5 a5 e5 : Int) (op : ByteArray) (lA : Option Addr) (ll lc : Nat) (kA : Option Addr) (kl kc : Nat), SB wr w.heap.size g ws.length cap i5 d5 m5 a5 e5 ∧ wr.heap[p7]? = some (.cells #[.string op, .slice lA ll lc, .slice kA kl kc] 38 (0, 0)) ∧
      ((e5 = 0 ∧ ∃ (p : Pd) (s : Ps) (kj dj : Nat), i5 = (s.i : Nat) ∧ s.i < ws.length ∧ d5 = (dj : Nat) ∧ dj + kj = 12 ∧ kj ≤ k ∧ kj + 1 ≤ gg ∧ m5 = (s.n : Nat) ∧ a5 = a ∧ RdP wr (fun b => w.heap.size + 4 ≤ b ∧ b ≠ p7 ∧ b < wr.heap.size) p (.agg #[.string op, .slice lA ll lc, .slice kA kl kc]) ∧ rPred (gx ws) k ⟨i, m⟩ = rJoin (gx ws) kj p s) ∨
       (e5 ≠ 0 ∧ rPred (gx ws) k ⟨i, m⟩ = none))

theorem rPred_vals {ws : List Wd} {i k m : Nat} {x : Wd} (hx : ws[i]? = some x) (hp : prdA x = true) {many : Int} (hm : prdN x.s.data.toList = some many) : rPred (gx ws) k ⟨i, m⟩ = match rVals (gx ws) k ⟨i, m⟩ with
    | none => none
    | some (l, s') => if 0 ≤ many ∧ (l.length : Int) ≠ many then none else rJoin (gx ws) k (.mk x.s l []) s' := by
  have hg : gx ws i = { x with at_ := 0 } := gx_of hx
  unfold rPred
  rw [show (⟨i, m⟩ : Ps).i = i from rfl, if_neg (by rw [hg]; show ¬ prdA x = false; rw [hp]; decide), rPlain_vals, show (⟨i, m⟩ : Ps).i = i from rfl, hg]
  have hmost : mostN x.s.data.toList = many := by unfold mostN; rw [hm]; rfl
  show (match (match rVals (gx ws) k ⟨i, m⟩ with | none => none | some (l, s') => if 0 ≤ mostN x.s.data.toList ∧ (l.length : Int) ≠ mostN x.s.data.toList then none else some (Pd.mk x.s l [], s')) with | none => none | some (q, s1) => rJoin (gx ws) k q s1) = _
  rw [hmost]
  cases rVals (gx ws) k ⟨i, m⟩ with
  | none => rfl
  | some v =>
    obtain ⟨l, s'⟩ := v
    show (match (if 0 ≤ many ∧ (l.length : Int) ≠ many then none else some (Pd.mk x.s l [], s')) with | none => none | some (q, s1) => rJoin (gx ws) k q s1) = _
    by_cases h : 0 ≤ many ∧ (l.length : Int) ≠ many
    · rw [if_pos h]; show none = if 0 ≤ many ∧ (l.length : Int) ≠ many then none else _; rw [if_pos h]
    · rw [if_neg h]; show rJoin (gx ws) k _ _ = if 0 ≤ many ∧ (l.length : Int) ≠ many then none else _; rw [if_neg h]

/-- the loop begins -/
theorem PrdI.loop {g cap : Nat} {ws : List Wd} {k i d m : Nat} {a : Int} {x : Wd} {w wx : World} {p7 : Nat} {many : Int} (h : PrdI g cap ws k i d m a x w wx p7) (hx : ws[i]? = some x) (hp : prdA x = true) (hm : prdN x.s.data.toList = some many) (hdk : d + k = 12)
    (hno : ∀ l s, rVals (gx ws) k ⟨i, m⟩ = some (l, s) → ¬ (0 ≤ many ∧ (l.length : Int) ≠ many)) : PrdL g cap ws k i d m a w wx p7 14 := by
  obtain ⟨h1, h2, h3, h4, h5, i5, m5, a5, e5, lA, ll, lc, h6, h7, h8⟩ := h
  refine ⟨h1, h2, h3, h4, h5, i5, d, m5, a5, e5, x.s, lA, ll, lc, none, 0, 0, h6, h7, ?_⟩
  have hr := rPred_vals (k := k) (m := m) hx hp hm
  rcases h8 with ⟨l, s, q1, q2, q3, q4, q5, q6, q7, q8⟩ | ⟨q1, q2⟩
  · refine .inl ⟨q6, .mk x.s l [], s, k, d, q2, q3, rfl, hdk, Nat.le_refl _, by omega, q4, q5, ⟨0, _, rfl, q8, rfl⟩, ?_⟩
    rw [hr, q1]
    exact if_neg (hno l s q1)
  · exact .inr ⟨q2, by rw [hr, q1]⟩

/-- behind the switch: a bracket must be shut -/
def PrdS (g cap : Nat) (ws : List Wd) (k i d m : Nat) (a : Int) (w wr : World) (p7 q : Nat) : Prop :=
  w.heap.size + 4 ≤ p7 ∧ Below w.heap.size w wr ∧ wr.heap[w.heap.size + 1]? = some (.cells #[.slice none 0 0, .int .i64 0, .int .i64 0, .int .i64 0, .int .i64 0, .int .i64 0] 63 (0, 0)) ∧ wr.heap[w.heap.size + 1 + 1]? = some (.cells #[.string ⟨#[]⟩, .slice none 0 0, .slice none 0 0] 38 (0, 0)) ∧ SB wr (w.heap.size + 1 + 1 + 1) g ws.length cap i d m a 0 ∧
    ∃ (i5 d5 m5 a5 e5 : Int) (op : ByteArray) (lA : Option Addr) (ll lc : Nat) (kA : Option Addr) (kl kc : Nat), SB wr w.heap.size g ws.length cap i5 d5 m5 a5 e5 ∧ wr.heap[p7]? = some (.cells #[.string op, .slice lA ll lc, .slice kA kl kc] 38 (0, 0)) ∧
      ((e5 = 0 ∧ ∃ (p : Pd) (s : Ps) (dj : Nat), i5 = (s.i : Nat) ∧ s.i < ws.length ∧ d5 = (dj : Nat) ∧ dj + q = 12 ∧ q ≤ k ∧ m5 = (s.n : Nat) ∧ a5 = a ∧ RdP wr (fun b => w.heap.size + 4 ≤ b ∧ b ≠ p7 ∧ b < wr.heap.size) p (.agg #[.string op, .slice lA ll lc, .slice kA kl kc]) ∧ rPred (gx ws) k ⟨i, m⟩ = if isSgn (gx ws s.i) 41 = false then none else rJoin (gx ws) q p ⟨s.i + 1, s.n⟩) ∨
       (e5 ≠ 0 ∧ rPred (gx ws) k ⟨i, m⟩ = none))

/-- the bracket is shut, or it is not -/
theorem PrdS.sign {g cap : Nat} {ws : List Wd} {k i d m : Nat} {a : Int} {w wr : World} {p7 q : Nat} (hG : Gd ws) (hw : WdsAt w g ws) (h : PrdS g cap ws k i d m a w wr p7 q) :
    ∃ (i5 d5 m5 a5 e5 i9 a9 e9 : Int), SB wr w.heap.size g ws.length cap i5 d5 m5 a5 e5 ∧ Calls Tryd.prog 27 #[StV g ws.length cap i5 d5 m5 a5 e5, .string ⟨#[41]⟩] wr (fun z w' => z = .returned (StV g ws.length cap i9 d5 m5 a9 e9) ∧ Below wr.heap.size wr w') ∧
      ∀ wx, Only (fun b => b = w.heap.size) wr wx → SB wx w.heap.size g ws.length cap i9 d5 m5 a9 e9 → PrdL g cap ws k i d m a w wx p7 (q + 1) := by
  obtain ⟨h1, h2, h3, h4, h5, i5, d5, m5, a5, e5, op, lA, ll, lc, kA, kl, kc, z1, z2, hor⟩ := h
  have hl3 := (Array.getElem?_eq_some_iff.1 h3).1
  have hl4 := (Array.getElem?_eq_some_iff.1 h4).1
  have hl7 := (Array.getElem?_eq_some_iff.1 z2).1
  have base : ∀ wx, Only (fun b => b = w.heap.size) wr wx → Below w.heap.size w wx ∧ wx.heap[w.heap.size + 1]? = some (.cells #[.slice none 0 0, .int .i64 0, .int .i64 0, .int .i64 0, .int .i64 0, .int .i64 0] 63 (0, 0)) ∧ wx.heap[w.heap.size + 1 + 1]? = some (.cells #[.string ⟨#[]⟩, .slice none 0 0, .slice none 0 0] 38 (0, 0)) ∧ SB wx (w.heap.size + 1 + 1 + 1) g ws.length cap i d m a 0 ∧ wx.heap[p7]? = some (.cells #[.string op, .slice lA ll lc, .slice kA kl kc] 38 (0, 0)) := fun wx ho =>
    ⟨h2.trans (ho.below h2.size (fun b hb => by omega)), (ho.block _ hl3 (by omega)).trans h3, (ho.block _ hl4 (by omega)).trans h4, (ho.block _ h5.cells.2.2 (by omega)).trans h5, (ho.block _ hl7 (by omega)).trans z2⟩
  rcases hor with ⟨rfl, p, s, dj, rfl, hsi, rfl, hdq, hqk, rfl, rfl, hrd, hr⟩ | ⟨he, hno⟩
  · obtain ⟨y, hy⟩ : ∃ y, ws[s.i]? = some y := ⟨_, List.getElem?_eq_getElem hsi⟩
    have hgy : isSgn (gx ws s.i) 41 = isSgn y 41 := by rw [gx_of hy]; rfl
    cases h41 : isSgn y 41
    · refine ⟨_, _, _, _, _, _, _, _, z1, sign_no (hw.on h2) hy _ _ _ 41 h41, fun wx ho zs => ?_⟩
      obtain ⟨b1, b2, b3, b4, b5⟩ := base wx ho
      exact ⟨h1, b1, b2, b3, b4, _, _, _, _, _, op, lA, ll, lc, kA, kl, kc, zs, b5, .inr ⟨by decide, by rw [hr, if_pos (hgy.trans h41)]⟩⟩
    · obtain ⟨y2, hy2⟩ := hG.next hy (by
        have h := h41
        unfold isSgn at h
        rw [Bool.and_eq_true, decide_eq_true_iff] at h
        rw [h.1]; decide)
      refine ⟨_, _, _, _, _, _, _, _, z1, sign_yes (hw.on h2) hy hG.few _ _ _ 41 h41, fun wx ho zs => ?_⟩
      obtain ⟨b1, b2, b3, b4, b5⟩ := base wx ho
      refine ⟨h1, b1, b2, b3, b4, _, _, _, _, _, op, lA, ll, lc, kA, kl, kc, zs, b5, .inl ⟨rfl, p, ⟨s.i + 1, s.n⟩, q, dj, rfl, (List.getElem?_eq_some_iff.1 hy2).1, rfl, hdq, hqk, Nat.le_refl _, rfl, rfl, ?_, ?_⟩⟩
      · exact keepS_Pd _ _ _ _ _ _ (fun pp hp => World.cell?_of_block (ho.block pp.block hp.2.2 (by have := hp.1; omega))) (fun b hb => ⟨hb.1, hb.2.1, Nat.lt_of_lt_of_le hb.2.2 ho.size⟩) hrd
      · rw [hr, if_neg (by rw [hgy, h41]; decide)]
  · refine ⟨_, _, _, _, _, _, _, _, z1, sign_er g ws.length cap i5 d5 m5 a5 e5 he ⟨#[41]⟩ wr, fun wx ho zs => ?_⟩
    obtain ⟨b1, b2, b3, b4, b5⟩ := base wx ho
    exact ⟨h1, b1, b2, b3, b4, _, _, _, _, _, op, lA, ll, lc, kA, kl, kc, zs, b5, .inr ⟨he, hno⟩⟩

theorem PrdS.bad {g cap : Nat} {ws : List Wd} {k i d m : Nat} {a : Int} {w wr wx : World} {p7 q : Nat} (h1 : w.heap.size + 4 ≤ p7) (hb : Below w.heap.size w wr) (h3 : wr.heap[w.heap.size + 1]? = some (.cells #[.slice none 0 0, .int .i64 0, .int .i64 0, .int .i64 0, .int .i64 0, .int .i64 0] 63 (0, 0))) (h4 : wr.heap[w.heap.size + 1 + 1]? = some (.cells #[.string ⟨#[]⟩, .slice none 0 0, .slice none 0 0] 38 (0, 0))) (h5 : SB wr (w.heap.size + 1 + 1 + 1) g ws.length cap i d m a 0)
    (ho : Only (fun b => b = w.heap.size ∨ b = p7) wr wx) {i5 d5 m5 a5 e5 : Int} {op : ByteArray} {lA : Option Addr} {ll lc : Nat} {kA : Option Addr} {kl kc : Nat} (zs : SB wx w.heap.size g ws.length cap i5 d5 m5 a5 e5) (zp : wx.heap[p7]? = some (.cells #[.string op, .slice lA ll lc, .slice kA kl kc] 38 (0, 0))) (he : e5 ≠ 0) (hno : rPred (gx ws) k ⟨i, m⟩ = none) : PrdS g cap ws k i d m a w wx p7 q := by
  have hl3 := (Array.getElem?_eq_some_iff.1 h3).1
  have hl4 := (Array.getElem?_eq_some_iff.1 h4).1
  exact ⟨h1, hb.trans (ho.below hb.size (fun b hb' => by omega)), (ho.block _ hl3 (by omega)).trans h3, (ho.block _ hl4 (by omega)).trans h4, (ho.block _ h5.cells.2.2 (by omega)).trans h5, _, _, _, _, _, op, lA, ll, lc, kA, kl, kc, zs, zp, .inr ⟨he, hno⟩⟩

theorem rdPj_one {w : World} {S : Nat → Prop} (op : ByteArray) {p : Pd} {u : Value} {b : Nat} (hS : S b) (hp : RdP w S p u) (hc : ∀ k c, u.cells[k]? = some c → w.cell? ⟨b, k, none⟩ = some c) :
    RdP w S (.mk op [] [p]) (.agg #[.string op, .slice none 0 0, .slice (some ⟨b, 0, none⟩) 1 1]) := by
  obtain ⟨m, hp⟩ := hp
  refine ⟨m + 1, _, _, rfl, .inl ⟨rfl, rfl⟩, .inr ⟨b, 1, rfl, Nat.le_refl _, by decide, hS, fun j hj => ?_⟩⟩
  obtain rfl : j = 0 := by simp at hj; exact hj
  exact ⟨u, fun k c h => by rw [Nat.zero_mul, Nat.zero_add]; exact hc k c h, hp⟩

theorem rdPj_two {w : World} {S : Nat → Prop} (op : ByteArray) {p q : Pd} {u v : Value} {b : Nat} (hS : S b) (hp : RdP w S p u) (hq : RdP w S q v) (hc : ∀ k c, u.cells[k]? = some c → w.cell? ⟨b, k, none⟩ = some c) (hd : ∀ k c, v.cells[k]? = some c → w.cell? ⟨b, 3 + k, none⟩ = some c) :
    RdP w S (.mk op [] [p, q]) (.agg #[.string op, .slice none 0 0, .slice (some ⟨b, 0, none⟩) 2 2]) := by
  obtain ⟨m, hp⟩ := hp
  obtain ⟨m', hq⟩ := hq
  refine ⟨max m m' + 1, _, _, rfl, .inl ⟨rfl, rfl⟩, .inr ⟨b, 2, rfl, Nat.le_refl _, by decide, hS, fun j hj => ?_⟩⟩
  match j, hj with
  | 0, _ => exact ⟨u, fun k c h => by rw [Nat.zero_mul, Nat.zero_add]; exact hc k c h, rdP_le (Nat.le_max_left _ _) hp⟩
  | 1, _ => exact ⟨v, fun k c h => hd k c h, rdP_le (Nat.le_max_right _ _) hq⟩

theorem two_words {S : ByteArray} {l l' : List UInt8} (h : (S.toList == l) = true) (h' : (S.toList == l') = true) (hne : l ≠ l') : False :=
  hne ((beq_iff_eq.1 h).symm.trans (beq_iff_eq.1 h'))

theorem PrdS.of {g cap : Nat} {ws : List Wd} {k i d m : Nat} {a : Int} {w wr wx : World} {p7 q : Nat} (h1 : w.heap.size + 4 ≤ p7) (hb : Below w.heap.size w wr) (h3 : wr.heap[w.heap.size + 1]? = some (.cells #[.slice none 0 0, .int .i64 0, .int .i64 0, .int .i64 0, .int .i64 0, .int .i64 0] 63 (0, 0))) (h4 : wr.heap[w.heap.size + 1 + 1]? = some (.cells #[.string ⟨#[]⟩, .slice none 0 0, .slice none 0 0] 38 (0, 0))) (h5 : SB wr (w.heap.size + 1 + 1 + 1) g ws.length cap i d m a 0)
    (ho : Only (fun b => b = w.heap.size ∨ b = p7) wr wx) {i5 d5 m5 a5 e5 : Int} {op : ByteArray} {lA : Option Addr} {ll lc : Nat} {kA : Option Addr} {kl kc : Nat} (zs : SB wx w.heap.size g ws.length cap i5 d5 m5 a5 e5) (zp : wx.heap[p7]? = some (.cells #[.string op, .slice lA ll lc, .slice kA kl kc] 38 (0, 0)))
    (hor : (e5 = 0 ∧ ∃ (p : Pd) (s : Ps) (dj : Nat), i5 = (s.i : Nat) ∧ s.i < ws.length ∧ d5 = (dj : Nat) ∧ dj + q = 12 ∧ q ≤ k ∧ m5 = (s.n : Nat) ∧ a5 = a ∧ RdP wx (fun b => w.heap.size + 4 ≤ b ∧ b ≠ p7 ∧ b < wx.heap.size) p (.agg #[.string op, .slice lA ll lc, .slice kA kl kc]) ∧ rPred (gx ws) k ⟨i, m⟩ = if isSgn (gx ws s.i) 41 = false then none else rJoin (gx ws) q p ⟨s.i + 1, s.n⟩) ∨ (e5 ≠ 0 ∧ rPred (gx ws) k ⟨i, m⟩ = none)) : PrdS g cap ws k i d m a w wx p7 q := by
  have hl3 := (Array.getElem?_eq_some_iff.1 h3).1
  have hl4 := (Array.getElem?_eq_some_iff.1 h4).1
  exact ⟨h1, hb.trans (ho.below hb.size (fun b hb' => by omega)), (ho.block _ hl3 (by omega)).trans h3, (ho.block _ hl4 (by omega)).trans h4, (ho.block _ h5.cells.2.2 (by omega)).trans h5, _, _, _, _, _, op, lA, ll, lc, kA, kl, kc, zs, zp, hor⟩

theorem rJoin_two {G : Nat → Wd} {q : Nat} {out : Pd} {s : Ps} (h1 : isSgn (G s.i) 46 = true) (h2 : (G (s.i + 1)).k = 1) (h3 : isSgn (G (s.i + 2)) 40 = true) (h4 : (isL (G (s.i + 1)) txAnd || isL (G (s.i + 1)) txOr) = true) :
    rJoin G (q + 1) out s = match rPred G q ⟨s.i + 3, s.n⟩ with
      | none => none
      | some (q', s2) => if isSgn (G s2.i) 41 = false then none else rJoin G q (.mk (G (s.i + 1)).s [] [out, q']) ⟨s2.i + 1, s2.n⟩ := by
  rw [rJoin, if_neg (by rw [h1]; decide), if_neg (by rw [h2]; decide), if_neg (by rw [h3]; decide), if_pos h4]
  unfold rPred
  show _ = match (if prdA (G (s.i + 3)) = false then none else match rPlain G q ⟨s.i + 3, s.n⟩ with | none => none | some (q', s1) => rJoin G q q' s1) with
    | none => none
    | some (q', s2) => if isSgn (G s2.i) 41 = false then none else rJoin G q (.mk (G (s.i + 1)).s [] [out, q']) ⟨s2.i + 1, s2.n⟩
  by_cases hp : prdA (G (s.i + 3)) = false
  · rw [if_pos hp, if_pos hp]
  · rw [if_neg hp, if_neg hp]
    cases rPlain G q ⟨s.i + 3, s.n⟩ with
    | none => rfl
    | some v =>
      obtain ⟨q', s1⟩ := v
      show (match rJoin G q q' s1 with | none => none | some (q, s2) => _) = match rJoin G q q' s1 with | none => none | some (q', s2) => _
      cases rJoin G q q' s1 <;> rfl

section
variable {W : World} {p7 : Nat} {cs : Array Value} {a b c : Value}

theorem put3_far (cs : Array Value) (a b c : Value) {q : Nat} (hq : q < W.heap.size) (hn : q ≠ p7) : ((((W.setCell ⟨p7, 0, none⟩ a).setCell ⟨p7, 1, none⟩ b).setCell ⟨p7, 2, none⟩ c).alloc (.cells cs 38)).heap[q]? = W.heap[q]? :=
  (Below.heap_alloc _ _ q (by simp only [World.size_setCell]; exact hq)).trans (tri_far hn a b c)

theorem put3_new (W : World) (p7 : Nat) (cs : Array Value) (a b c : Value) : Blk ((((W.setCell ⟨p7, 0, none⟩ a).setCell ⟨p7, 1, none⟩ b).setCell ⟨p7, 2, none⟩ c).alloc (.cells cs 38)) W.heap.size 38 cs := by
  have h := heap_alloc_new (((W.setCell ⟨p7, 0, none⟩ a).setCell ⟨p7, 1, none⟩ b).setCell ⟨p7, 2, none⟩ c) (.cells cs 38)
  simp only [World.size_setCell] at h
  exact h

theorem put3_size (W : World) (p7 : Nat) (cs : Array Value) (a b c : Value) : ((((W.setCell ⟨p7, 0, none⟩ a).setCell ⟨p7, 1, none⟩ b).setCell ⟨p7, 2, none⟩ c).alloc (.cells cs 38)).heap.size = W.heap.size + 1 := by
  simp only [World.size_alloc, World.size_setCell]

theorem put3_only {wr : World} {h0 : Nat} (hO : Only (fun k => k = h0) wr W) (cs : Array Value) (a b c : Value) : Only (fun k => k = h0 ∨ k = p7) wr ((((W.setCell ⟨p7, 0, none⟩ a).setCell ⟨p7, 1, none⟩ b).setCell ⟨p7, 2, none⟩ c).alloc (.cells cs 38)) :=
  ((((hO.mono (fun _ _ h => .inl h)).setCell (p := ⟨p7, 0, none⟩) (.inl (.inr rfl)) a).setCell (p := ⟨p7, 1, none⟩) (.inl (.inr rfl)) b).setCell (p := ⟨p7, 2, none⟩) (.inl (.inr rfl)) c).alloc _

end

/-- one predicate, or two, as the kids of another one -/
theorem PrdS.neg {g cap : Nat} {ws : List Wd} {k i d m : Nat} {a : Int} {w wr W : World} {p7 q : Nat} (h1 : w.heap.size + 4 ≤ p7) (hb : Below w.heap.size w wr) (h3 : wr.heap[w.heap.size + 1]? = some (.cells #[.slice none 0 0, .int .i64 0, .int .i64 0, .int .i64 0, .int .i64 0, .int .i64 0] 63 (0, 0))) (h4 : wr.heap[w.heap.size + 1 + 1]? = some (.cells #[.string ⟨#[]⟩, .slice none 0 0, .slice none 0 0] 38 (0, 0))) (h5 : SB wr (w.heap.size + 1 + 1 + 1) g ws.length cap i d m a 0)
    (ho : Only (fun b => b = w.heap.size) wr W) {i5 d5 m5 a5 e5 : Int} {op nm : ByteArray} {lA : Option Addr} {ll lc : Nat} {kA : Option Addr} {kl kc : Nat} (zs : SB W w.heap.size g ws.length cap i5 d5 m5 a5 e5) (zp : wr.heap[p7]? = some (.cells #[.string op, .slice lA ll lc, .slice kA kl kc] 38 (0, 0)))
    (hor : (e5 = 0 ∧ ∃ (p : Pd) (s : Ps) (dj : Nat), i5 = (s.i : Nat) ∧ s.i < ws.length ∧ d5 = (dj : Nat) ∧ dj + q = 12 ∧ q ≤ k ∧ m5 = (s.n : Nat) ∧ a5 = a ∧ RdP wr (fun b => w.heap.size + 4 ≤ b ∧ b ≠ p7 ∧ b < wr.heap.size) p (.agg #[.string op, .slice lA ll lc, .slice kA kl kc]) ∧ rPred (gx ws) k ⟨i, m⟩ = if isSgn (gx ws s.i) 41 = false then none else rJoin (gx ws) q (.mk nm [] [p]) ⟨s.i + 1, s.n⟩) ∨ (e5 ≠ 0 ∧ rPred (gx ws) k ⟨i, m⟩ = none)) :
    PrdS g cap ws k i d m a w ((((W.setCell ⟨p7, 0, none⟩ (.string nm)).setCell ⟨p7, 1, none⟩ (.slice none 0 0)).setCell ⟨p7, 2, none⟩ (.slice (some ⟨W.heap.size, 0, none⟩) 1 1)).alloc (.cells #[.string op, .slice lA ll lc, .slice kA kl kc] 38)) p7 q := by
  have hp7 := (Array.getElem?_eq_some_iff.1 zp).1
  have hws := ho.size
  have hz0 := zs.cells.2.2
  have zp' := (ho.block p7 hp7 (by omega)).trans zp
  refine PrdS.of h1 hb h3 h4 h5 (put3_only ho _ _ _ _) ((put3_far _ _ _ _ hz0 (by omega)).trans zs) ((Below.heap_alloc _ _ p7 (by simp only [World.size_setCell]; omega)).trans (tri_done zp' _ _ _)) ?_
  rcases hor with ⟨he, p, s, dj, q1, q2, q3, q4, q5, q6, q7, hr, hrp⟩ | h
  · refine .inl ⟨he, _, s, dj, q1, q2, q3, q4, q5, q6, q7, rdPj_one nm ⟨by omega, by omega, by rw [put3_size]; omega⟩ (keepS_Pd _ _ _ _ _ _ (fun x hx => World.cell?_of_block ((put3_far _ _ _ _ (by have := hx.2.2; omega) hx.2.1).trans (ho.block x.block hx.2.2 (by have := hx.1; omega)))) (fun x hx => ⟨hx.1, hx.2.1, by rw [put3_size]; have := hx.2.2; omega⟩) hr) (fun k u hu => ?_), hrp⟩
    rw [(put3_new _ _ _ _ _ _).cell k]
    exact hu
  · exact .inr h

theorem PrdS.two {g cap : Nat} {ws : List Wd} {k i d m : Nat} {a : Int} {w wr W : World} {p7 q : Nat} (h1 : w.heap.size + 4 ≤ p7) (hb : Below w.heap.size w wr) (h3 : wr.heap[w.heap.size + 1]? = some (.cells #[.slice none 0 0, .int .i64 0, .int .i64 0, .int .i64 0, .int .i64 0, .int .i64 0] 63 (0, 0))) (h4 : wr.heap[w.heap.size + 1 + 1]? = some (.cells #[.string ⟨#[]⟩, .slice none 0 0, .slice none 0 0] 38 (0, 0))) (h5 : SB wr (w.heap.size + 1 + 1 + 1) g ws.length cap i d m a 0)
    (ho : Only (fun b => b = w.heap.size) wr W) {i5 d5 m5 a5 e5 : Int} {op opq nm : ByteArray} {lA : Option Addr} {ll lc : Nat} {kA : Option Addr} {kl kc : Nat} {lB : Option Addr} {lbl lbc : Nat} {kB : Option Addr} {kbl kbc : Nat} (zs : SB W w.heap.size g ws.length cap i5 d5 m5 a5 e5) (zp : wr.heap[p7]? = some (.cells #[.string op, .slice lA ll lc, .slice kA kl kc] 38 (0, 0)))
    (hor : (e5 = 0 ∧ ∃ (p r : Pd) (s : Ps) (dj : Nat), i5 = (s.i : Nat) ∧ s.i < ws.length ∧ d5 = (dj : Nat) ∧ dj + q = 12 ∧ q ≤ k ∧ m5 = (s.n : Nat) ∧ a5 = a ∧ RdP wr (fun b => w.heap.size + 4 ≤ b ∧ b ≠ p7 ∧ b < wr.heap.size) p (.agg #[.string op, .slice lA ll lc, .slice kA kl kc]) ∧ RdP W (fun b => wr.heap.size ≤ b ∧ b < W.heap.size) r (.agg #[.string opq, .slice lB lbl lbc, .slice kB kbl kbc]) ∧ rPred (gx ws) k ⟨i, m⟩ = if isSgn (gx ws s.i) 41 = false then none else rJoin (gx ws) q (.mk nm [] [p, r]) ⟨s.i + 1, s.n⟩) ∨ (e5 ≠ 0 ∧ rPred (gx ws) k ⟨i, m⟩ = none)) :
    PrdS g cap ws k i d m a w ((((W.setCell ⟨p7, 0, none⟩ (.string nm)).setCell ⟨p7, 1, none⟩ (.slice none 0 0)).setCell ⟨p7, 2, none⟩ (.slice (some ⟨W.heap.size, 0, none⟩) 2 2)).alloc (.cells #[.string op, .slice lA ll lc, .slice kA kl kc, .string opq, .slice lB lbl lbc, .slice kB kbl kbc] 38)) p7 q := by
  have hp7 := (Array.getElem?_eq_some_iff.1 zp).1
  have hws := ho.size
  have hz0 := zs.cells.2.2
  have zp' := (ho.block p7 hp7 (by omega)).trans zp
  refine PrdS.of h1 hb h3 h4 h5 (put3_only ho _ _ _ _) ((put3_far _ _ _ _ hz0 (by omega)).trans zs) ((Below.heap_alloc _ _ p7 (by simp only [World.size_setCell]; omega)).trans (tri_done zp' _ _ _)) ?_
  rcases hor with ⟨he, p, r, s, dj, q1, q2, q3, q4, q5, q6, q7, hr, hr2, hrp⟩ | h
  · refine .inl ⟨he, _, s, dj, q1, q2, q3, q4, q5, q6, q7, rdPj_two nm ⟨by omega, by omega, by rw [put3_size]; omega⟩ (keepS_Pd _ _ _ _ _ _ (fun x hx => World.cell?_of_block ((put3_far _ _ _ _ (by have := hx.2.2; omega) hx.2.1).trans (ho.block x.block hx.2.2 (by have := hx.1; omega)))) (fun x hx => ⟨hx.1, hx.2.1, by rw [put3_size]; have := hx.2.2; omega⟩) hr)
      (keepS_Pd _ _ _ _ _ _ (fun x hx => World.cell?_of_block (put3_far _ _ _ _ hx.2 (by have := hx.1; omega))) (fun x hx => ⟨by have := hx.1; omega, by have := hx.1; omega, by rw [put3_size]; have := hx.2; omega⟩) hr2) (fun k u hu => ?_) (fun k u hu => ?_), hrp⟩
    · rw [(put3_new _ _ _ _ _ _).cell k]
      have hk := (Array.getElem?_eq_some_iff.1 hu).1
      match k, hk, hu with
      | 0, _, hu => exact hu
      | 1, _, hu => exact hu
      | 2, _, hu => exact hu
    · rw [(put3_new _ _ _ _ _ _).cell (3 + k)]
      have hk := (Array.getElem?_eq_some_iff.1 hu).1
      match k, hk, hu with
      | 0, _, hu => exact hu
      | 1, _, hu => exact hu
      | 2, _, hu => exact hu
  · exact .inr h

set_option maxHeartbeats 4000000 in
set_option maxRecDepth 100000 in
theorem pred_yes {w : World} {g cap : Nat} {ws : List Wd} {i d k m : Nat} {x : Wd} (hG : Gd ws) (hC : CanW ws) (hP : ∀ q, q < k → PredC g cap ws q) (hw : WdsAt w g ws) (hx : ws[i]? = some x) (hdk : d + k = 12) (a : Int) (hp : prdA x = true) :
    Calls Tryd.prog 66 #[StV g ws.length cap i d m a 0] w (PrdP g cap ws k i d m a w) := by
  obtain ⟨e0, e1, e2, e3, e4, hi⟩ := hw.word hx
  have hi' : (i : Int) < (ws.length : Int) := by omega
  have hgl := hw.lt
  have hgl1 : g < w.heap.size + 1 := by omega
  have hgl2 : g < w.heap.size + 1 + 1 := by omega
  have hgl3 : g < w.heap.size + 1 + 1 + 1 := by omega
  have hgl4 : g < w.heap.size + 1 + 1 + 1 + 1 := by omega
  have hpp := hp
  unfold prdA at hpp
  rw [Bool.and_eq_true, decide_eq_true_iff] at hpp
  obtain ⟨hps, hk1⟩ := hpp
  obtain ⟨many, hmany⟩ : ∃ n, prdN x.s.data.toList = some n := Option.isSome_iff_exists.1 hps
  obtain ⟨x2, hx2⟩ := hG.next hx (by rw [hk1]; decide)
  have hw64 : wrap64 ((i : Int) + 1) = ((i + 1 : Nat) : Int) := by
    have := hG.few
    rw [wrap64_id (is64_iff.2 (by omega))]; omega
  have HP := Lib.hid (fun W => preds_any x.s W)
  unfold PrdsP at HP
  rw [hmany] at HP
  have HC := Lib.hid (chain4 w (.cells #[.slice (some ⟨g, 0, none⟩) ws.length cap, .int .i64 i, .int .i64 d, .int .i64 m, .int .i64 a, .int .i64 0] 63) (.cells #[.slice none 0 0, .int .i64 0, .int .i64 0, .int .i64 0, .int .i64 0, .int .i64 0] 63) (.cells #[.string ⟨#[]⟩, .slice none 0 0, .slice none 0 0] 38) (.cells #[.slice (some ⟨g, 0, none⟩) ws.length cap, .int .i64 i, .int .i64 d, .int .i64 m, .int .i64 a, .int .i64 0] 63))
  rw [hk1] at e0
  have HH := Lib.hid (And.intro hw (And.intro hx (And.intro hx2 (And.intro hdk (And.intro hp hmany)))))
  have HG := Lib.hid hG; have HCan := Lib.hid hC; have HPr := Lib.hid hP
  clear hw hx hx2 hdk hp hmany hG hC hP hps hk1 hi
  go_enter Tryd.func66, Tryd.ntmps66
  go_wp2_with fail
  refine (HP.out _).mono ?_
  rintro e w1 ⟨rfl, hb1⟩
  obtain ⟨p1, p2, p3, p4, zW, bW⟩ := HC.out
  have q1 := (hb1.block w.heap.size (by rw [zW]; omega)).trans p1
  have q2 := (hb1.block (w.heap.size + 1) (by rw [zW]; omega)).trans p2
  have q3 := (hb1.block (w.heap.size + 1 + 1) (by rw [zW]; omega)).trans p3
  have q4 : SB w1 (w.heap.size + 1 + 1 + 1) g ws.length cap i d m a 0 := (hb1.block (w.heap.size + 1 + 1 + 1) (by rw [zW]; omega)).trans p4
  have hs1 : w.heap.size + 4 ≤ w1.heap.size := by have := hb1.size; omega
  obtain ⟨⟨x0, x1, x2', x3, x4, x5⟩, ⟨f0, f1, f2, f3, f4, f5⟩, l1⟩ := six_cells q1
  have HB := Lib.hid (And.intro (bW.trans (hb1.mono bW.size)) (And.intro q1 (And.intro q2 (And.intro q3 (And.intro q4 hs1)))))
  have hgw : g < w1.heap.size := by omega
  clear p1 p2 p3 p4 zW bW hb1 q1 q2 q3 q4
  -- the name is taken, and its box made
  have e0' : w1.cell? ⟨g, i * 5, none⟩ = some (.int .i64 1) := by
    have := (HH.out.1.on HB.out.1).word HH.out.2.1
    exact this.1.trans (by rw [show x.k = 1 from by
      have h := HH.out.2.2.2.2.1
      unfold prdA at h
      rw [Bool.and_eq_true, decide_eq_true_iff] at h
      exact h.2])
  have e1' : w1.cell? ⟨g, i * 5 + 1, none⟩ = some (.string x.s) := ((HH.out.1.on HB.out.1).word HH.out.2.1).2.1
  obtain ⟨W2, hW2⟩ : ∃ W2, (w1.setCell ⟨w.heap.size, 1, none⟩ (.int .i64 ((i : Int) + 1))).alloc (.cells #[.string x.s, .slice none 0 0, .slice none 0 0] 38) = W2 := ⟨_, rfl⟩
  have hO2 : Only (fun b => b = w.heap.size) w1 W2 := hW2 ▸ ((Only.refl (fun b => b = w.heap.size) w1).setCell (p := ⟨w.heap.size, 1, none⟩) (.inl rfl) _).alloc _
  have z2 : SB W2 w.heap.size g ws.length cap ((i : Int) + 1) d m a 0 := by
    rw [← hW2]
    refine keepA ?_ _
    have := HB.out.2.1
    simp [World.setCell, Array.getElem?_modify, this]
  have n2 : W2.heap[w1.heap.size]? = some (.cells #[.string x.s, .slice none 0 0, .slice none 0 0] 38 (0, 0)) := by
    have h := heap_alloc_new (w1.setCell ⟨w.heap.size, 1, none⟩ (.int .i64 ((i : Int) + 1))) (.cells #[.string x.s, .slice none 0 0, .slice none 0 0] 38)
    rw [hW2] at h
    simpa [World.setCell] using h
  have hwd2 : WdsAt W2 g ws := (HH.out.1.on HB.out.1).far hO2 HH.out.1.lt
  obtain ⟨i3, a3, e3', hsg, i4, d4, a4, e4', hin, hor4⟩ := sign_into (cap := cap) (i := i + 1) HG.out hwd2 HH.out.2.2.1 m a HH.out.2.2.2.1
  rw [show ((i + 1 : Nat) : Int) = (i : Int) + 1 from rfl] at hsg
  have HSG := Lib.hid hsg; have HIN := Lib.hid hin; have HO4 := Lib.hid hor4
  obtain ⟨⟨t0, t1, t2, t3, t4, t5⟩, tf, lt⟩ := z2.cells
  have tf0 := tf 0; have tf1 := tf 1; have tf2 := tf 2; have tf3 := tf 3; have tf4 := tf 4; have tf5 := tf 5
  have HZ2 := Lib.hid (And.intro z2 (And.intro n2 (And.intro hO2 hwd2)))
  clear z2 n2 hO2 hwd2 hsg hin hor4 tf
  go_wp2_with fail
  refine HSG.out.mono ?_
  rintro e w3 ⟨rfl, hb3⟩
  have HI3 := Lib.hid (HIN.out w3 (HZ2.out.2.2.2.on hb3))
  have HB3 := Lib.hid hb3
  clear hb3
  go_wp2_with fail
  refine HI3.out.mono ?_
  rintro e w4 ⟨rfl, hb4⟩
  have hb24 := HB3.out.trans (hb4.mono HB3.out.size)
  have z4 : SB w4 w.heap.size g ws.length cap ((i : Int) + 1) d m a 0 := HZ2.out.1.on hb24
  have n4 := (hb24.block _ (Array.getElem?_eq_some_iff.1 HZ2.out.2.1).1).trans HZ2.out.2.1
  obtain ⟨⟨g0, g1, g2, g3, g4, g5⟩, gf, gl⟩ := z4.cells
  have gf0 := gf 0; have gf1 := gf 1; have gf2 := gf 2; have gf3 := gf 3; have gf4 := gf 4; have gf5 := gf 5
  obtain ⟨W5, hW5⟩ : ∃ W5, (((((((w4).setCell ⟨w.heap.size, 0, none⟩ (.slice (some ⟨g, 0, none⟩) ws.length cap)).setCell ⟨w.heap.size, 1, none⟩ (.int .i64 i4)).setCell ⟨w.heap.size, 2, none⟩ (.int .i64 d4)).setCell ⟨w.heap.size, 3, none⟩ (.int .i64 m)).setCell ⟨w.heap.size, 4, none⟩ (.int .i64 a4)).setCell ⟨w.heap.size, 5, none⟩ (.int .i64 e4')) = W5 := ⟨_, rfl⟩
  have z5 : SB W5 w.heap.size g ws.length cap i4 d4 m a4 e4' := hW5 ▸ six_done z4 (.slice (some ⟨g, 0, none⟩) ws.length cap) (.int .i64 i4) (.int .i64 d4) (.int .i64 m) (.int .i64 a4) (.int .i64 e4')
  have hO5 : Only (fun b => b = w.heap.size) w1 W5 := (HZ2.out.2.2.1.trans (Only.of_below hb24)).trans (hW5 ▸ only_six _ _ _ _ _ _ _ rfl)
  have n5 : W5.heap[w1.heap.size]? = some (.cells #[.string x.s, .slice none 0 0, .slice none 0 0] 38 (0, 0)) := hW5 ▸ (six_far (by omega) _ _ _ _ _ _).trans n4
  have HVP := Lib.hid (vals_pred (cap := cap) (m := m) HG.out HCan.out HH.out.2.2.1 HH.out.2.2.2.1 HO4.out ((HH.out.1.on HB.out.1).far hO5 HH.out.1.lt))
  obtain ⟨⟨k0, k1, k2, k3, k4, k5⟩, -, kl⟩ := z5.cells
  have HZ5 := Lib.hid (And.intro z5 (And.intro n5 hO5))
  clear z4 n4 gf z5 hO5 n5 hb24 hb4
  go_wp2_with fail
  refine HVP.out.mono ?_
  rintro e w6 ⟨i5, d5, m5, a5, e5', lA, ll, lc, rfl, hb6, hor6⟩
  have hO6 : Only (fun b => b = w.heap.size) w1 w6 := HZ5.out.2.2.trans (Only.of_below hb6)
  have z6 : SB w6 w.heap.size g ws.length cap i4 d4 m a4 e4' := HZ5.out.1.on hb6
  have n6 := (hb6.block _ (Array.getElem?_eq_some_iff.1 HZ5.out.2.1).1).trans HZ5.out.2.1
  have q46 : SB w6 (w.heap.size + 1 + 1 + 1) g ws.length cap i d m a 0 := (hO6.block _ (by omega) (by omega)).trans HB.out.2.2.2.2.1
  obtain ⟨⟨u0, u1, u2, u3, u4, u5⟩, uf, ul⟩ := z6.cells
  have uf0 := uf 0; have uf1 := uf 1; have uf2 := uf 2; have uf3 := uf 3; have uf4 := uf 4; have uf5 := uf 5
  obtain ⟨⟨v0, v1, v2⟩, ⟨vf0, vf1, vf2⟩, vl⟩ := tri_cells n6
  obtain ⟨⟨o0, o1, o2, o3, o4, o5⟩, -, ol⟩ := q46.cells
  obtain ⟨X6, hX6⟩ : ∃ X6, ((((((((w6).setCell ⟨w.heap.size, 0, none⟩ (.slice (some ⟨g, 0, none⟩) ws.length cap)).setCell ⟨w.heap.size, 1, none⟩ (.int .i64 i5)).setCell ⟨w.heap.size, 2, none⟩ (.int .i64 d5)).setCell ⟨w.heap.size, 3, none⟩ (.int .i64 m5)).setCell ⟨w.heap.size, 4, none⟩ (.int .i64 a5)).setCell ⟨w.heap.size, 5, none⟩ (.int .i64 e5'))).setCell ⟨w1.heap.size, 1, none⟩ (.slice lA ll lc) = X6 := ⟨_, rfl⟩
  have hfar6 : ∀ q, q ≠ w.heap.size → q ≠ w1.heap.size → X6.heap[q]? = w6.heap[q]? := fun q h1 h2 => by
    rw [← hX6]
    exact (Below.heap_setCell _ ⟨w1.heap.size, 1, none⟩ _ q h2).trans (six_far h1 _ _ _ _ _ _)
  have hXs : X6.heap.size = w6.heap.size := by rw [← hX6]; simp [World.setCell]
  have y6 : SB X6 w.heap.size g ws.length cap i5 d5 m5 a5 e5' := by
    rw [← hX6]
    exact (Below.heap_setCell _ ⟨w1.heap.size, 1, none⟩ _ _ (by show w.heap.size ≠ w1.heap.size; omega)).trans (six_done z6 (.slice (some ⟨g, 0, none⟩) ws.length cap) (.int .i64 i5) (.int .i64 d5) (.int .i64 m5) (.int .i64 a5) (.int .i64 e5'))
  have ny6 : X6.heap[w1.heap.size]? = some (.cells #[.string x.s, .slice lA ll lc, .slice none 0 0] 38 (0, 0)) := by
    rw [← hX6]
    have h := (six_far (w := w6) (b := w1.heap.size) (c := w.heap.size) (by omega) (.slice (some ⟨g, 0, none⟩) ws.length cap) (.int .i64 i5) (.int .i64 d5) (.int .i64 m5) (.int .i64 a5) (.int .i64 e5')).trans n6
    generalize (((((((w6).setCell ⟨w.heap.size, 0, none⟩ (.slice (some ⟨g, 0, none⟩) ws.length cap)).setCell ⟨w.heap.size, 1, none⟩ (.int .i64 i5)).setCell ⟨w.heap.size, 2, none⟩ (.int .i64 d5)).setCell ⟨w.heap.size, 3, none⟩ (.int .i64 m5)).setCell ⟨w.heap.size, 4, none⟩ (.int .i64 a5)).setCell ⟨w.heap.size, 5, none⟩ (.int .i64 e5')) = Y at h ⊢
    simp [World.setCell, Array.getElem?_modify, h]
  have q4X : SB X6 (w.heap.size + 1 + 1 + 1) g ws.length cap i d m a 0 := (hfar6 _ (by omega) (by omega)).trans q46
  obtain ⟨⟨a0, a1, a2, a3', a4', a5'⟩, af, al⟩ := y6.cells
  have af2 := af 2
  obtain ⟨⟨b0, b1, b2, b3, b4', b5⟩, -, bl⟩ := q4X.cells
  obtain ⟨W7, hW7⟩ : ∃ W7, X6.setCell ⟨w.heap.size, 2, none⟩ (.int .i64 d) = W7 := ⟨_, rfl⟩
  have y7 : SB W7 w.heap.size g ws.length cap i5 d m5 a5 e5' := by
    rw [← hW7]
    unfold SB at y6 ⊢
    simp [World.setCell, Array.getElem?_modify, y6]
  have hfar7 : ∀ q, q ≠ w.heap.size → q ≠ w1.heap.size → W7.heap[q]? = w6.heap[q]? := fun q h1 h2 => by
    rw [← hW7]
    exact (Below.heap_setCell _ ⟨w.heap.size, 2, none⟩ _ q h1).trans (hfar6 q h1 h2)
  have hWs : W7.heap.size = w6.heap.size := by rw [← hW7, ← hXs]; simp [World.setCell]
  have ny7 : W7.heap[w1.heap.size]? = some (.cells #[.string x.s, .slice lA ll lc, .slice none 0 0] 38 (0, 0)) := by
    rw [← hW7]
    exact (Below.heap_setCell _ ⟨w.heap.size, 2, none⟩ _ _ (by show w1.heap.size ≠ w.heap.size; omega)).trans ny6
  have hOW : Only (fun b => b = w.heap.size ∨ b = w1.heap.size) w6 W7 := by
    rw [← hW7, ← hX6]
    exact (((only_six (b := w.heap.size) (.slice (some ⟨g, 0, none⟩) ws.length cap) (.int .i64 i5) (.int .i64 d5) (.int .i64 m5) (.int .i64 a5) (.int .i64 e5') w6 rfl).mono (fun q _ h => .inl h)).setCell (p := ⟨w1.heap.size, 1, none⟩) (.inl (.inr rfl)) _).setCell (p := ⟨w.heap.size, 2, none⟩) (.inl (.inl rfl)) _
  have hI7 : PrdI g cap ws k i d m a x w W7 w1.heap.size := by
    obtain ⟨hbw, r1, r2, r3, r4, r5⟩ := HB.out
    have hz6 := hO6.size
    have hO7 : ∀ q, q < w1.heap.size → q ≠ w.heap.size → W7.heap[q]? = w1.heap[q]? := fun q h1 h2 => (hfar7 q h2 (by omega)).trans (hO6.block q h1 h2)
    refine ⟨r5, ⟨?_, ?_, ?_, by omega, fun q hq => (hO7 q (by omega) (by omega)).trans (hbw.block q hq)⟩, (hO7 _ (by omega) (by omega)).trans r2, (hO7 _ (by omega) (by omega)).trans r3, (hO7 _ (by omega) (by omega)).trans r4, i5, m5, a5, e5', lA, ll, lc, y7, ny7, ?_⟩
    · exact hOW.os.trans (hO6.os.trans hbw.os)
    · exact hOW.tape.trans (hO6.tape.trans hbw.tape)
    · exact hOW.output.trans (hO6.output.trans hbw.output)
    · rcases hor6 with ⟨l, s, h1, h2, h3, h4, h5, h6, h7, h8⟩ | ⟨h1, h2⟩
      · refine .inl ⟨l, s, h1, h2, h3, h4, h5, h6, h7, ?_⟩
        have hz5 := HZ5.out.2.2.size
        have hp5 := (Array.getElem?_eq_some_iff.1 HZ5.out.2.1).1
        exact LstS.keep keepS_T (fun p hp => World.cell?_of_block (hfar7 p.block (by have := hp.1; omega) (by have := hp.1; omega))) (fun b hb => ⟨by have := hb.1; omega, by have := hb.1; omega, by rw [hWs]; exact hb.2⟩) h8
      · exact .inr ⟨h1, h2⟩
  have HI7 := Lib.hid hI7
  obtain ⟨⟨c0, c1, c2', c3, c4, c5⟩, cf, cl⟩ := y7.cells
  obtain ⟨⟨h0', h1', h2'⟩, -, hl7⟩ := tri_cells ny7
  have q4W : SB W7 (w.heap.size + 1 + 1 + 1) g ws.length cap i d m a 0 := hI7.2.2.2.2.1
  obtain ⟨⟨j0, j1, j2, j3, j4, j5⟩, -, jl⟩ := q4W.cells
  have H6 : Hid ((∃ l s, rVals (gx ws) k ⟨i, m⟩ = some (l, s) ∧ e5' = 0 ∧ ll = l.length) ∨ (rVals (gx ws) k ⟨i, m⟩ = none ∧ e5' ≠ 0)) := Lib.hid (by
    rcases hor6 with ⟨l, s, h1, -, -, -, -, h6, h7, -⟩ | ⟨h1, h2⟩
    · exact .inl ⟨l, s, h1, h6, h7⟩
    · exact .inr ⟨h1, h2⟩)
  clear hOW hO6 z6 n6 q46 uf hfar6 y6 ny6 q4X af y7 hfar7 ny7 hI7 cf q4W hor6 hb6 hXs hWs
  by_cases hm : e5' = 0 ∧ 0 ≤ many ∧ (ll : Int) ≠ many
  · -- another number of values
    obtain ⟨rfl, hm0, hmn⟩ := hm
    have hmb : ((ll : Int) != many) = true := by simpa using hmn
    have HNO : Hid (rPred (gx ws) k ⟨i, m⟩ = none) := Lib.hid (by
      rw [rPred_vals HH.out.2.1 HH.out.2.2.2.2.1 HH.out.2.2.2.2.2]
      rcases H6.out with ⟨l, s, h1, -, rfl⟩ | ⟨-, h⟩
      · rw [h1]; exact if_pos ⟨hm0, hmn⟩
      · exact absurd rfl h)
    have HF := Lib.hid (fail_ok (cap := cap) (HH.out.1.on HI7.out.2.1) HH.out.2.1 d m a 120)
    clear hmn
    go_wp2_with fail
    refine HF.out.mono ?_
    rintro e w8 ⟨rfl, hb8⟩
    have q2 := (hb8.block _ (Array.getElem?_eq_some_iff.1 HI7.out.2.2.1).1).trans HI7.out.2.2.1
    have q3 := (hb8.block _ (Array.getElem?_eq_some_iff.1 HI7.out.2.2.2.1).1).trans HI7.out.2.2.2.1
    obtain ⟨⟨y0, y1, y2, y3, y4, y5⟩, ⟨f0', f1', f2', f3', f4', f5'⟩, l2⟩ := six_cells q2
    obtain ⟨⟨n0, n1, n2⟩, ⟨n0', n1', n2'⟩, l3⟩ := tri_cells q3
    have HB8 := Lib.hid (HI7.out.2.1.trans (hb8.mono HI7.out.2.1.size))
    clear hb8
    go_wp2_with fail
    obtain ⟨rr, rs⟩ := two_nine q2 q3 (by omega) (.slice (some ⟨g, 0, none⟩) ws.length cap) (.int .i64 i) (.int .i64 d) (.int .i64 m) (.int .i64 (x.at_ : Nat)) (.int .i64 120) (.string ⟨#[]⟩) (.slice none 0 0) (.slice none 0 0)
    obtain ⟨⟨r0, r1, r2, r3, r4, r5⟩, -, -⟩ := six_cells rr
    obtain ⟨⟨s0, s1, s2⟩, -, -⟩ := tri_cells rs
    refine bodyPost_ret (v := .tuple #[StV g ws.length cap i d m (x.at_ : Nat) 120, .agg #[.string ⟨#[]⟩, .slice none 0 0, .slice none 0 0]]) (by simp [results, Tryd.results66, go_sem, r0, r1, r2, r3, r4, r5, s0, s1, s2]) rfl ?_
    exact ⟨_, _, _, _, _, _, _, _, _, _, _, _, rfl, by
      repeat (with_reducible first | exact HB8.out | refine Below.setCell ?_ (by simp <;> omega) _ | refine Below.drew ?_), .inr ⟨HNO.out, by decide⟩⟩
  · have HL : Hid (PrdL g cap ws k i d m a w W7 w1.heap.size 14) := Lib.hid (HI7.out.loop HH.out.2.1 HH.out.2.2.2.2.1 HH.out.2.2.2.2.2 HH.out.2.2.2.1 (fun l s h1 h2 => by
      rcases H6.out with ⟨l', s', h3, h4, h5⟩ | ⟨h3, -⟩
      · rw [h1] at h3
        injection h3 with h3
        injection h3 with h6 h7
        subst h6
        exact hm ⟨h4, h2.1, by rw [h5]; exact h2.2⟩
      · rw [h1] at h3; cases h3))
    go_upto_region 12 with fail
    go_cut [83] from 70 to 83 (fun v wx => v = .bool false ∧ wx = W7)
    case first =>
      by_cases h0 : e5' = 0
      · subst h0
        by_cases h1 : 0 ≤ many
        · have h2 : ((ll : Int) != many) = false := by
            rw [bne_eq_false_iff_eq]
            exact Classical.not_not.1 (fun h => hm ⟨rfl, h1, h⟩)
          clear hm
          go_wp2_with fail
          go_meet
          exact ⟨rfl, rfl⟩
        · clear hm
          go_wp2_with fail
          go_meet
          exact ⟨rfl, rfl⟩
      · have h2 : (e5' == 0) = false := by simpa using h0
        clear hm
        go_wp2_with fail
        go_meet
        exact ⟨rfl, rfl⟩
    case rest =>
      obtain ⟨rfl, rfl⟩ := hcut
      clear hm
      go_wp2_with fail
      go_loopg [9] 14 (fun gg v wr => v = v ∧ Hid (PrdL g cap ws k i d m a w wr w1.heap.size gg))
      case atStart => exact ⟨rfl, HL⟩
      case round =>
        obtain ⟨-, HL1⟩ := hrel
        obtain ⟨r1, r2, r3, r4, r5, i6, d6, m6, a6, e6, op, lA6, ll6, lc6, kA6, kl6, kc6, zs, zp, hor⟩ := HL1.out
        obtain ⟨⟨a0, a1, a2, a3'', a4'', a5''⟩, af, al⟩ := zs.cells
        have af0 := af 0; have af1 := af 1; have af2 := af 2; have af3 := af 3; have af4 := af 4; have af5 := af 5
        obtain ⟨⟨b0', b1', b2'⟩, ⟨bf0, bf1, bf2⟩, bl'⟩ := tri_cells zp
        -- is there a point?
        obtain ⟨z, hz, hcis⟩ : ∃ z, ((z = true ∧ e6 = 0 ∧ ∃ y, ws[i6.toNat]? = some y ∧ isSgn y 46 = true) ∨ (z = false ∧ (e6 = 0 → ∃ y, ws[i6.toNat]? = some y ∧ isSgn y 46 = false))) ∧ Calls Tryd.prog 45 #[StV g ws.length cap i6 d6 m6 a6 e6, .string ⟨#[46]⟩] wr fun e w' => e = .returned (.bool z) ∧ Below wr.heap.size wr w' := by
          rcases hor with ⟨rfl, p, s, kj, dj, rfl, hsi, rfl, -, -, -, rfl, rfl, -, -⟩ | ⟨he, -⟩
          · obtain ⟨y, hy⟩ : ∃ y, ws[s.i]? = some y := ⟨_, List.getElem?_eq_getElem hsi⟩
            have hc := is_ok (cap := cap) (HH.out.1.on r2) hy dj s.n a6 46
            cases h : isSgn y 46
            · rw [h] at hc; exact ⟨false, .inr ⟨rfl, fun _ => ⟨y, hy, h⟩⟩, hc⟩
            · rw [h] at hc; exact ⟨true, .inl ⟨rfl, rfl, y, hy, h⟩, hc⟩
          · exact ⟨false, .inr ⟨rfl, fun h => absurd h he⟩, is_er g ws.length cap i6 d6 m6 a6 e6 he _ wr⟩
        have HIs := Lib.hid hcis
        have HR := Lib.hid (And.intro r1 (And.intro r2 (And.intro r3 (And.intro r4 (And.intro r5 (And.intro zs (And.intro zp hor)))))))
        clear r1 r2 r3 r4 r5 zs zp hor hcis af
        rcases hz with ⟨rfl, rfl, y, hy, h46⟩ | ⟨rfl, h46⟩
        rotate_left
        · -- none: the end
          have HN46 := Lib.hid h46
          clear h46
          go_wp2_with fail
          refine HIs.out.mono ?_
          rintro e w5 ⟨rfl, hb5⟩
          obtain ⟨r1, r2, r3, r4, r5, zs, zp, hor⟩ := HR.out
          have zs' := zs.on hb5
          have r3' := (hb5.block _ (Array.getElem?_eq_some_iff.1 r3).1).trans r3
          have r4' := (hb5.block _ (Array.getElem?_eq_some_iff.1 r4).1).trans r4
          have r5' := r5.on hb5
          have zp' := (hb5.block _ (Array.getElem?_eq_some_iff.1 zp).1).trans zp
          have hbw := r2.trans (hb5.mono r2.size)
          obtain ⟨⟨a0', a1', a2', a3x, a4x, a5x⟩, afx, alx⟩ := zs'.cells
          have afx2 := afx 2
          have HB5 := Lib.hid hb5
          clear hor afx
          obtain ⟨⟨m0', m1', m2', m3', m4', m5'⟩, -, ml⟩ := SB.cells r5'
          obtain ⟨W8, hW8⟩ : ∃ W8, (w5).setCell ⟨w.heap.size, 2, none⟩ (.int .i64 d) = W8 := ⟨_, rfl⟩
          have z8 : SB W8 w.heap.size g ws.length cap i6 d m6 a6 e6 := by
            have h := zs'
            rw [← hW8]
            unfold SB at h ⊢
            simp [World.setCell, Array.getElem?_modify, h]
          have far8 : ∀ q, q ≠ w.heap.size → W8.heap[q]? = (w5).heap[q]? := fun q h1 => by
            rw [← hW8]
            exact Below.heap_setCell _ ⟨w.heap.size, 2, none⟩ _ q h1
          have s8 : W8.heap.size = (w5).heap.size := by rw [← hW8]; simp [World.setCell]
          have b8 : Below w.heap.size w W8 := by rw [← hW8]; exact (hbw).setCell (p := ⟨w.heap.size, 2, none⟩) (Nat.le_refl _) _
          have r38 := (far8 (w.heap.size + 1) (by omega)).trans r3'
          have r48 := (far8 (w.heap.size + 1 + 1) (by omega)).trans r4'
          have zp8 := (far8 w1.heap.size (by omega)).trans zp'
          obtain ⟨⟨x0', x1', x2'', x3', x4', x5'⟩, -, lx⟩ := z8.cells
          obtain ⟨⟨v0', v1', v2'⟩, -, lv8⟩ := tri_cells zp8
          obtain ⟨⟨y0, y1, y2, y3, y4, y5⟩, ⟨yf0, yf1, yf2, yf3, yf4, yf5⟩, ly⟩ := six_cells r38
          obtain ⟨⟨n0, n1, n2⟩, ⟨nf0, nf1, nf2⟩, ln⟩ := tri_cells r48
          obtain ⟨rr, rs⟩ := two_nine r38 r48 (by omega) (.slice (some ⟨g, 0, none⟩) ws.length cap) (.int .i64 i6) (.int .i64 d) (.int .i64 m6) (.int .i64 a6) (.int .i64 e6) (.string op) (.slice lA6 ll6 lc6) (.slice kA6 kl6 kc6)
          obtain ⟨FF, hFF⟩ : ∃ FF, ((((((((((W8).setCell ⟨w.heap.size + 1, 0, none⟩ (.slice (some ⟨g, 0, none⟩) ws.length cap)).setCell ⟨w.heap.size + 1, 1, none⟩ (.int .i64 i6)).setCell ⟨w.heap.size + 1, 2, none⟩ (.int .i64 d)).setCell ⟨w.heap.size + 1, 3, none⟩ (.int .i64 m6)).setCell ⟨w.heap.size + 1, 4, none⟩ (.int .i64 a6)).setCell ⟨w.heap.size + 1, 5, none⟩ (.int .i64 e6)).setCell ⟨w.heap.size + 1 + 1, 0, none⟩ (.string op)).setCell ⟨w.heap.size + 1 + 1, 1, none⟩ (.slice lA6 ll6 lc6)).setCell ⟨w.heap.size + 1 + 1, 2, none⟩ (.slice kA6 kl6 kc6)) = FF := ⟨_, rfl⟩
          rw [hFF] at rr rs
          have hFs : FF.heap.size = W8.heap.size := by rw [← hFF]; simp [World.setCell]
          have hFk : ∀ q, w.heap.size + 1 + 1 < q → FF.heap[q]? = W8.heap[q]? := fun q h1 => by
            rw [← hFF]
            exact (tri_far (by omega) _ _ _).trans (six_far (by omega) _ _ _ _ _ _)
          have hFb : Below w.heap.size w FF := by
            rw [← hFF]
            repeat (with_reducible first | exact b8 | refine Below.setCell ?_ (by simp <;> omega) _)
          obtain ⟨⟨q0', q1', q2', q3', q4', q5'⟩, -, -⟩ := six_cells rr
          obtain ⟨⟨s0', s1', s2'⟩, -, -⟩ := tri_cells rs
          have HEnd : Hid (Below w.heap.size w FF.drew ∧ ∀ q, w.heap.size + 4 ≤ q → FF.drew.heap[q]? = (w5).heap[q]?) := Lib.hid ⟨hFb.drew, fun q h => (hFk q (by omega)).trans (far8 q (by omega))⟩
          have HEs : Hid (FF.drew.heap.size = (w5).heap.size) := Lib.hid (hFs.trans s8)
          clear z8 far8 s8 b8 r38 r48 zp8 rr rs hFs hFk hFb
          go_wp2_with fail
          go_region
          go_wp2_with fail
          refine bodyPost_ret (v := .tuple #[StV g ws.length cap i6 d m6 a6 e6, .agg #[.string op, .slice lA6 ll6 lc6, .slice kA6 kl6 kc6]]) (by simp [results, Tryd.results66, go_sem, q0', q1', q2', q3', q4', q5', s0', s1', s2']) rfl ?_
          refine ⟨_, _, _, _, _, _, _, _, _, _, _, _, rfl, HEnd.out.1, ?_⟩
          obtain ⟨-, -, -, -, -, -, -, hor⟩ := HR.out
          rcases hor with ⟨rfl, p, s, kj, dj, rfl, hsi, rfl, hdk, hkj, hgg, rfl, rfl, hrd, hrj⟩ | ⟨he, hno⟩
          · refine .inl ⟨p, s, ?_, rfl, hsi, rfl, rfl, rfl, rfl, ?_⟩
            · obtain ⟨y, hy, h⟩ := HN46.out rfl
              rw [Int.toNat_natCast] at hy
              rw [hrj]
              have h2 : isSgn (gx ws s.i) 46 = false := by rw [gx_of hy]; exact h
              cases kj with
              | zero => rw [rJoin, if_pos h2]
              | succ q => rw [rJoin, if_pos h2]
            · exact keepS_Pd _ _ _ _ _ _ (fun q hq => World.cell?_of_block ((HEnd.out.2 q.block hq.1).trans (HB5.out.block _ hq.2.2))) (fun b hb => ⟨by have := hb.1; omega, by rw [HEs.out]; exact Nat.lt_of_lt_of_le hb.2.2 HB5.out.size⟩) hrd
          · exact .inr ⟨hno, he⟩
        · -- a point
          obtain ⟨p, s, kj, dj, rfl, hsi, rfl, hdkj, hkj, hgg, rfl, rfl, hrd, hrj⟩ : ∃ (p : Pd) (s : Ps) (kj dj : Nat), i6 = (s.i : Nat) ∧ s.i < ws.length ∧ d6 = (dj : Nat) ∧ dj + kj = 12 ∧ kj ≤ k ∧ kj + 1 ≤ gk ∧ m6 = (s.n : Nat) ∧ a6 = a ∧ RdP wr (fun b => w.heap.size + 4 ≤ b ∧ b ≠ w1.heap.size ∧ b < wr.heap.size) p (.agg #[.string op, .slice lA6 ll6 lc6, .slice kA6 kl6 kc6]) ∧ rPred (gx ws) k ⟨i, m⟩ = rJoin (gx ws) kj p s := by
            rcases HR.out.2.2.2.2.2.2.2 with ⟨-, h⟩ | ⟨h, -⟩
            · exact h
            · exact absurd rfl h
          rw [Int.toNat_natCast] at hy
          obtain ⟨y1w, hy1⟩ := HG.out.next hy (by
            unfold isSgn at h46
            rw [Bool.and_eq_true, decide_eq_true_iff] at h46
            rw [h46.1]; decide)
          have hsw : wrap64 ((s.i : Int) + 1) = ((s.i + 1 : Nat) : Int) := by
            have := HG.out.few
            rw [wrap64_id (is64_iff.2 (by omega))]; omega
          have HJ := Lib.hid (And.intro hy (And.intro h46 (And.intro hy1 (And.intro hdkj (And.intro hkj (And.intro hgg (And.intro hrd hrj)))))))
          clear hy h46 hy1 hdkj hkj hgg hrd hrj hsi
          go_wp2_with fail
          refine HIs.out.mono ?_
          rintro e w5 ⟨rfl, hb5⟩
          have zs5 := HR.out.2.2.2.2.2.1.on hb5
          have hO5 := Only.of_below (ok := fun b => b = w.heap.size) hb5
          obtain ⟨⟨a0', a1', a2', a3x, a4x, a5x⟩, afx, alx⟩ := zs5.cells
          have afx1 := afx 1
          obtain ⟨W6, hW6⟩ : ∃ W6, w5.setCell ⟨w.heap.size, 1, none⟩ (.int .i64 ((s.i : Int) + 1)) = W6 := ⟨_, rfl⟩
          have zs6 : SB W6 w.heap.size g ws.length cap ((s.i : Int) + 1) dj s.n a6 0 := by
            have h := zs5
            rw [← hW6]
            unfold SB at h ⊢
            simp [World.setCell, Array.getElem?_modify, h]
          have hO6 : Only (fun b => b = w.heap.size) wr W6 := by rw [← hW6]; exact hO5.setCell (p := ⟨w.heap.size, 1, none⟩) (.inl rfl) _
          have hwd6 : WdsAt W6 g ws := (HH.out.1.on HR.out.2.1).far hO6 HH.out.1.lt
          obtain ⟨d4, a4, e4'', hor4', hin6⟩ := into_any (cap := cap) hwd6 HJ.out.2.2.1 s.n a6 HJ.out.2.2.2.1
          rw [show ((s.i + 1 : Nat) : Int) = (s.i : Int) + 1 from rfl] at hin6
          have HIN6 := Lib.hid hin6
          have HZ6 := Lib.hid (And.intro zs6 (And.intro hO6 (And.intro hwd6 hor4')))
          obtain ⟨⟨g0', g1', g2', g3', g4', g5'⟩, -, gl'⟩ := zs6.cells
          clear zs5 hO5 afx zs6 hO6 hwd6 hor4' hin6 hb5
          go_wp2_with fail
          refine HIN6.out.mono ?_
          rintro e w7 ⟨rfl, hb7⟩
          have zs7 := HZ6.out.1.on hb7
          obtain ⟨⟨k0', k1', k2', k3', k4', k5'⟩, kf', kl'⟩ := zs7.cells
          have kf0 := kf' 0; have kf1 := kf' 1; have kf2 := kf' 2; have kf3 := kf' 3; have kf4 := kf' 4; have kf5 := kf' 5
          have hO7 := HZ6.out.2.1.trans (Only.of_below hb7)
          obtain ⟨W9, hW9⟩ : ∃ W9, ((((((((w7).setCell ⟨w.heap.size, 0, none⟩ (.slice (some ⟨g, 0, none⟩) ws.length cap)).setCell ⟨w.heap.size, 1, none⟩ (.int .i64 ((s.i : Int) + 1))).setCell ⟨w.heap.size, 2, none⟩ (.int .i64 d4)).setCell ⟨w.heap.size, 3, none⟩ (.int .i64 s.n)).setCell ⟨w.heap.size, 4, none⟩ (.int .i64 a4)).setCell ⟨w.heap.size, 5, none⟩ (.int .i64 e4''))).alloc (.cells #[.slice (some ⟨g, 0, none⟩) ws.length cap, .int .i64 ((s.i : Int) + 1), .int .i64 d4, .int .i64 s.n, .int .i64 a4, .int .i64 e4''] 63) = W9 := ⟨_, rfl⟩
          have zs9 : SB W9 w.heap.size g ws.length cap ((s.i : Int) + 1) d4 s.n a4 e4'' := by rw [← hW9]; exact keepA (six_done zs7 (.slice (some ⟨g, 0, none⟩) ws.length cap) (.int .i64 ((s.i : Int) + 1)) (.int .i64 d4) (.int .i64 s.n) (.int .i64 a4) (.int .i64 e4'')) _
          have zat : SB W9 w7.heap.size g ws.length cap ((s.i : Int) + 1) d4 s.n a4 e4'' := by
            have h := heap_alloc_new ((((((((w7).setCell ⟨w.heap.size, 0, none⟩ (.slice (some ⟨g, 0, none⟩) ws.length cap)).setCell ⟨w.heap.size, 1, none⟩ (.int .i64 ((s.i : Int) + 1))).setCell ⟨w.heap.size, 2, none⟩ (.int .i64 d4)).setCell ⟨w.heap.size, 3, none⟩ (.int .i64 s.n)).setCell ⟨w.heap.size, 4, none⟩ (.int .i64 a4)).setCell ⟨w.heap.size, 5, none⟩ (.int .i64 e4''))) (.cells #[.slice (some ⟨g, 0, none⟩) ws.length cap, .int .i64 ((s.i : Int) + 1), .int .i64 d4, .int .i64 s.n, .int .i64 a4, .int .i64 e4''] 63)
            rw [hW9] at h
            simp only [World.size_setCell] at h
            exact h
          have hO9 : Only (fun b => b = w.heap.size) wr W9 := by rw [← hW9]; exact (hO7.trans (only_six (.slice (some ⟨g, 0, none⟩) ws.length cap) (.int .i64 ((s.i : Int) + 1)) (.int .i64 d4) (.int .i64 s.n) (.int .i64 a4) (.int .i64 e4'') w7 rfl)).alloc _
          have hwr4 : w.heap.size + 4 ≤ wr.heap.size := by have := (Array.getElem?_eq_some_iff.1 HR.out.2.2.2.2.2.2.1).1; have := HR.out.1; omega
          have hwr7 : wr.heap.size ≤ w7.heap.size := hO7.size
          have hpp := (Array.getElem?_eq_some_iff.1 HR.out.2.2.2.2.2.2.1).1
          have r39 := (hO9.block (w.heap.size + 1) (by omega) (by omega)).trans HR.out.2.2.1
          have r49 := (hO9.block (w.heap.size + 1 + 1) (by omega) (by omega)).trans HR.out.2.2.2.1
          have r59 : SB W9 (w.heap.size + 1 + 1 + 1) g ws.length cap i d m a6 0 := (hO9.block (w.heap.size + 1 + 1 + 1) (by omega) (by omega)).trans HR.out.2.2.2.2.1
          have zp9 := (hO9.block w1.heap.size hpp (by have := HR.out.1; omega)).trans HR.out.2.2.2.2.2.2.1
          have hb9 : Below w.heap.size w W9 := HR.out.2.1.trans (hO9.below HR.out.2.1.size (fun b hb => by omega))
          have H9 := Lib.hid (And.intro zs9 (And.intro zat (And.intro hO9 (And.intro r39 (And.intro r49 (And.intro r59 (And.intro zp9 hb9)))))))
          obtain ⟨⟨t0', t1', t2', t3', t4', t5'⟩, tf', tl'⟩ := zs9.cells
          have tf0 := tf' 0; have tf1 := tf' 1; have tf2 := tf' 2; have tf3 := tf' 3; have tf4 := tf' 4; have tf5 := tf' 5
          obtain ⟨⟨ta0, ta1, ta2, ta3, ta4, ta5⟩, -, tal⟩ := zat.cells
          clear zs7 kf' hO7 zs9 zat hO9 r39 r49 r59 zp9 hb9 hb7 tf'
          rcases HZ6.out.2.2.2 with ⟨hk0, he4⟩ | ⟨hk0, hd4, rfl, rfl⟩
          · -- too deep
            have h1 : (e4'' == 0) = false := by simpa using he4
            have h2 : (e4'' != 0) = true := by simpa using he4
            have HNO : Hid (rPred (gx ws) k ⟨i, m⟩ = none ∧ e4'' ≠ 0) := Lib.hid ⟨by
              rw [HJ.out.2.2.2.2.2.2.2, hk0, rJoin, if_neg (by rw [gx_of HJ.out.1]; show ¬ isSgn y 46 = false; rw [HJ.out.2.1]; decide)], he4⟩
            clear he4
            obtain ⟨⟨m0', m1', m2', m3', m4', m5'⟩, -, ml⟩ := SB.cells H9.out.2.2.2.2.2.1
            obtain ⟨W8, hW8⟩ : ∃ W8, (W9).setCell ⟨w.heap.size, 2, none⟩ (.int .i64 d) = W8 := ⟨_, rfl⟩
            have z8 : SB W8 w.heap.size g ws.length cap ((s.i : Int) + 1) d s.n a4 e4'' := by
              have h := H9.out.1
              rw [← hW8]
              unfold SB at h ⊢
              simp [World.setCell, Array.getElem?_modify, h]
            have far8 : ∀ q, q ≠ w.heap.size → W8.heap[q]? = (W9).heap[q]? := fun q h1 => by
              rw [← hW8]
              exact Below.heap_setCell _ ⟨w.heap.size, 2, none⟩ _ q h1
            have s8 : W8.heap.size = (W9).heap.size := by rw [← hW8]; simp [World.setCell]
            have b8 : Below w.heap.size w W8 := by rw [← hW8]; exact (H9.out.2.2.2.2.2.2.2).setCell (p := ⟨w.heap.size, 2, none⟩) (Nat.le_refl _) _
            have r38 := (far8 (w.heap.size + 1) (by omega)).trans H9.out.2.2.2.1
            have r48 := (far8 (w.heap.size + 1 + 1) (by omega)).trans H9.out.2.2.2.2.1
            have zp8 := (far8 w1.heap.size (by omega)).trans H9.out.2.2.2.2.2.2.1
            obtain ⟨⟨x0', x1', x2'', x3', x4', x5'⟩, -, lx⟩ := z8.cells
            obtain ⟨⟨v0', v1', v2'⟩, -, lv8⟩ := tri_cells zp8
            obtain ⟨⟨y0, y1, y2, y3, y4, y5⟩, ⟨yf0, yf1, yf2, yf3, yf4, yf5⟩, ly⟩ := six_cells r38
            obtain ⟨⟨n0, n1, n2⟩, ⟨nf0, nf1, nf2⟩, ln⟩ := tri_cells r48
            obtain ⟨rr, rs⟩ := two_nine r38 r48 (by omega) (.slice (some ⟨g, 0, none⟩) ws.length cap) (.int .i64 ((s.i : Int) + 1)) (.int .i64 d) (.int .i64 s.n) (.int .i64 a4) (.int .i64 e4'') (.string op) (.slice lA6 ll6 lc6) (.slice kA6 kl6 kc6)
            obtain ⟨FF, hFF⟩ : ∃ FF, ((((((((((W8).setCell ⟨w.heap.size + 1, 0, none⟩ (.slice (some ⟨g, 0, none⟩) ws.length cap)).setCell ⟨w.heap.size + 1, 1, none⟩ (.int .i64 ((s.i : Int) + 1))).setCell ⟨w.heap.size + 1, 2, none⟩ (.int .i64 d)).setCell ⟨w.heap.size + 1, 3, none⟩ (.int .i64 s.n)).setCell ⟨w.heap.size + 1, 4, none⟩ (.int .i64 a4)).setCell ⟨w.heap.size + 1, 5, none⟩ (.int .i64 e4'')).setCell ⟨w.heap.size + 1 + 1, 0, none⟩ (.string op)).setCell ⟨w.heap.size + 1 + 1, 1, none⟩ (.slice lA6 ll6 lc6)).setCell ⟨w.heap.size + 1 + 1, 2, none⟩ (.slice kA6 kl6 kc6)) = FF := ⟨_, rfl⟩
            rw [hFF] at rr rs
            have hFs : FF.heap.size = W8.heap.size := by rw [← hFF]; simp [World.setCell]
            have hFk : ∀ q, w.heap.size + 1 + 1 < q → FF.heap[q]? = W8.heap[q]? := fun q h1 => by
              rw [← hFF]
              exact (tri_far (by omega) _ _ _).trans (six_far (by omega) _ _ _ _ _ _)
            have hFb : Below w.heap.size w FF := by
              rw [← hFF]
              repeat (with_reducible first | exact b8 | refine Below.setCell ?_ (by simp <;> omega) _)
            obtain ⟨⟨q0', q1', q2', q3', q4', q5'⟩, -, -⟩ := six_cells rr
            obtain ⟨⟨s0', s1', s2'⟩, -, -⟩ := tri_cells rs
            have HEnd : Hid (Below w.heap.size w FF.drew ∧ ∀ q, w.heap.size + 4 ≤ q → FF.drew.heap[q]? = (W9).heap[q]?) := Lib.hid ⟨hFb.drew, fun q h => (hFk q (by omega)).trans (far8 q (by omega))⟩
            have HEs : Hid (FF.drew.heap.size = (W9).heap.size) := Lib.hid (hFs.trans s8)
            clear z8 far8 s8 b8 r38 r48 zp8 rr rs hFs hFk hFb
            go_wp2_with fail
            go_region
            go_wp2_with fail
            refine bodyPost_ret (v := .tuple #[StV g ws.length cap ((s.i : Int) + 1) d s.n a4 e4'', .agg #[.string op, .slice lA6 ll6 lc6, .slice kA6 kl6 kc6]]) (by simp [results, Tryd.results66, go_sem, q0', q1', q2', q3', q4', q5', s0', s1', s2']) rfl ?_
            exact ⟨_, _, _, _, _, _, _, _, _, _, _, _, rfl, HEnd.out.1, .inr HNO.out⟩
          · -- deep enough
            have HD4 := Lib.hid (And.intro hk0 hd4)
            clear hk0 hd4
            have hgy1 := gx_of HJ.out.2.2.1
            obtain ⟨w10, w11x, w12x, -, -, hy1l⟩ := (HH.out.1.on H9.out.2.2.2.2.2.2.2).word HJ.out.2.2.1
            have hy1l' : ((s.i : Int) + 1) < (ws.length : Int) := by omega
            have hgW9 : g < W9.heap.size := (HH.out.1.on H9.out.2.2.2.2.2.2.2).lt
            have e10 : W9.cell? ⟨g, (s.i + 1) * 5, none⟩ = some (.int .i64 y1w.k) := w10
            have hnat : ((s.i : Int) + 1).toNat = s.i + 1 := by omega
            by_cases hk1 : y1w.k = 1
            · -- a name
              obtain ⟨y2w, hy2⟩ := HG.out.next HJ.out.2.2.1 (by rw [hk1]; decide)
              have hsw2 : wrap64 ((s.i : Int) + 1 + 1) = (s.i : Int) + 1 + 1 := by
                have := HG.out.few
                rw [wrap64_id (is64_iff.2 (by omega))]
              have d1 : (y1w.k == 1) = true := by simpa using hk1
              have d2 : (y1w.k != 1) = false := by simpa using hk1
              have e11 : W9.cell? ⟨g, (s.i + 1) * 5 + 1, none⟩ = some (.string y1w.s) := w11x
              have hwd9 := HH.out.1.on H9.out.2.2.2.2.2.2.2
              obtain ⟨W10, hW10⟩ : ∃ W10, W9.setCell ⟨w.heap.size, 1, none⟩ (.int .i64 ((s.i : Int) + 1 + 1)) = W10 := ⟨_, rfl⟩
              have zs10 : SB W10 w.heap.size g ws.length cap ((s.i : Int) + 1 + 1) d4 s.n a4 0 := by
                have h := H9.out.1
                rw [← hW10]
                unfold SB at h ⊢
                simp [World.setCell, Array.getElem?_modify, h]
              have hO10 : Only (fun b => b = w.heap.size) W9 W10 := by rw [← hW10]; exact (Only.refl (fun b => b = w.heap.size) W9).setCell (p := ⟨w.heap.size, 1, none⟩) (.inl rfl) _
              obtain ⟨i7, a7, e7, hor7, hsg7⟩ : ∃ i7 a7 e7 : Int, ((isSgn y2w 40 = true ∧ i7 = (s.i : Int) + 1 + 1 + 1 ∧ a7 = a4 ∧ e7 = 0) ∨ (isSgn y2w 40 = false ∧ e7 ≠ 0)) ∧ Calls Tryd.prog 27 #[StV g ws.length cap ((s.i : Int) + 1 + 1) d4 s.n a4 0, .string ⟨#[40]⟩] W10 fun z w' => z = .returned (StV g ws.length cap i7 d4 s.n a7 e7) ∧ Below W10.heap.size W10 w' := by
                cases h : isSgn y2w 40
                · exact ⟨_, _, _, .inr ⟨rfl, by decide⟩, sign_no (hwd9.far hO10 HH.out.1.lt) hy2 d4 s.n a4 40 h⟩
                · exact ⟨_, _, _, .inl ⟨rfl, rfl, rfl, rfl⟩, sign_yes (hwd9.far hO10 HH.out.1.lt) hy2 HG.out.few d4 s.n a4 40 h⟩
              have HSG7 := Lib.hid hsg7
              have H10 := Lib.hid (And.intro zs10 (And.intro hO10 (And.intro hor7 (And.intro hk1 hy2))))
              have HW9 := Lib.hid hW9
              obtain ⟨⟨tz0, tz1, tz2, tz3, tz4, tz5⟩, -, tzl⟩ := zs10.cells
              have HSW2 := Lib.hid hsw2
              clear hgy1 hW9 zs10 hO10 hor7 hsg7 hwd9 hy2 hk1 w10 w11x w12x hsw2
              go_upto_region 18 with fail
              rw [HW9.out]
              go_upto_region 22 with fail
              have hsw2 := HSW2.out
              go_wp2_with fail
              clear hsw2
              refine HSG7.out.mono ?_
              rintro e w14 ⟨rfl, hb14⟩
              have zs14 := H10.out.1.on hb14
              obtain ⟨⟨cx0, cx1, cx2, cx3, cx4, cx5⟩, cxf, cxl⟩ := zs14.cells
              have cxf0 := cxf 0; have cxf1 := cxf 1; have cxf2 := cxf 2; have cxf3 := cxf 3; have cxf4 := cxf 4; have cxf5 := cxf 5
              obtain ⟨W15, hW15⟩ : ∃ W15, (((((((w14).setCell ⟨w.heap.size, 0, none⟩ (.slice (some ⟨g, 0, none⟩) ws.length cap)).setCell ⟨w.heap.size, 1, none⟩ (.int .i64 i7)).setCell ⟨w.heap.size, 2, none⟩ (.int .i64 d4)).setCell ⟨w.heap.size, 3, none⟩ (.int .i64 s.n)).setCell ⟨w.heap.size, 4, none⟩ (.int .i64 a7)).setCell ⟨w.heap.size, 5, none⟩ (.int .i64 e7)) = W15 := ⟨_, rfl⟩
              have zs15 : SB W15 w.heap.size g ws.length cap i7 d4 s.n a7 e7 := by rw [← hW15]; exact six_done zs14 (.slice (some ⟨g, 0, none⟩) ws.length cap) (.int .i64 i7) (.int .i64 d4) (.int .i64 s.n) (.int .i64 a7) (.int .i64 e7)
              have hO15 : Only (fun b => b = w.heap.size) W9 W15 := by rw [← hW15]; exact (H10.out.2.1.trans (Only.of_below hb14)).trans (only_six (.slice (some ⟨g, 0, none⟩) ws.length cap) (.int .i64 i7) (.int .i64 d4) (.int .i64 s.n) (.int .i64 a7) (.int .i64 e7) w14 rfl)
              have H15 := Lib.hid (And.intro zs15 hO15)
              clear zs14 cxf zs15 hO15 hb14
              go_upto_block 2 with fail
              go_cut [8] from 133 to 158 (fun v wx => v = .pointer (some ⟨w7.heap.size, 0, none⟩) ∧ PrdS g cap ws k i d m a4 w wx w1.heap.size (kj - 1))
              case first =>
                obtain ⟨zs15, hO15⟩ := H15.out
                obtain ⟨⟨ax0, ax1, ax2, ax3, ax4, ax5⟩, axf, axl⟩ := zs15.cells
                have axf0 := axf 0; have axf1 := axf 1; have axf2 := axf 2; have axf3 := axf 3; have axf4 := axf 4; have axf5 := axf 5
                have HOr15 : Hid (Only (fun b => b = w.heap.size) wr W15) := Lib.hid (H9.out.2.2.1.trans hO15)
                obtain ⟨zA, hA⟩ : ∃ z, (y1w.s.toList == [97, 110, 100]) = z := ⟨_, rfl⟩
                obtain ⟨zO, hOo⟩ : ∃ z, (y1w.s.toList == [111, 114]) = z := ⟨_, rfl⟩
                obtain ⟨zN, hN⟩ : ∃ z, (y1w.s.toList == [110, 101, 103, 97, 116, 101]) = z := ⟨_, rfl⟩
                have HZS := Lib.hid zs15
                clear zs15 hO15 axf
                rcases H10.out.2.2.1 with ⟨h40, hi7, ha7, he7⟩ | ⟨h40, he7⟩
                · subst he7
                  have HI7 := Lib.hid (And.intro hi7 ha7)
                  have HL3 : Hid ((y1w.s.toList == [97, 110, 100]) = isL (gx ws (s.i + 1)) txAnd ∧ (y1w.s.toList == [111, 114]) = isL (gx ws (s.i + 1)) txOr ∧ (y1w.s.toList == [110, 101, 103, 97, 116, 101]) = isL (gx ws (s.i + 1)) txNeg) := Lib.hid (by
                    rw [gx_of HJ.out.2.2.1]
                    exact ⟨isL_of2 y1w txAnd, isL_of2 y1w txOr, isL_of2 y1w txNeg⟩)
                  have hzat : SB W15 w7.heap.size g ws.length cap ((s.i : Int) + 1) d4 s.n a4 0 := (H15.out.2.block _ H9.out.2.1.cells.2.2 (by omega)).trans H9.out.2.1
                  obtain ⟨⟨at0, at1, at2, at3, at4, at5⟩, -, atl⟩ := hzat.cells
                  have HK3 := Lib.hid (And.intro hA (And.intro hOo hN))
                  have HZat := Lib.hid hzat
                  clear hi7 ha7 hzat
                  have HF0 := fail_ok (cap := cap) (((HH.out.1.on HR.out.2.1).far HOr15.out HH.out.1.lt)) HJ.out.2.2.1 d4 s.n a4 120
                  rw [show ((s.i + 1 : Nat) : Int) = (s.i : Int) + 1 from rfl] at HF0
                  have HF := Lib.hid HF0
                  clear HF0
                  cases zA <;> cases zO <;> cases zN
                  · -- another word
                    have HNO : Hid (rPred (gx ws) k ⟨i, m⟩ = none) := Lib.hid (by
                      obtain ⟨q, rfl⟩ : ∃ q, kj = q + 1 := ⟨kj - 1, by have := HD4.out.1; omega⟩
                      have hy2 := H10.out.2.2.2.2
                      have e1 := HL3.out.1.symm.trans HK3.out.1
                      have e2 := HL3.out.2.1.symm.trans HK3.out.2.1
                      have e3 := HL3.out.2.2.symm.trans HK3.out.2.2
                      rw [HJ.out.2.2.2.2.2.2.2, rJoin, if_neg (by rw [gx_of HJ.out.1]; show ¬ isSgn y 46 = false; rw [HJ.out.2.1]; decide), if_neg (by rw [gx_of HJ.out.2.2.1]; show ¬ y1w.k ≠ 1; rw [H10.out.2.2.2.1]; decide), if_neg (by rw [gx_of hy2]; show ¬ isSgn y2w 40 = false; rw [h40]; decide), if_neg (by rw [e1, e2]; decide), if_neg (by rw [e3]; decide)])
                    clear h40
                    go_wp2_with fail
                    refine HF.out.mono ?_
                    rintro e w16 ⟨rfl, hb16⟩
                    have zs16 := HZS.out.on hb16
                    obtain ⟨⟨ox0, ox1, ox2, ox3, ox4, ox5⟩, oxf, oxl⟩ := zs16.cells
                    have oxf0 := oxf 0; have oxf1 := oxf 1; have oxf2 := oxf 2; have oxf3 := oxf 3; have oxf4 := oxf 4; have oxf5 := oxf 5
                    have HZ16 := Lib.hid (And.intro zs16 hb16)
                    clear zs16 hb16 oxf
                    go_wp2_with fail
                    go_meet
                    have hO16 := (HOr15.out.trans (Only.of_below HZ16.out.2)).trans (only_six (b := w.heap.size) (.slice (some ⟨g, 0, none⟩) ws.length cap) (.int .i64 ((s.i : Int) + 1)) (.int .i64 d4) (.int .i64 s.n) (.int .i64 (y1w.at_ : Nat)) (.int .i64 120) w16 rfl)
                    exact ⟨rfl, PrdS.bad HR.out.1 HR.out.2.1 HR.out.2.2.1 HR.out.2.2.2.1 HR.out.2.2.2.2.1 (hO16.mono (fun _ _ h => .inl h)) (six_done HZ16.out.1 (.slice (some ⟨g, 0, none⟩) ws.length cap) (.int .i64 ((s.i : Int) + 1)) (.int .i64 d4) (.int .i64 s.n) (.int .i64 (y1w.at_ : Nat)) (.int .i64 120)) ((hO16.block w1.heap.size (Array.getElem?_eq_some_iff.1 HR.out.2.2.2.2.2.2.1).1 (by have := HR.out.1; omega)).trans HR.out.2.2.2.2.2.2.1) (by decide) HNO.out⟩
                  · -- negate
                    have zp15 : W15.heap[w1.heap.size]? = some (.cells #[.string op, .slice lA6 ll6 lc6, .slice kA6 kl6 kc6] 38 (0, 0)) := (HOr15.out.block w1.heap.size (Array.getElem?_eq_some_iff.1 HR.out.2.2.2.2.2.2.1).1 (by have := HR.out.1; omega)).trans HR.out.2.2.2.2.2.2.1
                    obtain ⟨⟨p0', p1', p2'⟩, ⟨pf0', pf1', pf2'⟩, pl'⟩ := tri_cells zp15
                    have HZP := Lib.hid zp15

                    obtain ⟨x3w, hx3⟩ := HG.out.next H10.out.2.2.2.2 (by
                      have h := h40
                      unfold isSgn at h
                      rw [Bool.and_eq_true, decide_eq_true_iff] at h
                      rw [h.1]; decide)

                    have HH40 := Lib.hid (And.intro h40 hx3)
                    clear zp15 h40 hx3
                    go_wp2_with fail
                    go_meet
                    refine ⟨rfl, PrdS.neg HR.out.1 HR.out.2.1 HR.out.2.2.1 HR.out.2.2.2.1 HR.out.2.2.2.2.1 HOr15.out HZS.out HR.out.2.2.2.2.2.2.1 (.inl ⟨rfl, p, ⟨s.i + 3, s.n⟩, dj + 1, by rw [HI7.out.1]; show _ = ((s.i + 3 : Nat) : Int); omega, (List.getElem?_eq_some_iff.1 HH40.out.2).1, HD4.out.2, by have := HD4.out.1; have := HJ.out.2.2.2.1; omega, by have := HJ.out.2.2.2.2.1; omega, rfl, HI7.out.2, HJ.out.2.2.2.2.2.2.1, ?_⟩)⟩
                    have e1 := HL3.out.1.symm.trans HK3.out.1
                    have e2 := HL3.out.2.1.symm.trans HK3.out.2.1
                    have e3 := HL3.out.2.2.symm.trans HK3.out.2.2
                    rw [HJ.out.2.2.2.2.2.2.2]
                    obtain ⟨q, rfl⟩ : ∃ q, kj = q + 1 := ⟨kj - 1, by have := HD4.out.1; omega⟩
                    rw [rJoin, if_neg (by rw [gx_of HJ.out.1]; show ¬ isSgn y 46 = false; rw [HJ.out.2.1]; decide), if_neg (by rw [gx_of HJ.out.2.2.1]; show ¬ y1w.k ≠ 1; rw [H10.out.2.2.2.1]; decide), if_neg (by rw [gx_of H10.out.2.2.2.2]; show ¬ isSgn y2w 40 = false; rw [HH40.out.1]; decide), if_neg (by rw [e1, e2]; decide), if_pos e3]
                    rfl
                  · -- or
                    have zp15 : W15.heap[w1.heap.size]? = some (.cells #[.string op, .slice lA6 ll6 lc6, .slice kA6 kl6 kc6] 38 (0, 0)) := (HOr15.out.block w1.heap.size (Array.getElem?_eq_some_iff.1 HR.out.2.2.2.2.2.2.1).1 (by have := HR.out.1; omega)).trans HR.out.2.2.2.2.2.2.1
                    obtain ⟨⟨p0', p1', p2'⟩, ⟨pf0', pf1', pf2'⟩, pl'⟩ := tri_cells zp15
                    have HZP := Lib.hid zp15

                    obtain ⟨x3w, hx3⟩ := HG.out.next H10.out.2.2.2.2 (by
                      have h := h40
                      unfold isSgn at h
                      rw [Bool.and_eq_true, decide_eq_true_iff] at h
                      rw [h.1]; decide)

                    have hpc : Calls Tryd.prog 66 #[StV g ws.length cap i7 d4 s.n a7 0] W15 (PrdP g cap ws (kj - 1) (s.i + 3) d4 s.n a7 W15) := by
                      have hk0 := HD4.out.1
                      have hdk := HJ.out.2.2.2.1
                      have h := HPr.out (kj - 1) (by have := HJ.out.2.2.2.2.1; omega) W15 (s.i + 3) (dj + 1) s.n a4 x3w ((HH.out.1.on HR.out.2.1).far HOr15.out HH.out.1.lt) hx3 (by omega)
                      rw [show ((s.i + 3 : Nat) : Int) = i7 from by rw [HI7.out.1]; omega, ← HD4.out.2, ← HI7.out.2] at h
                      exact h
                    have HPC := Lib.hid hpc
                    have HH40 := Lib.hid (And.intro h40 hx3)
                    clear zp15 h40 hpc hx3
                    go_wp2_with fail
                    refine HPC.out.mono ?_
                    rintro e w17 ⟨i3, d3, m3, a3, e3, opq, lB, lbl, lbc, kB, kbl, kbc, rfl, hb17, hor17⟩
                    have hO17 := HOr15.out.trans (Only.of_below hb17)
                    have hwr17 := hO17.size
                    have zs17 := HZS.out.on hb17
                    have zp17 := (hb17.block _ pl').trans HZP.out
                    obtain ⟨X18, hX18⟩ : ∃ X, (w17.alloc (.cells #[.slice (some ⟨g, 0, none⟩) ws.length cap, .int .i64 i3, .int .i64 d3, .int .i64 m3, .int .i64 a3, .int .i64 e3] 63)).alloc (.cells #[.string opq, .slice lB lbl lbc, .slice kB kbl kbc] 38) = X := ⟨_, rfl⟩
                    have hXs : X18.heap.size = w17.heap.size + 1 + 1 := by rw [← hX18, World.size_alloc, World.size_alloc]
                    have hb18 : Below w17.heap.size w17 X18 := hX18 ▸ ((Below.refl _ w17).alloc (Nat.le_refl _) _).alloc (by simp) _
                    have z10 : X18.heap[w17.heap.size]? = some (.cells #[.slice (some ⟨g, 0, none⟩) ws.length cap, .int .i64 i3, .int .i64 d3, .int .i64 m3, .int .i64 a3, .int .i64 e3] 63 (0, 0)) := hX18 ▸ two_a' w17 _ _
                    have z11 : X18.heap[w17.heap.size + 1]? = some (.cells #[.string opq, .slice lB lbl lbc, .slice kB kbl kbc] 38 (0, 0)) := hX18 ▸ two_b' w17 _ _
                    have zs18 := zs17.on hb18
                    obtain ⟨W19, hW19⟩ : ∃ W, (((((((X18).setCell ⟨w.heap.size, 0, none⟩ (.slice (some ⟨g, 0, none⟩) ws.length cap)).setCell ⟨w.heap.size, 1, none⟩ (.int .i64 i3)).setCell ⟨w.heap.size, 2, none⟩ (.int .i64 d3)).setCell ⟨w.heap.size, 3, none⟩ (.int .i64 m3)).setCell ⟨w.heap.size, 4, none⟩ (.int .i64 a3)).setCell ⟨w.heap.size, 5, none⟩ (.int .i64 e3)) = W := ⟨_, rfl⟩
                    have zs19 : SB W19 w.heap.size g ws.length cap i3 d3 m3 a3 e3 := by rw [← hW19]; exact six_done zs18 (.slice (some ⟨g, 0, none⟩) ws.length cap) (.int .i64 i3) (.int .i64 d3) (.int .i64 m3) (.int .i64 a3) (.int .i64 e3)
                    have hO19 : Only (fun b => b = w.heap.size) wr W19 := by rw [← hW19]; exact (hO17.trans (Only.of_below hb18)).trans (only_six (.slice (some ⟨g, 0, none⟩) ws.length cap) (.int .i64 i3) (.int .i64 d3) (.int .i64 m3) (.int .i64 a3) (.int .i64 e3) X18 rfl)
                    have hs19 : W19.heap.size = X18.heap.size := by rw [← hW19]; simp [World.setCell]
                    have hf19 : ∀ q, q ≠ w.heap.size → W19.heap[q]? = X18.heap[q]? := fun q h => by rw [← hW19]; exact six_far h _ _ _ _ _ _
                    obtain ⟨W20, hW20⟩ : ∃ W, W19.setCell ⟨w.heap.size, 2, none⟩ (.int .i64 d4) = W := ⟨_, rfl⟩
                    have zs20 : SB W20 w.heap.size g ws.length cap i3 d4 m3 a3 e3 := by
                      have h := zs19
                      rw [← hW20]
                      unfold SB at h ⊢
                      simp [World.setCell, Array.getElem?_modify, h]
                    have hO20 : Only (fun b => b = w.heap.size) wr W20 := by rw [← hW20]; exact hO19.setCell (p := ⟨w.heap.size, 2, none⟩) (.inl rfl) _
                    have hs20 : W20.heap.size = X18.heap.size := by rw [← hW20, ← hs19]; simp [World.setCell]
                    have hf20 : ∀ q, q ≠ w.heap.size → W20.heap[q]? = X18.heap[q]? := fun q h => by rw [← hW20]; exact (Below.heap_setCell _ ⟨w.heap.size, 2, none⟩ _ q h).trans (hf19 q h)
                    have hp1 := HR.out.1
                    have zp20 := (hf20 w1.heap.size (by omega)).trans ((hb18.block _ (by have := hb17.size; omega)).trans zp17)
                    have z1120 := (hf20 (w17.heap.size + 1) (by have := zs17.cells.2.2; omega)).trans z11
                    obtain ⟨⟨xa0, xa1, xa2, xa3, xa4, xa5⟩, xaf, xal⟩ := zs18.cells
                    have xaf0 := xaf 0; have xaf1 := xaf 1; have xaf2 := xaf 2; have xaf3 := xaf 3; have xaf4 := xaf 4; have xaf5 := xaf 5
                    obtain ⟨⟨xb0, xb1, xb2, xb3, xb4, xb5⟩, -, xbl⟩ := six_cells z10
                    obtain ⟨⟨xc0, xc1, xc2, xc3, xc4, xc5⟩, xcf, xcl⟩ := zs19.cells
                    have xcf2 := xcf 2
                    obtain ⟨⟨xd0, xd1, xd2, xd3, xd4, xd5⟩, -, xdl⟩ := zs20.cells
                    obtain ⟨⟨xe0, xe1, xe2⟩, ⟨xef0, xef1, xef2⟩, xel⟩ := tri_cells zp20
                    obtain ⟨⟨xg0, xg1, xg2⟩, -, xgl⟩ := tri_cells z1120
                    have HQ17 := Lib.hid (And.intro hb17 (And.intro hor17 (And.intro hb18 (And.intro hO20 (And.intro zs20 (And.intro hf20 (And.intro hs20 hXs)))))))
                    clear hb17 hor17 zs17 zp17 hb18 z10 z11 zs18 zs19 hO19 hf19 zs20 hO20 hf20 zp20 z1120 xaf xcf hO17 hs19 hs20 hXs hwr17
                    go_wp2_with fail
                    go_meet
                    obtain ⟨hb17, hor17, hb18, hO20, zs20, hf20, hs20, hXs⟩ := HQ17.out
                    have e1 := HL3.out.1.symm.trans HK3.out.1
                    have e2 := HL3.out.2.1.symm.trans HK3.out.2.1
                    refine ⟨rfl, PrdS.two HR.out.1 HR.out.2.1 HR.out.2.2.1 HR.out.2.2.2.1 HR.out.2.2.2.2.1 hO20 zs20 HR.out.2.2.2.2.2.2.1 ?_⟩
                    have hrp := HJ.out.2.2.2.2.2.2.2
                    obtain ⟨q, rfl⟩ : ∃ q, kj = q + 1 := ⟨kj - 1, by have := HD4.out.1; omega⟩
                    rw [rJoin_two (by rw [gx_of HJ.out.1]; exact HJ.out.2.1) (by rw [gx_of HJ.out.2.2.1]; exact H10.out.2.2.2.1) (by rw [gx_of H10.out.2.2.2.2]; exact HH40.out.1) (by rw [e1, e2]; rfl)] at hrp
                    rcases hor17 with ⟨r, s3, hr1, rfl, hlt3, rfl, rfl, rfl, rfl, hrd3⟩ | ⟨hr1, he3⟩
                    · refine .inl ⟨rfl, p, r, s3, dj + 1, rfl, hlt3, HD4.out.2, by have := HJ.out.2.2.2.1; omega, by have := HJ.out.2.2.2.2.1; omega, rfl, HI7.out.2, HJ.out.2.2.2.2.2.2.1, ?_, ?_⟩
                      · refine keepS_Pd _ _ _ _ _ _ (fun x hx => World.cell?_of_block ((hf20 x.block (by have := hx.1; have := HOr15.out.size; have := (Array.getElem?_eq_some_iff.1 HR.out.2.2.2.2.2.2.1).1; omega)).trans (hb18.block _ hx.2))) (fun x hx => ⟨Nat.le_trans HOr15.out.size hx.1, by rw [hs20, hXs]; have := hx.2; omega⟩) hrd3
                      · rw [hrp]
                        show (match rPred (gx ws) q ⟨s.i + 3, s.n⟩ with | none => none | some (q', s2) => if isSgn (gx ws s2.i) 41 = false then none else rJoin (gx ws) q (.mk (gx ws (s.i + 1)).s [] [p, q']) ⟨s2.i + 1, s2.n⟩) = _
                        rw [show rPred (gx ws) q ⟨s.i + 3, s.n⟩ = _ from hr1, gx_of HJ.out.2.2.1]
                        rfl
                    · refine .inr ⟨he3, ?_⟩
                      rw [hrp]
                      show (match rPred (gx ws) q ⟨s.i + 3, s.n⟩ with | none => none | some (q', s2) => if isSgn (gx ws s2.i) 41 = false then none else rJoin (gx ws) q (.mk (gx ws (s.i + 1)).s [] [p, q']) ⟨s2.i + 1, s2.n⟩) = none
                      rw [show rPred (gx ws) q ⟨s.i + 3, s.n⟩ = _ from hr1]
                  · exact (two_words HK3.out.2.1 HK3.out.2.2 (by decide)).elim
                  · -- and
                    have zp15 : W15.heap[w1.heap.size]? = some (.cells #[.string op, .slice lA6 ll6 lc6, .slice kA6 kl6 kc6] 38 (0, 0)) := (HOr15.out.block w1.heap.size (Array.getElem?_eq_some_iff.1 HR.out.2.2.2.2.2.2.1).1 (by have := HR.out.1; omega)).trans HR.out.2.2.2.2.2.2.1
                    obtain ⟨⟨p0', p1', p2'⟩, ⟨pf0', pf1', pf2'⟩, pl'⟩ := tri_cells zp15
                    have HZP := Lib.hid zp15

                    obtain ⟨x3w, hx3⟩ := HG.out.next H10.out.2.2.2.2 (by
                      have h := h40
                      unfold isSgn at h
                      rw [Bool.and_eq_true, decide_eq_true_iff] at h
                      rw [h.1]; decide)

                    have hpc : Calls Tryd.prog 66 #[StV g ws.length cap i7 d4 s.n a7 0] W15 (PrdP g cap ws (kj - 1) (s.i + 3) d4 s.n a7 W15) := by
                      have hk0 := HD4.out.1
                      have hdk := HJ.out.2.2.2.1
                      have h := HPr.out (kj - 1) (by have := HJ.out.2.2.2.2.1; omega) W15 (s.i + 3) (dj + 1) s.n a4 x3w ((HH.out.1.on HR.out.2.1).far HOr15.out HH.out.1.lt) hx3 (by omega)
                      rw [show ((s.i + 3 : Nat) : Int) = i7 from by rw [HI7.out.1]; omega, ← HD4.out.2, ← HI7.out.2] at h
                      exact h
                    have HPC := Lib.hid hpc
                    have HH40 := Lib.hid (And.intro h40 hx3)
                    clear zp15 h40 hpc hx3
                    go_wp2_with fail
                    refine HPC.out.mono ?_
                    rintro e w17 ⟨i3, d3, m3, a3, e3, opq, lB, lbl, lbc, kB, kbl, kbc, rfl, hb17, hor17⟩
                    have hO17 := HOr15.out.trans (Only.of_below hb17)
                    have hwr17 := hO17.size
                    have zs17 := HZS.out.on hb17
                    have zp17 := (hb17.block _ pl').trans HZP.out
                    obtain ⟨X18, hX18⟩ : ∃ X, (w17.alloc (.cells #[.slice (some ⟨g, 0, none⟩) ws.length cap, .int .i64 i3, .int .i64 d3, .int .i64 m3, .int .i64 a3, .int .i64 e3] 63)).alloc (.cells #[.string opq, .slice lB lbl lbc, .slice kB kbl kbc] 38) = X := ⟨_, rfl⟩
                    have hXs : X18.heap.size = w17.heap.size + 1 + 1 := by rw [← hX18, World.size_alloc, World.size_alloc]
                    have hb18 : Below w17.heap.size w17 X18 := hX18 ▸ ((Below.refl _ w17).alloc (Nat.le_refl _) _).alloc (by simp) _
                    have z10 : X18.heap[w17.heap.size]? = some (.cells #[.slice (some ⟨g, 0, none⟩) ws.length cap, .int .i64 i3, .int .i64 d3, .int .i64 m3, .int .i64 a3, .int .i64 e3] 63 (0, 0)) := hX18 ▸ two_a' w17 _ _
                    have z11 : X18.heap[w17.heap.size + 1]? = some (.cells #[.string opq, .slice lB lbl lbc, .slice kB kbl kbc] 38 (0, 0)) := hX18 ▸ two_b' w17 _ _
                    have zs18 := zs17.on hb18
                    obtain ⟨W19, hW19⟩ : ∃ W, (((((((X18).setCell ⟨w.heap.size, 0, none⟩ (.slice (some ⟨g, 0, none⟩) ws.length cap)).setCell ⟨w.heap.size, 1, none⟩ (.int .i64 i3)).setCell ⟨w.heap.size, 2, none⟩ (.int .i64 d3)).setCell ⟨w.heap.size, 3, none⟩ (.int .i64 m3)).setCell ⟨w.heap.size, 4, none⟩ (.int .i64 a3)).setCell ⟨w.heap.size, 5, none⟩ (.int .i64 e3)) = W := ⟨_, rfl⟩
                    have zs19 : SB W19 w.heap.size g ws.length cap i3 d3 m3 a3 e3 := by rw [← hW19]; exact six_done zs18 (.slice (some ⟨g, 0, none⟩) ws.length cap) (.int .i64 i3) (.int .i64 d3) (.int .i64 m3) (.int .i64 a3) (.int .i64 e3)
                    have hO19 : Only (fun b => b = w.heap.size) wr W19 := by rw [← hW19]; exact (hO17.trans (Only.of_below hb18)).trans (only_six (.slice (some ⟨g, 0, none⟩) ws.length cap) (.int .i64 i3) (.int .i64 d3) (.int .i64 m3) (.int .i64 a3) (.int .i64 e3) X18 rfl)
                    have hs19 : W19.heap.size = X18.heap.size := by rw [← hW19]; simp [World.setCell]
                    have hf19 : ∀ q, q ≠ w.heap.size → W19.heap[q]? = X18.heap[q]? := fun q h => by rw [← hW19]; exact six_far h _ _ _ _ _ _
                    obtain ⟨W20, hW20⟩ : ∃ W, W19.setCell ⟨w.heap.size, 2, none⟩ (.int .i64 d4) = W := ⟨_, rfl⟩
                    have zs20 : SB W20 w.heap.size g ws.length cap i3 d4 m3 a3 e3 := by
                      have h := zs19
                      rw [← hW20]
                      unfold SB at h ⊢
                      simp [World.setCell, Array.getElem?_modify, h]
                    have hO20 : Only (fun b => b = w.heap.size) wr W20 := by rw [← hW20]; exact hO19.setCell (p := ⟨w.heap.size, 2, none⟩) (.inl rfl) _
                    have hs20 : W20.heap.size = X18.heap.size := by rw [← hW20, ← hs19]; simp [World.setCell]
                    have hf20 : ∀ q, q ≠ w.heap.size → W20.heap[q]? = X18.heap[q]? := fun q h => by rw [← hW20]; exact (Below.heap_setCell _ ⟨w.heap.size, 2, none⟩ _ q h).trans (hf19 q h)
                    have hp1 := HR.out.1
                    have zp20 := (hf20 w1.heap.size (by omega)).trans ((hb18.block _ (by have := hb17.size; omega)).trans zp17)
                    have z1120 := (hf20 (w17.heap.size + 1) (by have := zs17.cells.2.2; omega)).trans z11
                    obtain ⟨⟨xa0, xa1, xa2, xa3, xa4, xa5⟩, xaf, xal⟩ := zs18.cells
                    have xaf0 := xaf 0; have xaf1 := xaf 1; have xaf2 := xaf 2; have xaf3 := xaf 3; have xaf4 := xaf 4; have xaf5 := xaf 5
                    obtain ⟨⟨xb0, xb1, xb2, xb3, xb4, xb5⟩, -, xbl⟩ := six_cells z10
                    obtain ⟨⟨xc0, xc1, xc2, xc3, xc4, xc5⟩, xcf, xcl⟩ := zs19.cells
                    have xcf2 := xcf 2
                    obtain ⟨⟨xd0, xd1, xd2, xd3, xd4, xd5⟩, -, xdl⟩ := zs20.cells
                    obtain ⟨⟨xe0, xe1, xe2⟩, ⟨xef0, xef1, xef2⟩, xel⟩ := tri_cells zp20
                    obtain ⟨⟨xg0, xg1, xg2⟩, -, xgl⟩ := tri_cells z1120
                    have HQ17 := Lib.hid (And.intro hb17 (And.intro hor17 (And.intro hb18 (And.intro hO20 (And.intro zs20 (And.intro hf20 (And.intro hs20 hXs)))))))
                    clear hb17 hor17 zs17 zp17 hb18 z10 z11 zs18 zs19 hO19 hf19 zs20 hO20 hf20 zp20 z1120 xaf xcf hO17 hs19 hs20 hXs hwr17
                    go_wp2_with fail
                    go_meet
                    obtain ⟨hb17, hor17, hb18, hO20, zs20, hf20, hs20, hXs⟩ := HQ17.out
                    have e1 := HL3.out.1.symm.trans HK3.out.1
                    have e2 := HL3.out.2.1.symm.trans HK3.out.2.1
                    refine ⟨rfl, PrdS.two HR.out.1 HR.out.2.1 HR.out.2.2.1 HR.out.2.2.2.1 HR.out.2.2.2.2.1 hO20 zs20 HR.out.2.2.2.2.2.2.1 ?_⟩
                    have hrp := HJ.out.2.2.2.2.2.2.2
                    obtain ⟨q, rfl⟩ : ∃ q, kj = q + 1 := ⟨kj - 1, by have := HD4.out.1; omega⟩
                    rw [rJoin_two (by rw [gx_of HJ.out.1]; exact HJ.out.2.1) (by rw [gx_of HJ.out.2.2.1]; exact H10.out.2.2.2.1) (by rw [gx_of H10.out.2.2.2.2]; exact HH40.out.1) (by rw [e1, e2]; rfl)] at hrp
                    rcases hor17 with ⟨r, s3, hr1, rfl, hlt3, rfl, rfl, rfl, rfl, hrd3⟩ | ⟨hr1, he3⟩
                    · refine .inl ⟨rfl, p, r, s3, dj + 1, rfl, hlt3, HD4.out.2, by have := HJ.out.2.2.2.1; omega, by have := HJ.out.2.2.2.2.1; omega, rfl, HI7.out.2, HJ.out.2.2.2.2.2.2.1, ?_, ?_⟩
                      · refine keepS_Pd _ _ _ _ _ _ (fun x hx => World.cell?_of_block ((hf20 x.block (by have := hx.1; have := HOr15.out.size; have := (Array.getElem?_eq_some_iff.1 HR.out.2.2.2.2.2.2.1).1; omega)).trans (hb18.block _ hx.2))) (fun x hx => ⟨Nat.le_trans HOr15.out.size hx.1, by rw [hs20, hXs]; have := hx.2; omega⟩) hrd3
                      · rw [hrp]
                        show (match rPred (gx ws) q ⟨s.i + 3, s.n⟩ with | none => none | some (q', s2) => if isSgn (gx ws s2.i) 41 = false then none else rJoin (gx ws) q (.mk (gx ws (s.i + 1)).s [] [p, q']) ⟨s2.i + 1, s2.n⟩) = _
                        rw [show rPred (gx ws) q ⟨s.i + 3, s.n⟩ = _ from hr1, gx_of HJ.out.2.2.1]
                        rfl
                    · refine .inr ⟨he3, ?_⟩
                      rw [hrp]
                      show (match rPred (gx ws) q ⟨s.i + 3, s.n⟩ with | none => none | some (q', s2) => if isSgn (gx ws s2.i) 41 = false then none else rJoin (gx ws) q (.mk (gx ws (s.i + 1)).s [] [p, q']) ⟨s2.i + 1, s2.n⟩) = none
                      rw [show rPred (gx ws) q ⟨s.i + 3, s.n⟩ = _ from hr1]
                  · exact (two_words HK3.out.1 HK3.out.2.2 (by decide)).elim
                  · exact (two_words HK3.out.1 HK3.out.2.1 (by decide)).elim
                  · exact (two_words HK3.out.1 HK3.out.2.1 (by decide)).elim
                · have h1 : (e7 == 0) = false := by simpa using he7
                  have HNO : Hid (rPred (gx ws) k ⟨i, m⟩ = none) := Lib.hid (by
                    obtain ⟨q, rfl⟩ : ∃ q, kj = q + 1 := ⟨kj - 1, by have := HD4.out.1; omega⟩
                    have hy2 := H10.out.2.2.2.2
                    rw [HJ.out.2.2.2.2.2.2.2, rJoin, if_neg (by rw [gx_of HJ.out.1]; show ¬ isSgn y 46 = false; rw [HJ.out.2.1]; decide), if_neg (by rw [gx_of HJ.out.2.2.1]; show ¬ y1w.k ≠ 1; rw [H10.out.2.2.2.1]; decide), if_pos (by rw [gx_of hy2]; exact h40)])
                  have HE7 := Lib.hid he7
                  clear he7 h40
                  cases zA <;> cases zO <;> cases zN
                  rotate_left
                  · -- negate, bad
                    have zp15 : W15.heap[w1.heap.size]? = some (.cells #[.string op, .slice lA6 ll6 lc6, .slice kA6 kl6 kc6] 38 (0, 0)) := (HOr15.out.block w1.heap.size (Array.getElem?_eq_some_iff.1 HR.out.2.2.2.2.2.2.1).1 (by have := HR.out.1; omega)).trans HR.out.2.2.2.2.2.2.1
                    obtain ⟨⟨p0', p1', p2'⟩, ⟨pf0', pf1', pf2'⟩, pl'⟩ := tri_cells zp15
                    have HZP := Lib.hid zp15

                    clear zp15
                    go_wp2_with fail
                    go_meet
                    exact ⟨rfl, PrdS.neg HR.out.1 HR.out.2.1 HR.out.2.2.1 HR.out.2.2.2.1 HR.out.2.2.2.2.1 HOr15.out HZS.out HR.out.2.2.2.2.2.2.1 (.inr ⟨HE7.out, HNO.out⟩)⟩
                  all_goals
                    go_wp2_with fail
                    go_meet
                    exact ⟨rfl, PrdS.bad HR.out.1 HR.out.2.1 HR.out.2.2.1 HR.out.2.2.2.1 HR.out.2.2.2.2.1 (HOr15.out.mono (fun _ _ h => .inl h)) HZS.out ((HOr15.out.block w1.heap.size (Array.getElem?_eq_some_iff.1 HR.out.2.2.2.2.2.2.1).1 (by have := HR.out.1; omega)).trans HR.out.2.2.2.2.2.2.1) HE7.out HNO.out⟩
              case rest =>
                obtain ⟨rfl, hS⟩ := hcut
                rename World => w20
                obtain ⟨i5x, d5x, m5x, a5x', e5x, i9, a9, e9, zs20, hc20, hL20⟩ := hS.sign HG.out HH.out.1
                have HC20 := Lib.hid hc20; have HL20 := Lib.hid hL20
                obtain ⟨⟨dx0, dx1, dx2, dx3, dx4, dx5⟩, -, dxl⟩ := zs20.cells
                have HZ20 := Lib.hid zs20
                clear hS hc20 hL20 zs20
                go_wp2_with fail
                refine HC20.out.mono ?_
                rintro e w21 ⟨rfl, hb21⟩
                have zs21 := HZ20.out.on hb21
                obtain ⟨⟨fx0, fx1, fx2, fx3, fx4, fx5⟩, fxf, fxl⟩ := zs21.cells
                have fxf0 := fxf 0; have fxf1 := fxf 1; have fxf2 := fxf 2; have fxf3 := fxf 3; have fxf4 := fxf 4; have fxf5 := fxf 5
                obtain ⟨W22, hW22⟩ : ∃ W22, (((((((w21).setCell ⟨w.heap.size, 0, none⟩ (.slice (some ⟨g, 0, none⟩) ws.length cap)).setCell ⟨w.heap.size, 1, none⟩ (.int .i64 i9)).setCell ⟨w.heap.size, 2, none⟩ (.int .i64 d5x)).setCell ⟨w.heap.size, 3, none⟩ (.int .i64 m5x)).setCell ⟨w.heap.size, 4, none⟩ (.int .i64 a9)).setCell ⟨w.heap.size, 5, none⟩ (.int .i64 e9)) = W22 := ⟨_, rfl⟩
                have HF22 : Hid (PrdL g cap ws k i d m a4 w W22 w1.heap.size (kj - 1 + 1)) := Lib.hid (HL20.out W22 (by rw [← hW22]; exact (Only.of_below hb21).trans (only_six (.slice (some ⟨g, 0, none⟩) ws.length cap) (.int .i64 i9) (.int .i64 d5x) (.int .i64 m5x) (.int .i64 a9) (.int .i64 e9) w21 rfl)) (by rw [← hW22]; exact six_done zs21 (.slice (some ⟨g, 0, none⟩) ws.length cap) (.int .i64 i9) (.int .i64 d5x) (.int .i64 m5x) (.int .i64 a9) (.int .i64 e9)))
                have hkm : kj - 1 + 1 < gk := by have := HD4.out.1; have := HJ.out.2.2.2.2.2.1; omega
                clear zs21 fxf hb21
                go_wp2_with fail
                go_roundg (kj - 1 + 1)
                case measure => exact hkm
                case rel => exact ⟨trivial, HF22⟩
            · -- no name
              have d1 : (y1w.k == 1) = false := by simpa using hk1
              have d2 : (y1w.k != 1) = true := by simpa using hk1
              have hf := fail_ok (cap := cap) (HH.out.1.on H9.out.2.2.2.2.2.2.2) HJ.out.2.2.1 d4 s.n a4 120
              rw [show ((s.i + 1 : Nat) : Int) = (s.i : Int) + 1 from rfl] at hf
              have HF := Lib.hid hf
              have HNO : Hid (rPred (gx ws) k ⟨i, m⟩ = none ∧ (120 : Int) ≠ 0) := Lib.hid ⟨by
                obtain ⟨q, rfl⟩ : ∃ q, kj = q + 1 := ⟨kj - 1, by have := HD4.out.1; omega⟩
                rw [HJ.out.2.2.2.2.2.2.2, rJoin, if_neg (by rw [gx_of HJ.out.1]; show ¬ isSgn y 46 = false; rw [HJ.out.2.1]; decide), if_pos (by rw [hgy1]; exact hk1)], by decide⟩
              have HW9 := Lib.hid hW9
              clear hf hk1 hgy1 hW9
              go_upto_region 18 with fail
              rw [HW9.out]
              go_wp2_with fail
              refine HF.out.mono ?_
              rintro e w13 ⟨rfl, hb13⟩
              obtain ⟨zs9, zat, hO9, r39, r49, r59, zp9, hb9⟩ := H9.out
              have zs13 := zs9.on hb13
              obtain ⟨⟨cx0, cx1, cx2, cx3, cx4, cx5⟩, cxf, cxl⟩ := zs13.cells
              have cxf0 := cxf 0; have cxf1 := cxf 1; have cxf2 := cxf 2; have cxf3 := cxf 3; have cxf4 := cxf 4; have cxf5 := cxf 5
              obtain ⟨W11, hW11⟩ : ∃ W11, (((((((w13).setCell ⟨w.heap.size, 0, none⟩ (.slice (some ⟨g, 0, none⟩) ws.length cap)).setCell ⟨w.heap.size, 1, none⟩ (.int .i64 ((s.i : Int) + 1))).setCell ⟨w.heap.size, 2, none⟩ (.int .i64 d4)).setCell ⟨w.heap.size, 3, none⟩ (.int .i64 s.n)).setCell ⟨w.heap.size, 4, none⟩ (.int .i64 (y1w.at_ : Nat))).setCell ⟨w.heap.size, 5, none⟩ (.int .i64 120)) = W11 := ⟨_, rfl⟩
              have zs11 : SB W11 w.heap.size g ws.length cap ((s.i : Int) + 1) d4 s.n (y1w.at_ : Nat) 120 := by rw [← hW11]; exact six_done zs13 (.slice (some ⟨g, 0, none⟩) ws.length cap) (.int .i64 ((s.i : Int) + 1)) (.int .i64 d4) (.int .i64 s.n) (.int .i64 (y1w.at_ : Nat)) (.int .i64 120)
              have hO11 : Only (fun b => b = w.heap.size) W9 W11 := by rw [← hW11]; exact (Only.of_below hb13).trans (only_six (.slice (some ⟨g, 0, none⟩) ws.length cap) (.int .i64 ((s.i : Int) + 1)) (.int .i64 d4) (.int .i64 s.n) (.int .i64 (y1w.at_ : Nat)) (.int .i64 120) w13 rfl)
              have r311 := (hO11.block (w.heap.size + 1) (by have := (Array.getElem?_eq_some_iff.1 r39).1; exact this) (by omega)).trans r39
              have r411 := (hO11.block (w.heap.size + 1 + 1) (by have := (Array.getElem?_eq_some_iff.1 r49).1; exact this) (by omega)).trans r49
              have r511 : SB W11 (w.heap.size + 1 + 1 + 1) g ws.length cap i d m a4 0 := (hO11.block (w.heap.size + 1 + 1 + 1) (by have := (Array.getElem?_eq_some_iff.1 r59).1; exact this) (by omega)).trans r59
              have zp11 := (hO11.block w1.heap.size (by have := (Array.getElem?_eq_some_iff.1 zp9).1; exact this) (by have := HR.out.1; omega)).trans zp9
              have hb11 : Below w.heap.size w W11 := hb9.trans (hO11.below hb9.size (fun b hb => by omega))
              have H11 := Lib.hid (And.intro zs11 (And.intro r311 (And.intro r411 (And.intro r511 (And.intro zp11 hb11)))))
              obtain ⟨⟨tz0, tz1, tz2, tz3, tz4, tz5⟩, tzf, tzl⟩ := zs11.cells
              have tzf2 := tzf 2
              clear zs9 zat hO9 r39 r49 r59 zp9 hb9 zs13 cxf zs11 hO11 r311 r411 r511 zp11 hb11 hb13 tzf
              obtain ⟨⟨m0', m1', m2', m3', m4', m5'⟩, -, ml⟩ := SB.cells H11.out.2.2.2.1
              obtain ⟨W8, hW8⟩ : ∃ W8, (W11).setCell ⟨w.heap.size, 2, none⟩ (.int .i64 d) = W8 := ⟨_, rfl⟩
              have z8 : SB W8 w.heap.size g ws.length cap ((s.i : Int) + 1) d s.n (y1w.at_ : Nat) 120 := by
                have h := H11.out.1
                rw [← hW8]
                unfold SB at h ⊢
                simp [World.setCell, Array.getElem?_modify, h]
              have far8 : ∀ q, q ≠ w.heap.size → W8.heap[q]? = (W11).heap[q]? := fun q h1 => by
                rw [← hW8]
                exact Below.heap_setCell _ ⟨w.heap.size, 2, none⟩ _ q h1
              have s8 : W8.heap.size = (W11).heap.size := by rw [← hW8]; simp [World.setCell]
              have b8 : Below w.heap.size w W8 := by rw [← hW8]; exact (H11.out.2.2.2.2.2).setCell (p := ⟨w.heap.size, 2, none⟩) (Nat.le_refl _) _
              have r38 := (far8 (w.heap.size + 1) (by omega)).trans H11.out.2.1
              have r48 := (far8 (w.heap.size + 1 + 1) (by omega)).trans H11.out.2.2.1
              have zp8 := (far8 w1.heap.size (by omega)).trans H11.out.2.2.2.2.1
              obtain ⟨⟨x0', x1', x2'', x3', x4', x5'⟩, -, lx⟩ := z8.cells
              obtain ⟨⟨v0', v1', v2'⟩, -, lv8⟩ := tri_cells zp8
              obtain ⟨⟨y0, y1, y2, y3, y4, y5⟩, ⟨yf0, yf1, yf2, yf3, yf4, yf5⟩, ly⟩ := six_cells r38
              obtain ⟨⟨n0, n1, n2⟩, ⟨nf0, nf1, nf2⟩, ln⟩ := tri_cells r48
              obtain ⟨rr, rs⟩ := two_nine r38 r48 (by omega) (.slice (some ⟨g, 0, none⟩) ws.length cap) (.int .i64 ((s.i : Int) + 1)) (.int .i64 d) (.int .i64 s.n) (.int .i64 (y1w.at_ : Nat)) (.int .i64 120) (.string op) (.slice lA6 ll6 lc6) (.slice kA6 kl6 kc6)
              obtain ⟨FF, hFF⟩ : ∃ FF, ((((((((((W8).setCell ⟨w.heap.size + 1, 0, none⟩ (.slice (some ⟨g, 0, none⟩) ws.length cap)).setCell ⟨w.heap.size + 1, 1, none⟩ (.int .i64 ((s.i : Int) + 1))).setCell ⟨w.heap.size + 1, 2, none⟩ (.int .i64 d)).setCell ⟨w.heap.size + 1, 3, none⟩ (.int .i64 s.n)).setCell ⟨w.heap.size + 1, 4, none⟩ (.int .i64 (y1w.at_ : Nat))).setCell ⟨w.heap.size + 1, 5, none⟩ (.int .i64 120)).setCell ⟨w.heap.size + 1 + 1, 0, none⟩ (.string op)).setCell ⟨w.heap.size + 1 + 1, 1, none⟩ (.slice lA6 ll6 lc6)).setCell ⟨w.heap.size + 1 + 1, 2, none⟩ (.slice kA6 kl6 kc6)) = FF := ⟨_, rfl⟩
              rw [hFF] at rr rs
              have hFs : FF.heap.size = W8.heap.size := by rw [← hFF]; simp [World.setCell]
              have hFk : ∀ q, w.heap.size + 1 + 1 < q → FF.heap[q]? = W8.heap[q]? := fun q h1 => by
                rw [← hFF]
                exact (tri_far (by omega) _ _ _).trans (six_far (by omega) _ _ _ _ _ _)
              have hFb : Below w.heap.size w FF := by
                rw [← hFF]
                repeat (with_reducible first | exact b8 | refine Below.setCell ?_ (by simp <;> omega) _)
              obtain ⟨⟨q0', q1', q2', q3', q4', q5'⟩, -, -⟩ := six_cells rr
              obtain ⟨⟨s0', s1', s2'⟩, -, -⟩ := tri_cells rs
              have HEnd : Hid (Below w.heap.size w FF.drew ∧ ∀ q, w.heap.size + 4 ≤ q → FF.drew.heap[q]? = (W11).heap[q]?) := Lib.hid ⟨hFb.drew, fun q h => (hFk q (by omega)).trans (far8 q (by omega))⟩
              have HEs : Hid (FF.drew.heap.size = (W11).heap.size) := Lib.hid (hFs.trans s8)
              clear z8 far8 s8 b8 r38 r48 zp8 rr rs hFs hFk hFb
              go_wp2_with fail
              go_region
              go_wp2_with fail
              refine bodyPost_ret (v := .tuple #[StV g ws.length cap ((s.i : Int) + 1) d s.n (y1w.at_ : Nat) 120, .agg #[.string op, .slice lA6 ll6 lc6, .slice kA6 kl6 kc6]]) (by simp [results, Tryd.results66, go_sem, q0', q1', q2', q3', q4', q5', s0', s1', s2']) rfl ?_
              exact ⟨_, _, _, _, _, _, _, _, _, _, _, _, rfl, HEnd.out.1, .inr HNO.out⟩



theorem pred_any {g cap : Nat} {ws : List Wd} (hG : Gd ws) (hC : CanW ws) (k : Nat) : PredC g cap ws k := by
  induction k using Nat.strongRecOn with
  | _ k ih =>
    intro w i d m a x hw hx hdk
    cases hp : prdA x
    · exact pred_no hw hx a hp
    · exact pred_yes hG hC ih hw hx hdk a hp

end Go.Proofs.YtgmjhoppjjjilaaDoor
