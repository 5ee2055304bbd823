/- SpD -/
import Derived.Test.YtgmjhoppjjjilaaDoorQ20
import Derived.Deep.Cut
import Derived.Deep.CutRange

/- the document's parser: values up to a sign (written by tools/laws13d.py) -/
namespace Go.Proofs.YtgmjhoppjjjilaaDoor
open Go.ChangeShapes Go.WideShapes Go.ChangeAt Go.RowKit Go.Fl
open Go.Shelf

/-- what value comes to -/
def ValP (g cap : Nat) (ws : List Wd) (k i : Nat) (d : Int) (m : Nat) (a : Int) (x : Wd) (w : World) (z : Ending) (w' : World) : Prop :=
  ∃ (i3 d3 m3 a3 e3 kk : Int) (bb : Bool) (nn : Int) (ff : Nat) (ss : ByteArray) (lA : Option Addr) (ll lc : Nat) (okf : Bool),
    z = .returned (.tuple #[StV g ws.length cap i3 d3 m3 a3 e3, .agg #[.int .i64 kk, .bool bb, .int .i64 nn, .float .f64 ff, .string ss, .slice lA ll lc], .bool okf]) ∧ Below w.heap.size w w' ∧
    ((okf = true ∧ valA x = true ∧ ∃ t s, pVal (gx ws) k ⟨i, m⟩ = .ok t s ∧ i3 = (s.i : Nat) ∧ s.i < ws.length ∧ d3 = d ∧ m3 = (s.n : Nat) ∧ a3 = a ∧ e3 = 0 ∧ RdS w' (fun b => w.heap.size ≤ b ∧ b < w'.heap.size) t (.agg #[.int .i64 kk, .bool bb, .int .i64 nn, .float .f64 ff, .string ss, .slice lA ll lc])) ∨
     (okf = false ∧ valA x = false ∧ i3 = i ∧ d3 = d ∧ m3 = m ∧ a3 = a ∧ e3 = 0) ∨
     (okf = false ∧ valA x = true ∧ (∃ j c, pVal (gx ws) k ⟨i, m⟩ = .bad j c) ∧ e3 ≠ 0))

/-- what values comes to -/
def ValsP (g cap : Nat) (ws : List Wd) (k i : Nat) (d : Int) (m : Nat) (a : Int) (en : UInt8) (w : World) (z : Ending) (w' : World) : Prop :=
  ∃ (i3 d3 m3 a3 e3 : Int) (lA : Option Addr) (ll lc : Nat), z = .returned (.tuple #[StV g ws.length cap i3 d3 m3 a3 e3, .slice lA ll lc]) ∧ Below w.heap.size w w' ∧
    ((∃ l s, sev (gx ws) en valA (fun _ => pVal (gx ws) k) ⟨i, m⟩ = .ok l s ∧ i3 = (s.i : Nat) ∧ s.i < ws.length ∧ d3 = d ∧ m3 = (s.n : Nat) ∧ a3 = a ∧ e3 = 0 ∧ ll = l.length ∧ LstS RdS 6 w' (fun b => w.heap.size ≤ b ∧ b < w'.heap.size) l (.slice lA ll lc)) ∨
     ((∃ j c, sev (gx ws) en valA (fun _ => pVal (gx ws) k) ⟨i, m⟩ = .bad j c) ∧ e3 ≠ 0))

/-- value, where k more may stand around it -/
def ValC (g cap : Nat) (ws : List Wd) (k : Nat) : Prop := ∀ (w : World) (i d m : Nat) (a : Int) (x : Wd), WdsAt w g ws → ws[i]? = some x → d + k = 12 →
  Calls Tryd.prog 64 #[StV g ws.length cap i d m a 0] w (ValP g cap ws k i d m a x w)

/-- values, .. -/
def ValsC (g cap : Nat) (ws : List Wd) (k : Nat) : Prop := ∀ (w : World) (i d m : Nat) (a : Int) (x : Wd) (en : UInt8), WdsAt w g ws → ws[i]? = some x → d + k = 12 →
  Calls Tryd.prog 84 #[StV g ws.length cap i d m a 0, .string ⟨#[en]⟩] w (ValsP g cap ws k i d m a en w)

/-- what is left to take behind l -/
def headV (G : Nat → Wd) (en : UInt8) (k f : Nat) (l : List T) (s : Ps) : Rs (List T) :=
  if isSgn (G s.i) en then .ok l ⟨s.i + 1, s.n⟩
  else if l = [] then sevL G en valA (fun _ => pVal G k) f [] s
  else if isSgn (G s.i) 44 then sevL G en valA (fun _ => pVal G k) f l ⟨s.i + 1, s.n⟩
  else .bad s.i 120

theorem headV_sev (G : Nat → Wd) (en : UInt8) (k : Nat) (s : Ps) : sev G en valA (fun _ => pVal G k) s = headV G en k 13 [] s := by
  unfold sev headV
  rw [if_pos rfl]

theorem sevL_head {G : Nat → Wd} {en : UInt8} {k f : Nat} {l : List T} {s s' : Ps} {x : T} (hb : valA (G s.i) = true) (hl : l.length ≠ 12) (hr : pVal G k s = .ok x s') : sevL G en valA (fun _ => pVal G k) (f + 1) l s = headV G en k f (l ++ [x]) s' := by
  have hne : l ++ [x] ≠ [] := by simp
  unfold headV
  rw [if_neg hne]
  by_cases h1 : isSgn (G s'.i) en = true
  · rw [if_pos h1, sevL_end hb hl hr h1]
  · rw [if_neg h1]
    by_cases h2 : isSgn (G s'.i) 44 = true
    · rw [if_pos h2, sevL_go hb hl hr (by simpa using h1) h2]
    · rw [if_neg h2, sevL_no hb hl hr (by simpa using h1) (by simpa using h2)]

/-- what the loop over values stands on -/
def VlsI (g cap : Nat) (ws : List Wd) (k i : Nat) (d : Int) (m : Nat) (a : Int) (en : UInt8) (w : World) (A : Option Addr) (ln c : Nat) (e1 : Int) (wr : World) : Prop :=
  ∃ (i1 d1 m1 a1 : Int), SB wr w.heap.size g ws.length cap i1 d1 m1 a1 e1 ∧ wr.heap[w.heap.size + 1]? = some (.cells #[.slice none 0 0, .int .i64 0, .int .i64 0, .int .i64 0, .int .i64 0, .int .i64 0] 63 (0, 0)) ∧ Below w.heap.size w wr ∧ w.heap.size + 2 ≤ wr.heap.size ∧
    ((e1 = 0 ∧ ∃ (l : List T) (s : Ps) (f : Nat), i1 = (s.i : Nat) ∧ s.i < ws.length ∧ d1 = d ∧ m1 = (s.n : Nat) ∧ a1 = a ∧ ln = l.length ∧ l.length + f = 13 ∧ 1 ≤ f ∧ Row RdS 25 6 (w.heap.size + 2) wr l (.slice A ln c) ∧ sev (gx ws) en valA (fun _ => pVal (gx ws) k) ⟨i, m⟩ = headV (gx ws) en k f l s) ∨
     (e1 ≠ 0 ∧ (∃ j c, sev (gx ws) en valA (fun _ => pVal (gx ws) k) ⟨i, m⟩ = .bad j c)))


theorem only_six {w : World} {b : Nat} (v0 v1 v2 v3 v4 v5 : Value) (w0 : World) (h : w0 = w) :
    Only (fun k => k = b) w ((((((w0.setCell ⟨b, 0, none⟩ v0).setCell ⟨b, 1, none⟩ v1).setCell ⟨b, 2, none⟩ v2).setCell ⟨b, 3, none⟩ v3).setCell ⟨b, 4, none⟩ v4).setCell ⟨b, 5, none⟩ v5) := by
  subst h
  exact ((((((Only.refl (fun k => k = b) w0).setCell (p := ⟨b, 0, none⟩) (.inl rfl) v0).setCell (p := ⟨b, 1, none⟩) (.inl rfl) v1).setCell (p := ⟨b, 2, none⟩) (.inl rfl) v2).setCell (p := ⟨b, 3, none⟩) (.inl rfl) v3).setCell (p := ⟨b, 4, none⟩) (.inl rfl) v4).setCell (p := ⟨b, 5, none⟩) (.inl rfl) v5

theorem WdsAt.far {w w' : World} {g b : Nat} {ws : List Wd} (h : WdsAt w g ws) (ho : Only (fun k => k = b) w w') (hg : g < b) : WdsAt w' g ws :=
  ⟨fun j k hj hk => (World.cell?_of_block (a := ⟨g, j * 5 + k, none⟩) (ho.block g h.lt (by omega))).trans (h.wds j k hj hk), Nat.lt_of_lt_of_le h.lt ho.size⟩

/-- behind the comma -/
def VlsC0 (g cap : Nat) (ws : List Wd) (k f : Nat) (w : World) (en : UInt8) (l : List T) (s : Ps) (d a : Int) (y : Wd) (w1 wx : World) : Prop :=
  Only (fun b => b = w.heap.size) w1 wx ∧ ∃ i2 d2 m2 a2 e2 : Int, SB wx w.heap.size g ws.length cap i2 d2 m2 a2 e2 ∧
    ((e2 = 0 ∧ ∃ (j : Nat) (y2 : Wd), i2 = j ∧ d2 = d ∧ m2 = (s.n : Nat) ∧ a2 = a ∧ ws[j]? = some y2 ∧ (l = [] ∧ j = s.i ∨ l ≠ [] ∧ isSgn y 44 = true ∧ j = s.i + 1)) ∨
     (e2 ≠ 0 ∧ ∃ j c, headV (gx ws) en k f l s = .bad j c))

/-- .. and there are not too many -/
def VlsC1 (g cap : Nat) (ws : List Wd) (k f : Nat) (w : World) (en : UInt8) (l : List T) (s : Ps) (d a : Int) (y : Wd) (w1 wx : World) : Prop :=
  Only (fun b => b = w.heap.size) w1 wx ∧
    ((∃ (i2 : Nat) (y2 : Wd), SB wx w.heap.size g ws.length cap i2 d s.n a 0 ∧ ws[i2]? = some y2 ∧ l.length ≠ 12 ∧ (l = [] ∧ i2 = s.i ∨ l ≠ [] ∧ isSgn y 44 = true ∧ i2 = s.i + 1)) ∨
     (∃ i2 d2 m2 a2 e2 : Int, SB wx w.heap.size g ws.length cap i2 d2 m2 a2 e2 ∧ e2 ≠ 0 ∧ ∃ j c, headV (gx ws) en k f l s = .bad j c))

theorem vls_full {ws : List Wd} {k f : Nat} {en : UInt8} {l : List T} {s : Ps} {y : Wd} (hy : ws[s.i]? = some y) (hl : l ≠ []) (h44 : isSgn y 44 = true) (hen : isSgn y en = false) (h12 : l.length = 12) : ∃ j c, headV (gx ws) en k f l s = .bad j c := by
  unfold headV
  rw [gx_of hy, if_neg (by show ¬ isSgn y en = true; rw [hen]; decide), if_neg hl, if_pos (by exact h44)]
  cases f with
  | zero => exact ⟨_, _, rfl⟩
  | succ f =>
    rw [sevL]
    split
    · exact ⟨_, _, rfl⟩
    · exact ⟨_, _, rfl⟩

theorem vls_no {ws : List Wd} {k f : Nat} {en : UInt8} {l : List T} {s : Ps} {y : Wd} (hy : ws[s.i]? = some y) (hl : l ≠ []) (hen : isSgn y en = false) (h44 : isSgn y 44 = false) : ∃ j c, headV (gx ws) en k f l s = .bad j c := by
  unfold headV
  rw [gx_of hy, if_neg (by show ¬ isSgn y en = true; rw [hen]; decide), if_neg hl, if_neg (by show ¬ isSgn y 44 = true; rw [h44]; decide)]
  exact ⟨_, _, rfl⟩


theorem headV_go {ws : List Wd} {k f i2 : Nat} {en : UInt8} {l : List T} {s : Ps} {y : Wd} (hy : ws[s.i]? = some y) (hen : isSgn y en = false) (hj : l = [] ∧ i2 = s.i ∨ l ≠ [] ∧ isSgn y 44 = true ∧ i2 = s.i + 1) :
    headV (gx ws) en k f l s = sevL (gx ws) en valA (fun _ => pVal (gx ws) k) f l ⟨i2, s.n⟩ := by
  unfold headV
  rw [gx_of hy, if_neg (by show ¬ isSgn y en = true; rw [hen]; decide)]
  rcases hj with ⟨rfl, rfl⟩ | ⟨hl, h44, rfl⟩
  · rw [if_pos rfl]
  · rw [if_neg hl, if_pos (by exact h44)]

/-- a value is read, or none is -/
def VlsV (g cap : Nat) (ws : List Wd) (k f : Nat) (en : UInt8) (l : List T) (s : Ps) (d a : Int) (w4 : World) (z : Ending) (w5 : World) : Prop :=
  ∃ (i3 d3 m3 a3 e3 kk : Int) (bb : Bool) (nn : Int) (ff : Nat) (ss : ByteArray) (lA : Option Addr) (ll lc : Nat) (okf : Bool),
    z = .returned (.tuple #[StV g ws.length cap i3 d3 m3 a3 e3, .agg #[.int .i64 kk, .bool bb, .int .i64 nn, .float .f64 ff, .string ss, .slice lA ll lc], .bool okf]) ∧ Below w4.heap.size w4 w5 ∧
    ((okf = true ∧ ∃ t s', headV (gx ws) en k f l s = headV (gx ws) en k (f - 1) (l ++ [t]) s' ∧ i3 = (s'.i : Nat) ∧ s'.i < ws.length ∧ d3 = d ∧ m3 = (s'.n : Nat) ∧ a3 = a ∧ e3 = 0 ∧ l.length ≠ 12 ∧ RdS w5 (fun b => w4.heap.size ≤ b ∧ b < w5.heap.size) t (.agg #[.int .i64 kk, .bool bb, .int .i64 nn, .float .f64 ff, .string ss, .slice lA ll lc])) ∨
     (okf = false ∧ (∃ j c, headV (gx ws) en k f l s = .bad j c) ∧ ∀ X, WdsAt X g ws → ∃ a4 e4 : Int, e4 ≠ 0 ∧
        Calls Tryd.prog 29 #[StV g ws.length cap i3 d3 m3 a3 e3, .int .i64 120] X fun z w' => z = .returned (StV g ws.length cap i3 d3 m3 a4 e4) ∧ Below X.heap.size X w'))

theorem vls_val {g cap : Nat} {ws : List Wd} {k f b : Nat} {en : UInt8} {l : List T} {s : Ps} {d : Nat} {a : Int} {y : Wd} {w4 : World} (hV : ValC g cap ws k) (hw : WdsAt w4 g ws) (hdk : d + k = 12) (hy : ws[s.i]? = some y) (hen : isSgn y en = false) (hf : 1 ≤ f)
    (hor : (∃ (i2 : Nat) (y2 : Wd), SB w4 b g ws.length cap i2 d s.n a 0 ∧ ws[i2]? = some y2 ∧ l.length ≠ 12 ∧ (l = [] ∧ i2 = s.i ∨ l ≠ [] ∧ isSgn y 44 = true ∧ i2 = s.i + 1)) ∨
     (∃ i2 d2 m2 a2 e2 : Int, SB w4 b g ws.length cap i2 d2 m2 a2 e2 ∧ e2 ≠ 0 ∧ ∃ j c, headV (gx ws) en k f l s = .bad j c)) :
    ∃ i2 d2 m2 a2 e2 : Int, SB w4 b g ws.length cap i2 d2 m2 a2 e2 ∧ Calls Tryd.prog 64 #[StV g ws.length cap i2 d2 m2 a2 e2] w4 (VlsV g cap ws k f en l s d a w4) := by
  obtain ⟨f, rfl⟩ : ∃ q, f = q + 1 := ⟨f - 1, by omega⟩
  rcases hor with ⟨i2, y2, z4, hy2, h12, hj⟩ | ⟨i2, d2, m2, a2, e2, z4, he, hbad⟩
  · refine ⟨i2, d, s.n, a, 0, z4, (hV w4 i2 d s.n a y2 hw hy2 hdk).mono ?_⟩
    have hg := headV_go (k := k) (f := f + 1) hy hen hj
    have hgy := gx_of hy2
    rintro e w5 ⟨i3, d3, m3, a3, e3, kk, bb, nn, ff, ss, lA, ll, lc, okf, rfl, hb5, h | h | h⟩
    · obtain ⟨rfl, hva, t, s', hp, rfl, hlt, rfl, rfl, rfl, rfl, hr⟩ := h
      refine ⟨_, _, _, _, _, _, _, _, _, _, _, _, _, _, rfl, hb5, .inl ⟨rfl, t, s', ?_, rfl, hlt, rfl, rfl, rfl, rfl, h12, hr⟩⟩
      rw [hg]
      exact sevL_head (by rw [hgy]; exact hva) h12 hp
    · obtain ⟨rfl, hva, rfl, rfl, rfl, rfl, rfl⟩ := h
      refine ⟨_, _, _, _, _, _, _, _, _, _, _, _, _, _, rfl, hb5, .inr ⟨rfl, ⟨_, _, by rw [hg, sevL, hgy]; exact if_pos hva⟩, fun X hX => ⟨_, 120, by decide, fail_ok hX hy2 _ _ _ _⟩⟩⟩
    · obtain ⟨rfl, hva, ⟨j, c, hp⟩, he⟩ := h
      refine ⟨_, _, _, _, _, _, _, _, _, _, _, _, _, _, rfl, hb5, .inr ⟨rfl, ⟨_, _, by rw [hg]; exact sevL_bad (by rw [hgy]; exact hva) h12 hp⟩, fun X hX => ⟨_, _, he, fail_er g ws.length cap _ _ _ _ _ _ he X⟩⟩⟩
  · refine ⟨i2, d2, m2, a2, e2, z4, (val_er g ws.length cap i2 d2 m2 a2 e2 he w4).mono ?_⟩
    rintro e w5 ⟨rfl, hb5⟩
    exact ⟨_, _, _, _, _, _, _, _, _, _, _, _, _, _, rfl, hb5, .inr ⟨rfl, hbad, fun X hX => ⟨_, _, he, fail_er g ws.length cap _ _ _ _ _ _ he X⟩⟩⟩

/-- a row, whatever it holds -/
theorem Row.some {α : Type} {R : World → (Nat → Prop) → α → Value → Prop} {e : TypeId} {sz base : Nat} {w : World} {l : List α} {A : Value} (h : Row R e sz base w l A) : Row (fun _ _ (_ : α) _ => True) e sz base w l A := by
  obtain ⟨xs, h1, h2⟩ := h
  exact ⟨xs, h1, fun j hj => by obtain ⟨v, h3, -⟩ := h2 j hj; exact ⟨v, h3, trivial⟩⟩


theorem vls_app {X w4 w5 : World} {B c : Nat} {A : Option Addr} {l : List T} {kk nn : Int} {bb : Bool} {ff : Nat} {ss : ByteArray} {lA : Option Addr} {ll lc : Nat} {t : T}
    (hrow : Row RdS 25 6 (B + 2) (X.alloc (.cells #[.int .i64 kk, .bool bb, .int .i64 nn, .float .f64 ff, .string ss, .slice lA ll lc] 25)) l (.slice A l.length c)) (hlt : ∀ q, (Value.slice A l.length c).ownBlock = some q → q < w4.heap.size) (hXs : X.heap.size = w5.heap.size + 1 + 1) (hl4 : w4.heap.size ≤ w5.heap.size) (h4 : B + 2 ≤ w4.heap.size) (hfar : ∀ q, w4.heap.size ≤ q → q < w5.heap.size → X.heap[q]? = w5.heap[q]?)
    (hrd : RdS w5 (fun b => w4.heap.size ≤ b ∧ b < w5.heap.size) t (.agg #[.int .i64 kk, .bool bb, .int .i64 nn, .float .f64 ff, .string ss, .slice lA ll lc])) (hn : l.length ≤ 100000) :
    ∃ A' c' w8, (Builtin.append_ #[23, 23] 23 #[.slice A l.length c, .slice (some ⟨w5.heap.size + 1 + 1, 0, none⟩) 1 1]).run Tryd.prog (X.alloc (.cells #[.int .i64 kk, .bool bb, .int .i64 nn, .float .f64 ff, .string ss, .slice lA ll lc] 25)) = .ok (.slice A' (l.length + 1) c') w8 ∧
      Row RdS 25 6 (B + 2) w8 (l ++ [t]) (.slice A' (l.length + 1) c') ∧ Below (B + 2) (X.alloc (.cells #[.int .i64 kk, .bool bb, .int .i64 nn, .float .f64 ff, .string ss, .slice lA ll lc] 25)) w8 := by
  obtain ⟨i0, hi0, hz0, hz1, hz2⟩ := info_parts info_value
  have hs : (X.alloc (.cells #[.int .i64 kk, .bool bb, .int .i64 nn, .float .f64 ff, .string ss, .slice lA ll lc] 25)).heap.size = w5.heap.size + 3 := by rw [World.size_alloc, hXs]
  have hbl : ∀ q, w4.heap.size ≤ q → q < w5.heap.size → (X.alloc (.cells #[.int .i64 kk, .bool bb, .int .i64 nn, .float .f64 ff, .string ss, .slice lA ll lc] 25)).heap[q]? = w5.heap[q]? := fun q h1 h2 => (Below.heap_alloc X _ q (by omega)).trans (hfar q h1 h2)
  exact hrow.add keepS_T 23 25 i0 _ 6 72 Tryd.underlying23 hi0 hz0 hz1 hz2 rfl (by decide) (by rw [hs]; omega) hn (by decide) t #[.int .i64 kk, .bool bb, .int .i64 nn, .float .f64 ff, .string ss, .slice lA ll lc] rfl (fun u hu => by simp at hu; rcases hu with rfl | rfl | rfl | rfl | rfl | rfl <;> rfl) _ rfl ⟨w5.heap.size + 1 + 1, 0, none⟩
    (fun j u hj => by rw [adr_add, Nat.zero_add, ← hXs, (Blk.new X 25 #[.int .i64 kk, .bool bb, .int .i64 nn, .float .f64 ff, .string ss, .slice lA ll lc]).cell j]; exact hj)
    (keepS_T _ _ _ _ _ _ (fun p hp => World.cell?_of_block (hbl p.block hp.1 hp.2)) (fun b hb => ⟨by omega, by rw [hs]; omega, fun he => by have := hlt b he.symm; omega⟩) hrd)


theorem vls_app2 {Y : World} {B c : Nat} {A : Option Addr} {l : List T} {kk nn : Int} {bb : Bool} {ff : Nat} {ss : ByteArray} {lA : Option Addr} {ll lc : Nat}
    (hrow : Row (fun _ _ (_ : T) _ => True) 25 6 (B + 2) (Y.alloc (.cells #[.int .i64 kk, .bool bb, .int .i64 nn, .float .f64 ff, .string ss, .slice lA ll lc] 25)) l (.slice A l.length c)) (h4 : B + 2 ≤ Y.heap.size) (hn : l.length ≤ 100000) :
    ∃ A' c' w8, (Builtin.append_ #[23, 23] 23 #[.slice A l.length c, .slice (some ⟨Y.heap.size, 0, none⟩) 1 1]).run Tryd.prog (Y.alloc (.cells #[.int .i64 kk, .bool bb, .int .i64 nn, .float .f64 ff, .string ss, .slice lA ll lc] 25)) = .ok (.slice A' (l.length + 1) c') w8 ∧ Below (B + 2) (Y.alloc (.cells #[.int .i64 kk, .bool bb, .int .i64 nn, .float .f64 ff, .string ss, .slice lA ll lc] 25)) w8 := by
  obtain ⟨i0, hi0, hz0, hz1, hz2⟩ := info_parts info_value
  obtain ⟨A', c', w8, h1, -, h3⟩ := hrow.add (fun _ _ _ _ _ _ _ _ h => h) 23 25 i0 _ 6 72 Tryd.underlying23 hi0 hz0 hz1 hz2 rfl (by decide) (by rw [World.size_alloc]; omega) hn (by decide) vz #[.int .i64 kk, .bool bb, .int .i64 nn, .float .f64 ff, .string ss, .slice lA ll lc] rfl (fun u hu => by simp at hu; rcases hu with rfl | rfl | rfl | rfl | rfl | rfl <;> rfl) (.agg #[.int .i64 kk, .bool bb, .int .i64 nn, .float .f64 ff, .string ss, .slice lA ll lc]) rfl ⟨Y.heap.size, 0, none⟩
    (fun j u hj => by rw [adr_add, Nat.zero_add, (Blk.new Y 25 #[.int .i64 kk, .bool bb, .int .i64 nn, .float .f64 ff, .string ss, .slice lA ll lc]).cell j]; exact hj) trivial
  exact ⟨A', c', w8, h1, h3⟩


theorem chain3 (w : World) (o1 o2 o3 : Obj) : (((w.alloc o1).alloc o2).alloc o3).heap[w.heap.size]? = some o1 ∧ (((w.alloc o1).alloc o2).alloc o3).heap[w.heap.size + 1]? = some o2 ∧ (((w.alloc o1).alloc o2).alloc o3).heap[w.heap.size + 2]? = some o3 ∧ (((w.alloc o1).alloc o2).alloc o3).heap.size = w.heap.size + 3 ∧ Below w.heap.size w (((w.alloc o1).alloc o2).alloc o3) := by
  have h3 := newA (w.alloc o1) o2 o3
  simp only [World.size_alloc] at h3
  exact ⟨keepA (two_a' w o1 o2) _, keepA (two_b' w o1 o2) _, h3, by simp, ((Below.refl _ w).alloc (Nat.le_refl _) _).alloc (by simp) _ |>.alloc (by simp <;> omega) _⟩

set_option maxHeartbeats 4000000 in
set_option maxRecDepth 100000 in
theorem vals_any {g cap : Nat} {ws : List Wd} {k : Nat} (hG : Gd ws) (hV : ValC g cap ws k) : ValsC g cap ws k := by
  intro w i d m a x en hw hx hdk
  have hi : i < ws.length := (List.getElem?_eq_some_iff.1 hx).1
  have HW := Lib.hid hw; have HG := Lib.hid hG; have HV := Lib.hid hV; have HDK := Lib.hid hdk
  have HI0 : Hid (VlsI g cap ws k i d m a en w (some ⟨w.heap.size + 2, 0, none⟩) 0 0 0 (((w.alloc (.cells #[.slice (some ⟨g, 0, none⟩) ws.length cap, .int .i64 i, .int .i64 d, .int .i64 m, .int .i64 a, .int .i64 0] 63)).alloc (.cells #[.slice none 0 0, .int .i64 0, .int .i64 0, .int .i64 0, .int .i64 0, .int .i64 0] 63)).alloc (.cells #[] 25))) := Lib.hid (by
    obtain ⟨p1, p2, p3, zW, bW⟩ := chain3 w (.cells #[.slice (some ⟨g, 0, none⟩) ws.length cap, .int .i64 i, .int .i64 d, .int .i64 m, .int .i64 a, .int .i64 0] 63) (.cells #[.slice none 0 0, .int .i64 0, .int .i64 0, .int .i64 0, .int .i64 0, .int .i64 0] 63) (.cells #[] 25)
    refine ⟨_, _, _, _, p1, p2, bW, by omega, .inl ⟨rfl, [], ⟨i, m⟩, 13, rfl, hi, rfl, rfl, rfl, rfl, rfl, by omega, ?_, headV_sev _ _ _ _⟩⟩
    have hm := World.ownsRow_made (e := 25) (size := 6) ((w.alloc (.cells #[.slice (some ⟨g, 0, none⟩) ws.length cap, .int .i64 i, .int .i64 d, .int .i64 m, .int .i64 a, .int .i64 0] 63)).alloc (.cells #[.slice none 0 0, .int .i64 0, .int .i64 0, .int .i64 0, .int .i64 0, .int .i64 0] 63)) #[] 0 (Nat.le_refl _) (Nat.zero_le _) (by simp)
    simp only [World.size_alloc] at hm
    exact ⟨[], hm, fun _ h => absurd h (Nat.not_lt_zero _)⟩)
  clear hw hx hG hV hdk hi
  go_enter Tryd.func84, Tryd.ntmps84
  go_wp2_with fail
  go_loopw [6] (fun sl wr => ∃ (A : Option Addr) (ln c : Nat) (e1 : Int), sl = .slice A ln c ∧ ln ≤ 13 ∧ Hid (VlsI g cap ws k i d m a en w A ln c e1 wr)) (fun sl _ => 13 - sliceLen sl)
  case atStart => exact ⟨_, 0, 0, 0, rfl, by omega, HI0⟩
  case round =>
    obtain ⟨A, ln, c, e1, rfl, hln, HI⟩ := hrel
    obtain ⟨i1, d1, m1, a1, hb, hr, hbl, hsz, hor⟩ := HI.out
    obtain ⟨⟨x0, x1, x2, x3, x4, x5⟩, xf, l1⟩ := hb.cells
    have hxf0 := xf 0; have hxf1 := xf 1; have hxf2 := xf 2; have hxf3 := xf 3; have hxf4 := xf 4; have hxf5 := xf 5
    obtain ⟨⟨y0, y1, y2, y3, y4, y5⟩, ⟨f0, f1, f2, f3, f4, f5⟩, l2⟩ := six_cells hr
    rcases hor with ⟨rfl, l, s, f, rfl, hsi, rfl, rfl, rfl, rfl, hlf, hf1, hrow, hsv⟩ | ⟨he, hbad⟩
    rotate_left
    · -- an error: the loop ends
      have h1 : (e1 == 0) = false := by simpa using he
      have HS := Lib.hid (fun W => sign_er g ws.length cap i1 d1 m1 a1 e1 he ⟨#[en]⟩ W)
      have HQ := Lib.hid (And.intro hr (And.intro hbl (And.intro he hbad)))
      clear hb hr hbl he hbad xf
      go_wp2_with fail
      refine (HS.out _).mono ?_
      rintro e w1 ⟨rfl, hb1⟩
      obtain ⟨hr, hbl, he, hbad⟩ := HQ.out
      have q2 := (hb1.block _ l2).trans hr
      obtain ⟨⟨y0', y1', y2', y3', y4', y5'⟩, ⟨f0', f1', f2', f3', f4', f5'⟩, l2'⟩ := six_cells q2
      have HB := Lib.hid (hbl.trans (hb1.mono hbl.size))
      clear hb1
      go_wp2_with fail
      obtain ⟨⟨r0, r1, r2, r3, r4, r5⟩, -, -⟩ := six_cells (six_done q2 (.slice (some ⟨g, 0, none⟩) ws.length cap) (.int .i64 i1) (.int .i64 d1) (.int .i64 m1) (.int .i64 a1) (.int .i64 e1))
      refine bodyPost_ret (v := .tuple #[StV g ws.length cap i1 d1 m1 a1 e1, .slice A ln c]) (by simp [results, Tryd.results84, go_sem, r0, r1, r2, r3, r4, r5]) rfl ?_
      exact ⟨_, _, _, _, _, _, _, _, rfl, by
        repeat (with_reducible first | exact HB.out | refine Below.setCell ?_ (by simp <;> omega) _ | refine Below.drew ?_), .inr ⟨hbad, he⟩⟩
    · obtain ⟨y, hy⟩ : ∃ y, ws[s.i]? = some y := ⟨_, List.getElem?_eq_getElem hsi⟩
      have hwr := HW.out.on hbl
      have HIS := Lib.hid (is_ok (cap := cap) hwr hy d s.n a1 en)
      obtain ⟨z, hz⟩ : ∃ z, isSgn y en = z := ⟨_, rfl⟩
      rw [hz] at HIS
      have HQ := Lib.hid (And.intro hb (And.intro hr (And.intro hbl (And.intro hsz (And.intro hrow hsv)))))
      have HY := Lib.hid (And.intro hy (And.intro hz hwr))
      clear hb hr hbl hsz hrow hsv hy hz hwr xf
      cases z
      · -- one more
        go_wp2_with fail
        refine HIS.out.mono ?_
        rintro e w1 ⟨rfl, hb1⟩
        have z0 : SB w1 w.heap.size g ws.length cap s.i d s.n a1 0 := (hb1.block _ l1).trans HQ.out.1
        obtain ⟨⟨x0', x1', x2', x3', x4', x5'⟩, xf', l1'⟩ := z0.cells
        have xf0' := xf' 0; have xf1' := xf' 1; have xf2' := xf' 2; have xf3' := xf' 3; have xf4' := xf' 4; have xf5' := xf' 5
        have HB1 := Lib.hid hb1
        have HZ0 := Lib.hid z0
        have HW1 := Lib.hid (HY.out.2.2.on hb1)
        clear hb1 z0 xf'
        go_upto_if 22 with fail
        go_cut [6] from 20 to 24 (fun v wx => v = .slice A l.length c ∧ VlsC0 g cap ws k f w en l s d a1 y w1 wx)
        case first =>
          by_cases hl0 : l = []
          · subst hl0
            go_wp2_with fail
            go_meet
            exact ⟨rfl, Only.refl _ _, _, _, _, _, _, HZ0.out, .inl ⟨rfl, s.i, y, rfl, rfl, rfl, rfl, HY.out.1, .inl ⟨rfl, rfl⟩⟩⟩
          · have hpos : 0 < l.length := List.length_pos_iff.2 hl0
            have h1 : (0 : Int) < (l.length : Int) := by omega
            by_cases h44 : isSgn y 44 = true
            · have HS := Lib.hid (sign_yes (cap := cap) HW1.out HY.out.1 HG.out.few d s.n a1 44 h44)
              obtain ⟨y2, hy2⟩ := HG.out.next HY.out.1 (by
                have h1 := h44
                unfold isSgn at h1
                rw [Bool.and_eq_true, decide_eq_true_iff] at h1
                rw [h1.1]; decide)
              have HY2 := Lib.hid hy2
              have HK := Lib.hid (And.intro hl0 h44)
              clear hl0 h44 hy2 hpos
              go_wp2_with fail
              refine HS.out.mono ?_
              rintro e w2 ⟨rfl, hb2⟩
              have z2 : SB w2 w.heap.size g ws.length cap s.i d s.n a1 0 := HZ0.out.on hb2
              obtain ⟨⟨u0, u1, u2, u3, u4, u5⟩, uf, l2'⟩ := z2.cells
              have uf0 := uf 0; have uf1 := uf 1; have uf2 := uf 2; have uf3 := uf 3; have uf4 := uf 4; have uf5 := uf 5
              have HZ2 := Lib.hid z2; have HB2 := Lib.hid hb2
              clear z2 hb2 uf
              go_wp2_with fail
              go_meet
              exact ⟨rfl, (Only.of_below HB2.out).trans (only_six _ _ _ _ _ _ _ rfl), _, _, _, _, _, six_done HZ2.out _ _ _ _ _ _, .inl ⟨rfl, s.i + 1, y2, rfl, rfl, rfl, rfl, HY2.out, .inr ⟨HK.out.1, HK.out.2, rfl⟩⟩⟩
            · have h44' : isSgn y 44 = false := by simpa using h44
              have HS := Lib.hid (sign_no (cap := cap) HW1.out HY.out.1 d s.n a1 44 h44')
              have HK := Lib.hid (And.intro hl0 h44')
              clear hl0 h44 h44' hpos
              go_wp2_with fail
              refine HS.out.mono ?_
              rintro e w2 ⟨rfl, hb2⟩
              have z2 : SB w2 w.heap.size g ws.length cap s.i d s.n a1 0 := HZ0.out.on hb2
              obtain ⟨⟨u0, u1, u2, u3, u4, u5⟩, uf, l2'⟩ := z2.cells
              have uf0 := uf 0; have uf1 := uf 1; have uf2 := uf 2; have uf3 := uf 3; have uf4 := uf 4; have uf5 := uf 5
              have HZ2 := Lib.hid z2; have HB2 := Lib.hid hb2
              clear z2 hb2 uf
              go_wp2_with fail
              go_meet
              exact ⟨rfl, (Only.of_below HB2.out).trans (only_six _ _ _ _ _ _ _ rfl), _, _, _, _, _, six_done HZ2.out _ _ _ _ _ _, .inr ⟨by decide, vls_no HY.out.1 HK.out.1 HY.out.2.1 HK.out.2⟩⟩
        case rest =>
          obtain ⟨rfl, hO1, i2, d2, m2, a2, e2, z2, hor2⟩ := hcut
          rename World => w2
          obtain ⟨⟨u0, u1, u2, u3, u4, u5⟩, uf, l2'⟩ := z2.cells
          have uf0 := uf 0; have uf1 := uf 1; have uf2 := uf 2; have uf3 := uf 3; have uf4 := uf 4; have uf5 := uf 5
          have HZ2 := Lib.hid z2; have HO1 := Lib.hid hO1
          clear z2 hO1 uf x0' x1' x2' x3' x4' x5' xf0' xf1' xf2' xf3' xf4' xf5' l1'
          go_upto_if 27 with fail
          go_cut [6] from 25 to 29 (fun v wx => v = .slice A l.length c ∧ VlsC1 g cap ws k f w en l s d a1 y w1 wx)
          case first =>
            by_cases h12 : l.length = 12
            · have h2 : (12 : Int) ≤ (l.length : Int) := by omega
              rcases hor2 with ⟨rfl, j, y2, rfl, rfl, rfl, rfl, hy2, hj⟩ | ⟨he, hbad⟩
              · have HF := Lib.hid (fail_ok (cap := cap) (HW1.out.far HO1.out HW.out.lt) hy2 d s.n a2 3)
                have HJ : Hid (∃ j c, headV (gx ws) en k f l s = .bad j c) := Lib.hid (by
                  rcases hj with ⟨h, -⟩ | ⟨h, h44, -⟩
                  · rw [h] at h12; cases h12
                  · exact vls_full HY.out.1 h h44 HY.out.2.1 h12)
                clear hy2 hj h12
                go_wp2_with fail
                refine HF.out.mono ?_
                rintro e w3 ⟨rfl, hb3⟩
                have z3 : SB w3 w.heap.size g ws.length cap j d s.n a2 0 := HZ2.out.on hb3
                obtain ⟨⟨v0, v1, v2, v3, v4, v5⟩, vf, l3'⟩ := z3.cells
                have vf0 := vf 0; have vf1 := vf 1; have vf2 := vf 2; have vf3 := vf 3; have vf4 := vf 4; have vf5 := vf 5
                have HZ3 := Lib.hid z3
                have HO3 : Hid (Only (fun b => b = w.heap.size) w1 w3) := Lib.hid (HO1.out.trans (Only.of_below hb3))
                clear z3 hb3 vf
                go_wp2_with fail
                go_meet
                exact ⟨rfl, HO3.out.trans (only_six _ _ _ _ _ _ _ rfl), .inr ⟨_, _, _, _, _, six_done HZ3.out _ _ _ _ _ _, by decide, HJ.out⟩⟩
              · have HF := Lib.hid (fail_er g ws.length cap i2 d2 m2 a2 e2 3 he w2)
                have HJ := Lib.hid (And.intro he hbad)
                clear he hbad h12
                go_wp2_with fail
                refine HF.out.mono ?_
                rintro e w3 ⟨rfl, hb3⟩
                have z3 : SB w3 w.heap.size g ws.length cap i2 d2 m2 a2 e2 := HZ2.out.on hb3
                obtain ⟨⟨v0, v1, v2, v3, v4, v5⟩, vf, l3'⟩ := z3.cells
                have vf0 := vf 0; have vf1 := vf 1; have vf2 := vf 2; have vf3 := vf 3; have vf4 := vf 4; have vf5 := vf 5
                have HZ3 := Lib.hid z3
                have HO3 : Hid (Only (fun b => b = w.heap.size) w1 w3) := Lib.hid (HO1.out.trans (Only.of_below hb3))
                clear z3 hb3 vf
                go_wp2_with fail
                go_meet
                exact ⟨rfl, HO3.out.trans (only_six _ _ _ _ _ _ _ rfl), .inr ⟨_, _, _, _, _, six_done HZ3.out _ _ _ _ _ _, HJ.out.1, HJ.out.2⟩⟩
            · have h2 : ¬ (12 : Int) ≤ (l.length : Int) := by omega
              have HJ := Lib.hid (And.intro h12 hor2)
              clear hor2 h12
              go_wp2_with fail
              go_meet
              refine ⟨rfl, HO1.out, ?_⟩
              rcases HJ.out.2 with ⟨rfl, j, y2, rfl, rfl, rfl, rfl, hy2, hj⟩ | ⟨he, hbad⟩
              · exact .inl ⟨j, y2, HZ2.out, hy2, HJ.out.1, hj⟩
              · exact .inr ⟨_, _, _, _, _, HZ2.out, he, hbad⟩
          case rest =>
            obtain ⟨rfl, hO4, hor4⟩ := hcut
            rename World => w4
            have hOr : ∀ W, Only (fun b => b = w.heap.size) w4 W → Only (fun b => b = w.heap.size) wr W := fun W h => ((Only.of_below HB1.out).trans hO4).trans h
            have HOr := Lib.hid hOr
            have HRow : Hid (∀ W, Only (fun b => b = w.heap.size) w4 W → Row RdS 25 6 (w.heap.size + 2) W l (.slice A l.length c)) := Lib.hid (fun W h => HQ.out.2.2.2.2.1.kept keepS_T (hOr W h).size (fun b hb1 hb2 => (hOr W h).block b hb2 (by omega)))
            have HRes : Hid (∀ W, Only (fun b => b = w.heap.size) w4 W → W.heap[w.heap.size + 1]? = some (.cells #[.slice none 0 0, .int .i64 0, .int .i64 0, .int .i64 0, .int .i64 0, .int .i64 0] 63 (0, 0))) := Lib.hid (fun W h => ((hOr W h).block _ (Array.getElem?_eq_some_iff.1 HQ.out.2.1).1 (by omega)).trans HQ.out.2.1)
            have HBW : Hid (∀ W, Only (fun b => b = w.heap.size) w4 W → Below w.heap.size w W ∧ w.heap.size + 2 ≤ W.heap.size) := Lib.hid (fun W h => ⟨HQ.out.2.2.1.trans ((hOr W h).below HQ.out.2.2.1.size (fun b hb => by omega)), Nat.le_trans HQ.out.2.2.2.1 (hOr W h).size⟩)
            obtain ⟨i0, hi0, hz0, hz1, hz2⟩ := info_parts info_value
            obtain ⟨i2, d2, m2, a2, e2, z4, hval⟩ := vls_val HV.out (HW1.out.far hO4 HW.out.lt) HDK.out HY.out.1 HY.out.2.1 hf1 hor4
            have HW4 := Lib.hid (HW1.out.far hO4 HW.out.lt)
            have HVC := Lib.hid hval
            obtain ⟨⟨v0, v1, v2, v3, v4, v5⟩, vf, l4⟩ := z4.cells
            have vf0 := vf 0; have vf1 := vf 1; have vf2 := vf 2; have vf3 := vf 3; have vf4 := vf 4; have vf5 := vf 5
            have HZ4 := Lib.hid z4
            clear z4 hval hor4 hO4 hOr u0 u1 u2 u3 u4 u5 uf0 uf1 uf2 uf3 uf4 uf5 l2' vf
            go_wp2_with fail
            refine HVC.out.mono ?_
            rintro e w5 ⟨i3, d3, m3, a3, e3, kk, bb, nn, ff, ss, lA, ll, lc, okf, rfl, hb5, hor5⟩
            have z5 : SB w5 w.heap.size g ws.length cap i2 d2 m2 a2 e2 := HZ4.out.on hb5
            have l5 := z5.cells.2.2
            obtain ⟨S, hS⟩ : ∃ S, (((((((w5).setCell ⟨w.heap.size, 0, none⟩ (.slice (some ⟨g, 0, none⟩) ws.length cap)).setCell ⟨w.heap.size, 1, none⟩ (.int .i64 i3)).setCell ⟨w.heap.size, 2, none⟩ (.int .i64 d3)).setCell ⟨w.heap.size, 3, none⟩ (.int .i64 m3)).setCell ⟨w.heap.size, 4, none⟩ (.int .i64 a3)).setCell ⟨w.heap.size, 5, none⟩ (.int .i64 e3)) = S := ⟨_, rfl⟩
            have hSs : S.heap.size = w5.heap.size := by rw [← hS]; simp [World.setCell]
            have z6 : SB S w.heap.size g ws.length cap i3 d3 m3 a3 e3 := hS ▸ six_done z5 (.slice (some ⟨g, 0, none⟩) ws.length cap) (.int .i64 i3) (.int .i64 d3) (.int .i64 m3) (.int .i64 a3) (.int .i64 e3)
            have hS6 : ∀ q, q ≠ w.heap.size → S.heap[q]? = w5.heap[q]? := fun q h1 => hS ▸ six_far h1 _ _ _ _ _ _
            have hSO : Only (fun b => b = w.heap.size) w5 S := hS ▸ only_six _ _ _ _ _ _ _ rfl
            have hS' := hS
            clear hS
            obtain ⟨X, hX⟩ : ∃ X, (S.alloc (.cells #[.slice (some ⟨g, 0, none⟩) ws.length cap, .int .i64 i3, .int .i64 d3, .int .i64 m3, .int .i64 a3, .int .i64 e3] 63)).alloc (.cells #[.int .i64 kk, .bool bb, .int .i64 nn, .float .f64 ff, .string ss, .slice lA ll lc] 25) = X := ⟨_, rfl⟩
            have z7 : SB X w.heap.size g ws.length cap i3 d3 m3 a3 e3 := hX ▸ keepA (keepA z6 _) _
            have hbA : Below S.heap.size S X := hX ▸ ((Below.refl _ S).alloc (Nat.le_refl _) _).alloc (by simp) _
            have hO7 : Only (fun b => b = w.heap.size) w4 X := ((Only.of_below hb5).trans hSO).trans (Only.of_below hbA)
            have hXs : X.heap.size = w5.heap.size + 1 + 1 := by rw [← hX, World.size_alloc, World.size_alloc, hSs]
            have hfar : ∀ q, q ≠ w.heap.size → q < w5.heap.size → X.heap[q]? = w5.heap[q]? := fun q h1 h2 => (hbA.block q (by rw [hSs]; exact h2)).trans (hS6 q h1)
            have hpv : X.heap[w5.heap.size + 1]? = some (.cells #[.int .i64 kk, .bool bb, .int .i64 nn, .float .f64 ff, .string ss, .slice lA ll lc] 25 (0, 0)) := by
              have h := two_b' S (.cells #[.slice (some ⟨g, 0, none⟩) ws.length cap, .int .i64 i3, .int .i64 d3, .int .i64 m3, .int .i64 a3, .int .i64 e3] 63) (.cells #[.int .i64 kk, .bool bb, .int .i64 nn, .float .f64 ff, .string ss, .slice lA ll lc] 25)
              rw [hX, hSs] at h; exact h
            rw [← hS'] at hX
            have hl4 : w4.heap.size ≤ w5.heap.size := hb5.size
            obtain ⟨⟨p0, p1, p2, p3, p4, p5⟩, -, lp⟩ := six_cells hpv
            obtain ⟨⟨t0, t1, t2, t3, t4, t5⟩, tf, lt⟩ := z7.cells
            have tf0 := tf 0; have tf1 := tf 1; have tf2 := tf 2; have tf3 := tf 3; have tf4 := tf 4; have tf5 := tf 5
            obtain ⟨⟨q0, q1, q2, q3, q4, q5⟩, qf, lq⟩ := z5.cells
            have qf0 := qf 0; have qf1 := qf 1; have qf2 := qf 2; have qf3 := qf 3; have qf4 := qf 4; have qf5 := qf 5
            have h4w := (HBW.out w4 (Only.refl _ _)).2
            rcases hor5 with ⟨rfl, t, s', hsv', rfl, hlt, rfl, rfl, rfl, rfl, h12, hrd⟩ | ⟨rfl, hbad, hfail⟩
            · obtain ⟨A', c', w8, hr8, hrw8, hb8⟩ := vls_app (HRow.out _ (hO7.alloc _)) (fun q hq => by
                  obtain ⟨xs, hown, -⟩ := HRow.out w4 (Only.refl _ _)
                  exact (hown.lt q hq).2) hXs hl4 h4w (fun q h1 h2 => hfar q (by omega) h2) hrd (by omega)
              have HRun := Lib.hid hr8
              have HF : Hid (VlsI g cap ws k i d m a3 en w A' (l.length + 1) c' 0 w8) := Lib.hid (by
                have hX8 : Below w.heap.size w X := (HBW.out _ hO7).1
                have hX9 : w.heap.size + 2 ≤ X.heap.size := (HBW.out _ hO7).2
                have hxa : ∀ q, q < w.heap.size + 2 → w8.heap[q]? = X.heap[q]? := fun q hq => (hb8.block q hq).trans (Below.heap_alloc X _ q (by omega))
                have hs8 : X.heap.size ≤ w8.heap.size := by have := hb8.size; rw [World.size_alloc] at this; omega
                refine ⟨_, _, _, _, (hxa _ (by omega)).trans z7, (hxa _ (by omega)).trans (HRes.out _ hO7), hX8.trans ⟨hb8.os, hb8.tape, hb8.output, hs8, fun q hq => hxa q (by omega)⟩, by omega, .inl ⟨rfl, l ++ [t], s', f - 1, rfl, hlt, rfl, rfl, rfl, by simp, by simp; omega, by omega, by simpa using hrw8, ?_⟩⟩
                rw [HQ.out.2.2.2.2.2, hsv'])
              clear hr8 hrw8 hb8 hsv' hrd hfar hpv hbA z6 z7 hO7 z5 hb5 tf qf hlt hS' hSs hS6 hSO
              go_wp2_with (at_builtin; refine Lib.wpList_append_run_sl _ rfl _ _ 23 rfl _ _ rfl rfl HRun.out ?_)
              go_roundw
              case rel => exact ⟨A', l.length + 1, c', 0, rfl, by omega, HF⟩
              case measure => simp [sliceLen]; omega
            · obtain ⟨a4, e4, he4, hcf⟩ := hfail X (HW4.out.far hO7 HW.out.lt)
              have HCF := Lib.hid hcf
              have HP := Lib.hid (And.intro z7 (And.intro hO7 (And.intro hpv (And.intro hbad he4))))
              clear hcf z7 hO7 hpv hbad hfail hfar hbA z6 z5 hb5 tf qf hS' hSs hS6 hSO he4
              go_wp2_with fail
              refine HCF.out.mono ?_
              rintro e w7 ⟨rfl, hb7⟩
              obtain ⟨z7, hO7, hpv, hbad, he4⟩ := HP.out
              have z8 : SB w7 w.heap.size g ws.length cap i3 d3 m3 a3 e3 := z7.on hb7
              have hpv8 := (hb7.block _ lp).trans hpv
              obtain ⟨Y, hY⟩ : ∃ Y, (((((((w7).setCell ⟨w.heap.size, 0, none⟩ (.slice (some ⟨g, 0, none⟩) ws.length cap)).setCell ⟨w.heap.size, 1, none⟩ (.int .i64 i3)).setCell ⟨w.heap.size, 2, none⟩ (.int .i64 d3)).setCell ⟨w.heap.size, 3, none⟩ (.int .i64 m3)).setCell ⟨w.heap.size, 4, none⟩ (.int .i64 a4)).setCell ⟨w.heap.size, 5, none⟩ (.int .i64 e4)) = Y := ⟨_, rfl⟩
              have hYs : Y.heap.size = w7.heap.size := by rw [← hY]; simp [World.setCell]
              have z9 : SB Y w.heap.size g ws.length cap i3 d3 m3 a4 e4 := hY ▸ six_done z8 (.slice (some ⟨g, 0, none⟩) ws.length cap) (.int .i64 i3) (.int .i64 d3) (.int .i64 m3) (.int .i64 a4) (.int .i64 e4)
              have hpv9 : Y.heap[w5.heap.size + 1]? = some (.cells #[.int .i64 kk, .bool bb, .int .i64 nn, .float .f64 ff, .string ss, .slice lA ll lc] 25 (0, 0)) := hY ▸ (six_far (by have := HZ4.out.cells.2.2; have := lq; omega) _ _ _ _ _ _).trans hpv8
              have hO9 : Only (fun b => b = w.heap.size) w4 Y := (hO7.trans (Only.of_below hb7)).trans (hY ▸ only_six _ _ _ _ _ _ _ rfl)
              obtain ⟨⟨g0, g1, g2, g3, g4, g5⟩, gf, gl⟩ := z8.cells
              have gf0 := gf 0; have gf1 := gf 1; have gf2 := gf 2; have gf3 := gf 3; have gf4 := gf 4; have gf5 := gf 5
              obtain ⟨⟨k0, k1, k2, k3, k4, k5⟩, -, lk⟩ := six_cells hpv9
              obtain ⟨A', c', w8, hr8, hb8⟩ := vls_app2 (kk := kk) (bb := bb) (nn := nn) (ff := ff) (ss := ss) (lA := lA) (ll := ll) (lc := lc) (HRow.out _ (hO9.alloc _)).some (HBW.out _ hO9).2 (by omega)
              have HRun := Lib.hid hr8
              have HF : Hid (VlsI g cap ws k i d m a1 en w A' (l.length + 1) c' e4 w8) := Lib.hid (by
                have hX8 : Below w.heap.size w Y := (HBW.out _ hO9).1
                have hX9 : w.heap.size + 2 ≤ Y.heap.size := (HBW.out _ hO9).2
                have hxa : ∀ q, q < w.heap.size + 2 → w8.heap[q]? = Y.heap[q]? := fun q hq => (hb8.block q hq).trans (Below.heap_alloc Y _ q (by omega))
                have hs8 : Y.heap.size ≤ w8.heap.size := by have := hb8.size; rw [World.size_alloc] at this; omega
                refine ⟨_, _, _, _, (hxa _ (by omega)).trans z9, (hxa _ (by omega)).trans (HRes.out _ hO9), hX8.trans ⟨hb8.os, hb8.tape, hb8.output, hs8, fun q hq => hxa q (by omega)⟩, by omega, .inr ⟨he4, ?_⟩⟩
                obtain ⟨j, c9, h9⟩ := hbad
                exact ⟨j, c9, HQ.out.2.2.2.2.2.trans h9⟩)
              clear hYs hr8 hb8 z9 hpv9 hO9 z8 hpv8 hb7 z7 hO7 hpv hbad he4 gf
              go_wp2_with (at_builtin; refine Lib.wpList_append_run_sl _ rfl _ _ 23 rfl _ _ rfl rfl HRun.out ?_)
              go_roundw
              case rel => exact ⟨A', l.length + 1, c', e4, rfl, by omega, HF⟩
              case measure => simp [sliceLen]; omega
      · -- the end
        have HS := Lib.hid (fun W (hb : Below wr.heap.size wr W) => sign_yes (cap := cap) (HY.out.2.2.on hb) HY.out.1 HG.out.few d s.n a1 en HY.out.2.1)
        go_wp2_with fail
        refine HIS.out.mono ?_
        rintro e w1 ⟨rfl, hb1⟩
        have z0 := (hb1.block _ l1).trans HQ.out.1
        have q2 := (hb1.block _ l2).trans HQ.out.2.1
        obtain ⟨⟨x0', x1', x2', x3', x4', x5'⟩, -, l1'⟩ := SB.cells z0
        have HB1 := Lib.hid hb1
        clear hb1 z0
        go_wp2_with fail
        refine (HS.out _ HB1.out).mono ?_
        rintro e w2 ⟨rfl, hb2⟩
        have hl2' := (Array.getElem?_eq_some_iff.1 q2).1
        have q3 := (hb2.block _ hl2').trans q2
        obtain ⟨⟨y0', y1', y2', y3', y4', y5'⟩, ⟨f0', f1', f2', f3', f4', f5'⟩, l2'⟩ := six_cells q3
        have HB2 := Lib.hid (HB1.out.trans (hb2.mono HB1.out.size))
        clear hb2
        go_wp2_with fail
        obtain ⟨⟨r0, r1, r2, r3, r4, r5⟩, -, -⟩ := six_cells (six_done q3 (.slice (some ⟨g, 0, none⟩) ws.length cap) (.int .i64 ((s.i : Int) + 1)) (.int .i64 d) (.int .i64 s.n) (.int .i64 a1) (.int .i64 0))
        have hHY := HY.out
        obtain ⟨y2, hy2⟩ := HG.out.next hHY.1 (by
          have h1 := hHY.2.1
          unfold isSgn at h1
          rw [Bool.and_eq_true, decide_eq_true_iff] at h1
          rw [h1.1]; decide)
        have hi2 := (List.getElem?_eq_some_iff.1 hy2).1
        have HT : Hid (sev (gx ws) en valA (fun _ => pVal (gx ws) k) ⟨i, m⟩ = .ok l ⟨s.i + 1, s.n⟩ ∧ s.i + 1 < ws.length) := Lib.hid ⟨by
          rw [HQ.out.2.2.2.2.2]
          unfold headV
          rw [gx_of hHY.1]
          exact if_pos hHY.2.1, hi2⟩
        have HL : Hid (∀ W, W.heap.size = w2.heap.size → (∀ b, b ≠ w.heap.size + 1 → W.heap[b]? = w2.heap[b]?) → LstS RdS 6 W (fun b => w.heap.size ≤ b ∧ b < W.heap.size) l (.slice A l.length c)) := Lib.hid (fun W h1 h2 => by
          have h3 := HQ.out.2.2.2.2.1.kept (w' := W) keepS_T (by rw [h1]; exact HB2.out.size) (fun b hb1 hb2 => (h2 b (by omega)).trans (HB2.out.block b hb2))
          exact LstS.keep keepS_T (fun _ _ => rfl) (fun b (hb : w.heap.size + 2 ≤ b ∧ b < W.heap.size) => ⟨by omega, hb.2⟩) (h3.all keepS_T))
        have HF : Hid (Below w.heap.size w w2) := Lib.hid (HQ.out.2.2.1.trans (HB2.out.mono HQ.out.2.2.1.size))
        refine bodyPost_ret (v := .tuple #[StV g ws.length cap (s.i + 1 : Nat) d s.n a1 0, .slice A l.length c]) (by simp [results, Tryd.results84, go_sem, r0, r1, r2, r3, r4, r5]) rfl ?_
        exact ⟨_, _, _, _, _, _, _, _, rfl, by
          repeat (with_reducible first | exact HF.out | refine Below.setCell ?_ (by simp <;> omega) _ | refine Below.drew ?_), .inl ⟨l, ⟨s.i + 1, s.n⟩, HT.out.1, rfl, HT.out.2, rfl, rfl, rfl, rfl, rfl, HL.out _ (by simp [World.setCell]) (fun b hb => six_far hb _ _ _ _ _ _)⟩⟩

end Go.Proofs.YtgmjhoppjjjilaaDoor
