/- PaI, SpA -/
import Derived.Test.YtgmjhoppjjjilaaDoorQ16
import Derived.Test.YtgmjhoppjjjilaaDoorQ18

/- parse: what may stand next (written by tools/laws12c.py) -/
namespace Go.Proofs.YtgmjhoppjjjilaaDoor
open Go.ChangeShapes Go.WideShapes Go.ChangeAt Go.RowKit Go.Fl
open Go.Shelf

theorem Gd.kind {ws : List Wd} (hG : Gd ws) {i : Nat} {x : Wd} (hx : ws[i]? = some x) : x.k = 0 ∨ x.k = 1 ∨ x.k = 2 ∨ x.k = 3 ∨ x.k = 4 ∨ x.k = 5 := by
  obtain ⟨h1, h2, -⟩ := hG.ok x (List.mem_of_getElem? hx)
  omega

theorem val_name (s : ByteArray) (m : Int) (f a : Nat) : valA ⟨1, s, m, f, a⟩ = ((s.toList == [116, 114, 117, 101]) || (s.toList == [102, 97, 108, 115, 101]) || (s.toList == [110, 117, 108, 108])) := by
  rw [Lib.toList_data]
  unfold valA isSgn isL txTrue txFalse txNull
  simp

theorem list_of_beq {S : ByteArray} {l : List UInt8} (h : (S.toList == l) = true) : S.data.toList = l := by rw [← Lib.toList_data]; exact beq_iff_eq.1 h

theorem ne_of_beq {S : ByteArray} {l : List UInt8} (h : (S.toList == l) = false) : S.data.toList ≠ l := by rw [← Lib.toList_data]; exact beq_eq_false_iff_ne.1 h

end Go.Proofs.YtgmjhoppjjjilaaDoor

namespace Go.Proofs.YtgmjhoppjjjilaaDoor
open Go.ChangeShapes Go.WideShapes Go.ChangeAt Go.RowKit Go.Fl
open Go.Shelf

theorem getD_of {ws : List Wd} {i : Nat} {x : Wd} (h : ws[i]? = some x) : ws.getD i wdNone = x := by rw [List.getD_eq_getElem?_getD, h]; rfl

theorem gx_of {ws : List Wd} {i : Nat} {x : Wd} (h : ws[i]? = some x) : gx ws i = { x with at_ := 0 } := by unfold gx; rw [getD_of h]

/-- one more in a row of one's own -/
theorem Row.add {α : Type} {R : World → (Nat → Prop) → α → Value → Prop} (hK : KeepS R) {P : Program} (t e : TypeId) (i : TypeInfo) (z : Value) (sz bytes : Nat) (ht : P.underlying t = some (.slice e)) (hi : P.info? e = some i) (hz : i.zero = some z) (hsize : i.size = sz) (hby : i.bytes = bytes) (hzs : z.cells.size = sz) (hsz : 0 < sz)
    {B : Nat} {w : World} {l : List α} {A : Value} (h : Row R e sz B w l A) (hB : B ≤ w.heap.size) (hn : l.length ≤ 100000) (hbs : bytes ≤ 1000) (x : α) (cs : Array Value) (hcs : cs.size = sz) (h1 : ∀ u ∈ cs.toList, u.oneCell' = true) (v : Value) (hv : v.cells = cs) (a : Addr) (hc : ∀ j u, cs[j]? = some u → w.cell? (a.add j) = some u) (hx : R w (fun b => B ≤ b ∧ b < w.heap.size ∧ some b ≠ A.ownBlock) x v) :
    ∃ A' c' w', (Builtin.append_ #[t, t] t #[A, .slice (some a) 1 1]).run P w = .ok (.slice A' (l.length + 1) c') w' ∧ Row R e sz B w' (l ++ [x]) (.slice A' (l.length + 1) c') ∧ Below B w w' := by
  obtain ⟨xs, hown, hp⟩ := h
  have hnl : cs.toList.length = 1 * sz := by rw [Array.length_toList, hcs, Nat.one_mul]
  have hbb : (l.length + 1) * bytes ≤ 140737488355328 := by
    have := Nat.mul_le_mul (show l.length + 1 ≤ 100001 by omega) hbs
    omega
  obtain ⟨v', w', hr, hown', hg, hA⟩ := run_append_fresh (P := P) w B t t e i z sz bytes ht hi hz hsize hby hzs hsz A l.length xs hown a 1 1 cs.toList hnl (fun j u hu => hc j u (by simpa using hu)) h1 (by unfold maxLen; omega) hbb hB (by decide)
  have hrow := Row.step hK (v := v) (x := x) hown hp (fun k u hu => by
    rw [hv] at hu
    have hk := (Array.getElem?_eq_some_iff.1 hu).1
    exact ⟨by omega, by simpa using hu⟩) hx hown' hg hA
  have hbl : Below B w w' := (Below.refl _ _).grown hg hB (fun k hk => (hown.lt k hk).1)
  rcases hown'.2 with ⟨-, h0⟩ | ⟨g, cap, cur, rfl, -⟩
  · omega
  · exact ⟨some ⟨g, 0, none⟩, cap, w', hr, hrow, hbl⟩

theorem FR.ok {pb : Nat} {ok : Nat → Prop} {w w' : World} (h : FR pb w w') (hok : ok pb) : Only ok w w' := h.mono (fun _ _ hb => hb ▸ hok)

theorem Only.far {ok : Nat → Prop} {a w w' : World} {B : Nat} (h : Only ok a w) (hb : Below B w w') (hB : a.heap.size ≤ B) : Only ok a w' :=
  ⟨hb.os.trans h.os, hb.tape.trans h.tape, hb.output.trans h.output, Nat.le_trans h.size hb.size, fun k hk hn => (hb.block k (Nat.lt_of_lt_of_le hk hB)).trans (h.block k hk hn)⟩

/-- one more, that was just read -/
theorem Row.more {α : Type} {R : World → (Nat → Prop) → α → Value → Prop} (hK : KeepS R) {P : Program} (t e : TypeId) (i : TypeInfo) (z : Value) (sz bytes : Nat) (ht : P.underlying t = some (.slice e)) (hi : P.info? e = some i) (hz : i.zero = some z) (hsize : i.size = sz) (hby : i.bytes = bytes) (hzs : z.cells.size = sz) (hsz : 0 < sz) (hbs : bytes ≤ 1000)
    {ok : Nat → Prop} {B : Nat} {wr w2 w3 : World} {l : List α} {A : Value} {x : α} {v : Value} (hr : Row R e sz B wr l A) (hok : ∀ b, ok b → b < B) (hB : B ≤ wr.heap.size) (h2 : Below wr.heap.size wr w2) (h3 : Only ok w2 w3) (hv : R w3 (fun b => w2.heap.size ≤ b ∧ b < w3.heap.size) x v)
    (cs : Array Value) (hvc : v.cells = cs) (hcs : cs.size = sz) (h1 : ∀ u ∈ cs.toList, u.oneCell' = true) (hn : l.length ≤ 100000) :
    ∃ A' c' w4, (Builtin.append_ #[t, t] t #[A, .slice (some ⟨w3.heap.size, 0, none⟩) 1 1]).run P (w3.alloc (.cells cs e)) = .ok (.slice A' (l.length + 1) c') w4 ∧ Row R e sz B w4 (l ++ [x]) (.slice A' (l.length + 1) c') ∧ Below B w3 w4 := by
  have hs2 := h2.size
  have hs3 := h3.size
  have hba : Below w3.heap.size w3 (w3.alloc (.cells cs e)) := (Below.refl _ _).alloc (Nat.le_refl _) _
  have hlt : ∀ k, A.ownBlock = some k → k < wr.heap.size := by
    obtain ⟨xs, hown, -⟩ := hr
    exact fun k hk => (hown.lt k hk).2
  have hk3 : Row R e sz B (w3.alloc (.cells cs e)) l A := hr.kept hK (by have := hba.size; omega) (fun b hb hbl => ((hba.block b (by omega)).trans (h3.block b (by omega) (fun ho => by have := hok b ho; omega))).trans (h2.block b hbl))
  obtain ⟨A', c', w4, h4, h5, h6⟩ := hk3.add hK t e i z sz bytes ht hi hz hsize hby hzs hsz (by have := hba.size; omega) hn hbs x cs hcs h1 v hvc ⟨w3.heap.size, 0, none⟩ (fun j u hj => by
      rw [adr_add, Nat.zero_add, (Blk.new w3 e cs).cell j]; exact hj)
    (hK _ _ _ _ _ _ (fun p hp => hba.cell hp.2) (fun b hb => ⟨by omega, by have := hba.size; omega, fun he => by have := hlt b he.symm; omega⟩) hv)
  exact ⟨A', c', w4, h4, h5, (hba.mono (by omega)).trans h6⟩

def sliceLen : Value → Nat
  | .slice _ n _ => n
  | _ => 0


end Go.Proofs.YtgmjhoppjjjilaaDoor

namespace Go.Proofs.YtgmjhoppjjjilaaDoor
open Go.ChangeShapes Go.WideShapes Go.ChangeAt Go.RowKit Go.Fl
open Go.Shelf

theorem pVal_leaf {G : Nat → Wd} {k : Nat} {s : Ps} (h : (G s.i).k ≠ 5) : pVal G k s = .ok (wdT (G s.i)) ⟨s.i + 1, s.n⟩ := by
  cases k
  · rw [pVal, if_neg h]
  · rw [pVal, if_neg h]

theorem pVal_deep {G : Nat → Wd} {s : Ps} (h : (G s.i).k = 5) : pVal G 0 s = .bad s.i 3 := by rw [pVal, if_pos h]

theorem pVal_bad {G : Nat → Wd} {k : Nat} {s : Ps} (h : (G s.i).k = 5) {j : Nat} {c : Int} (hs : sev G 93 valA (fun _ => pVal G k) ⟨s.i + 1, s.n⟩ = .bad j c) : pVal G (k + 1) s = .bad j c := by rw [pVal, if_pos h, hs]

theorem pVal_ok {G : Nat → Wd} {k : Nat} {s : Ps} (h : (G s.i).k = 5) {l : List T} {s' : Ps} (hs : sev G 93 valA (fun _ => pVal G k) ⟨s.i + 1, s.n⟩ = .ok l s') : pVal G (k + 1) s = .ok (.mk 5 false 0 0 ⟨#[]⟩ l) s' := by rw [pVal, if_pos h, hs]

theorem enters_of {F : FuncId} {fn : Func} {c : Code} (hf : Tryd.prog.funcs[F]? = some fn) (hname : (fn.name == "runtime.NumGoroutine") = false) (hb : fn.body = some c) (args : Array Value) (w : World) : (callFunc F args).run Tryd.prog w = .ok (.enter F args) w := by
  have h1 : fn.name ≠ "runtime.NumGoroutine" := by simpa using hname
  simp [callFunc, hf, h1, hb]

theorem sevL_len {G : Nat → Wd} {α : Type} {en : UInt8} {b : Wd → Bool} {rd : Nat → Ps → Rs α} : ∀ (f : Nat) (l : List α) (s : Ps) (l' : List α) (s' : Ps), l.length ≤ 12 → sevL G en b rd f l s = .ok l' s' → l'.length ≤ 12
  | 0, _, _, _, _, _, h => by cases h
  | f + 1, l, s, l', s', hl, h => by
    rw [sevL] at h
    split at h
    · cases h
    · split at h
      · cases h
      · split at h
        · cases h
        · split at h
          · cases h; rw [List.length_append, List.length_singleton]; omega
          · split at h
            · exact sevL_len f _ _ _ _ (by rw [List.length_append, List.length_singleton]; omega) h
            · cases h

theorem sev_len {G : Nat → Wd} {α : Type} {en : UInt8} {b : Wd → Bool} {rd : Nat → Ps → Rs α} {s s' : Ps} {l : List α} (h : sev G en b rd s = .ok l s') : l.length ≤ 12 := by
  unfold sev at h
  split at h
  · cases h; exact Nat.zero_le _
  · exact sevL_len _ _ _ _ _ (Nat.zero_le _) h

end Go.Proofs.YtgmjhoppjjjilaaDoor

namespace Go.Proofs.YtgmjhoppjjjilaaDoor
open Go.ChangeShapes Go.WideShapes Go.ChangeAt Go.RowKit Go.Fl
open Go.Shelf

theorem val_kind {x : Wd} (h : valA x = true) : x.k = 1 ∨ x.k = 2 ∨ x.k = 3 ∨ x.k = 4 ∨ x.k = 5 := by
  unfold valA isSgn at h
  simp only [Bool.or_eq_true, Bool.and_eq_true, decide_eq_true_eq] at h
  omega

/-- cells of a value's box, as a walk wants them -/
theorem box6 {w : World} {g : Nat} {t : TypeId} {v0 v1 v2 v3 v4 v5 : Value} (h : Blk w g t #[v0, v1, v2, v3, v4, v5]) :
    (w.cell? ⟨g, 0, none⟩ = some v0 ∧ w.cell? ⟨g, 1, none⟩ = some v1 ∧ w.cell? ⟨g, 2, none⟩ = some v2 ∧ w.cell? ⟨g, 3, none⟩ = some v3 ∧ w.cell? ⟨g, 4, none⟩ = some v4 ∧ w.cell? ⟨g, 5, none⟩ = some v5) ∧
    (w.frozen? ⟨g, 0, none⟩ = false ∧ w.frozen? ⟨g, 1, none⟩ = false ∧ w.frozen? ⟨g, 2, none⟩ = false ∧ w.frozen? ⟨g, 3, none⟩ = false ∧ w.frozen? ⟨g, 4, none⟩ = false ∧ w.frozen? ⟨g, 5, none⟩ = false) :=
  ⟨⟨h.cell 0, h.cell 1, h.cell 2, h.cell 3, h.cell 4, h.cell 5⟩, h.frozen 0, h.frozen 1, h.frozen 2, h.frozen 3, h.frozen 4, h.frozen 5⟩

end Go.Proofs.YtgmjhoppjjjilaaDoor

namespace Go.Proofs.YtgmjhoppjjjilaaDoor
open Go.ChangeShapes Go.WideShapes Go.ChangeAt Go.RowKit Go.Fl
open Go.Shelf

theorem argV_bad {G : Nat → Wd} {k j c : Nat} {most : Int} {s : Ps} {i : Nat} {e : Int} (h : pInner G k s = .bad i e) : pArgV G k j most c s = .bad i e := by unfold pArgV; rw [h]

theorem argV_much {G : Nat → Wd} {k j c : Nat} {most : Int} {s s' : Ps} {v : T} (h : pInner G k s = .ok v s') (h1 : most < ((c + 1 : Nat) : Int)) (h2 : most ≠ -1) : pArgV G k j most c s = .bad j 120 := by unfold pArgV; rw [h]; exact if_pos ⟨h1, h2⟩

theorem argV_ok {G : Nat → Wd} {k j c : Nat} {most : Int} {s s' : Ps} {v : T} (h : pInner G k s = .ok v s') (h1 : ¬ (most < ((c + 1 : Nat) : Int) ∧ most ≠ -1)) : pArgV G k j most c s = .ok v s' := by unfold pArgV; rw [h]; exact if_neg h1

end Go.Proofs.YtgmjhoppjjjilaaDoor

/- the document's parser: its state, and what only looks -/
namespace Go.Proofs.YtgmjhoppjjjilaaDoor
open Go.ChangeShapes Go.WideShapes Go.ChangeAt Go.RowKit Go.Fl
open Go.Shelf

/-- words in memory -/
structure WdsAt (w : World) (g : Nat) (ws : List Wd) : Prop where
  wds : ∀ j k (hj : j < ws.length), k < 5 → w.cell? ⟨g, j * 5 + k, none⟩ = (wd5 ws[j])[k]?
  lt : g < w.heap.size

theorem WdsAt.on {w w' : World} {g : Nat} {ws : List Wd} (h : WdsAt w g ws) (hb : Below w.heap.size w w') : WdsAt w' g ws :=
  ⟨fun j k hj hk => (hb.cell (p := ⟨g, j * 5 + k, none⟩) h.lt).trans (h.wds j k hj hk), Nat.lt_of_lt_of_le h.lt hb.size⟩

theorem WdsAt.word {w : World} {g : Nat} {ws : List Wd} (h : WdsAt w g ws) {j : Nat} {x : Wd} (hx : ws[j]? = some x) : w.cell? ⟨g, j * 5, none⟩ = some (.int .i64 x.k) ∧ w.cell? ⟨g, j * 5 + 1, none⟩ = some (.string x.s) ∧ w.cell? ⟨g, j * 5 + 2, none⟩ = some (.int .i64 x.n) ∧ w.cell? ⟨g, j * 5 + 3, none⟩ = some (.float .f64 x.f) ∧ w.cell? ⟨g, j * 5 + 4, none⟩ = some (.int .i64 (x.at_ : Nat)) ∧ j < ws.length := by
  obtain ⟨hj, rfl⟩ := List.getElem?_eq_some_iff.1 hx
  exact ⟨h.wds j 0 hj (by decide), h.wds j 1 hj (by decide), h.wds j 2 hj (by decide), h.wds j 3 hj (by decide), h.wds j 4 hj (by decide), hj⟩

/-- a state as a value: n words in a row of the capacity cap -/
abbrev StV (g n cap : Nat) (i d m a e : Int) : Value := .agg #[.slice (some ⟨g, 0, none⟩) n cap, .int .i64 i, .int .i64 d, .int .i64 m, .int .i64 a, .int .i64 e]

/-- a state that bears an error -/
def ErV (g n cap : Nat) (v : Value) : Prop := ∃ i d m a e : Int, e ≠ 0 ∧ v = StV g n cap i d m a e

/-- a state in a box -/
def SB (w : World) (b g n cap : Nat) (i d m a e : Int) : Prop := w.heap[b]? = some (.cells #[.slice (some ⟨g, 0, none⟩) n cap, .int .i64 i, .int .i64 d, .int .i64 m, .int .i64 a, .int .i64 e] 63 (0, 0))

theorem SB.cells {w : World} {b g n cap : Nat} {i d m a e : Int} (h : SB w b g n cap i d m a e) : (w.cell? ⟨b, 0, none⟩ = some (.slice (some ⟨g, 0, none⟩) n cap) ∧ w.cell? ⟨b, 1, none⟩ = some (.int .i64 i) ∧ w.cell? ⟨b, 2, none⟩ = some (.int .i64 d) ∧ w.cell? ⟨b, 3, none⟩ = some (.int .i64 m) ∧ w.cell? ⟨b, 4, none⟩ = some (.int .i64 a) ∧ w.cell? ⟨b, 5, none⟩ = some (.int .i64 e)) ∧ (∀ k, w.frozen? ⟨b, k, none⟩ = false) ∧ b < w.heap.size := by
  have h' : w.heap[b]? = some (.cells #[.slice (some ⟨g, 0, none⟩) n cap, .int .i64 i, .int .i64 d, .int .i64 m, .int .i64 a, .int .i64 e] 63 (0, 0)) := h
  refine ⟨⟨?_, ?_, ?_, ?_, ?_, ?_⟩, fun k => by simp [World.frozen?, h'], (Array.getElem?_eq_some_iff.1 h).1⟩
  all_goals rw [cell_of_row _ _ _ _ _ _ h]; rfl

theorem SB.on {w w' : World} {b g n cap : Nat} {i d m a e : Int} (h : SB w b g n cap i d m a e) (hb : Below w.heap.size w w') : SB w' b g n cap i d m a e := (hb.block _ h.cells.2.2).trans h

theorem SB.far {w : World} {b g n cap : Nat} {i d m a e : Int} (h : SB w b g n cap i d m a e) {q k : Nat} (hq : b ≠ q) (u : Value) : SB (w.setCell ⟨q, k, none⟩ u) b g n cap i d m a e := (Below.heap_setCell w ⟨q, k, none⟩ u b hq).trans h

/-- a block of six cells -/
theorem six_cells {w : World} {b : Nat} {T : TypeId} {x0 x1 x2 x3 x4 x5 : Value} (h : w.heap[b]? = some (.cells #[x0, x1, x2, x3, x4, x5] T (0, 0))) : (w.cell? ⟨b, 0, none⟩ = some x0 ∧ w.cell? ⟨b, 1, none⟩ = some x1 ∧ w.cell? ⟨b, 2, none⟩ = some x2 ∧ w.cell? ⟨b, 3, none⟩ = some x3 ∧ w.cell? ⟨b, 4, none⟩ = some x4 ∧ w.cell? ⟨b, 5, none⟩ = some x5) ∧ (w.frozen? ⟨b, 0, none⟩ = false ∧ w.frozen? ⟨b, 1, none⟩ = false ∧ w.frozen? ⟨b, 2, none⟩ = false ∧ w.frozen? ⟨b, 3, none⟩ = false ∧ w.frozen? ⟨b, 4, none⟩ = false ∧ w.frozen? ⟨b, 5, none⟩ = false) ∧ b < w.heap.size := by
  refine ⟨⟨?_, ?_, ?_, ?_, ?_, ?_⟩, ⟨?_, ?_, ?_, ?_, ?_, ?_⟩, (Array.getElem?_eq_some_iff.1 h).1⟩
  all_goals first
    | (rw [cell_of_row _ _ _ _ _ _ h]; rfl)
    | simp [World.frozen?, h]

theorem six_done {w : World} {b : Nat} {T : TypeId} {x0 x1 x2 x3 x4 x5 : Value} (h : w.heap[b]? = some (.cells #[x0, x1, x2, x3, x4, x5] T (0, 0))) (u0 u1 u2 u3 u4 u5 : Value) :
    ((((((w.setCell ⟨b, 0, none⟩ u0).setCell ⟨b, 1, none⟩ u1).setCell ⟨b, 2, none⟩ u2).setCell ⟨b, 3, none⟩ u3).setCell ⟨b, 4, none⟩ u4).setCell ⟨b, 5, none⟩ u5).heap[b]? = some (.cells #[u0, u1, u2, u3, u4, u5] T (0, 0)) := by
  simp [World.setCell, Array.getElem?_modify, h]

theorem two_a' (W : World) (o o' : Obj) : ((W.alloc o).alloc o').heap[W.heap.size]? = some o := (((Below.refl _ (W.alloc o)).alloc (Nat.le_refl _) o').block _ (by simp)).trans (heap_alloc_new W o)
theorem two_b' (W : World) (o o' : Obj) : ((W.alloc o).alloc o').heap[W.heap.size + 1]? = some o' := by
  have := heap_alloc_new (W.alloc o) o'
  rw [World.size_alloc] at this
  exact this

theorem six_far {w : World} {b c : Nat} (hne : b ≠ c) (v0 v1 v2 v3 v4 v5 : Value) :
    ((((((w.setCell ⟨c, 0, none⟩ v0).setCell ⟨c, 1, none⟩ v1).setCell ⟨c, 2, none⟩ v2).setCell ⟨c, 3, none⟩ v3).setCell ⟨c, 4, none⟩ v4).setCell ⟨c, 5, none⟩ v5).heap[b]? = w.heap[b]? :=
  (Below.heap_setCell _ ⟨c, 5, none⟩ _ b hne).trans ((Below.heap_setCell _ ⟨c, 4, none⟩ _ b hne).trans ((Below.heap_setCell _ ⟨c, 3, none⟩ _ b hne).trans ((Below.heap_setCell _ ⟨c, 2, none⟩ _ b hne).trans ((Below.heap_setCell _ ⟨c, 1, none⟩ _ b hne).trans (Below.heap_setCell _ ⟨c, 0, none⟩ _ b hne)))))

/-- two blocks, one set behind the other -/
theorem two_six {w : World} {b c : Nat} {T T' : TypeId} {x0 x1 x2 x3 x4 x5 y0 y1 y2 y3 y4 y5 : Value} (h : w.heap[b]? = some (.cells #[x0, x1, x2, x3, x4, x5] T (0, 0))) (h' : w.heap[c]? = some (.cells #[y0, y1, y2, y3, y4, y5] T' (0, 0))) (hne : b ≠ c) (u0 u1 u2 u3 u4 u5 v0 v1 v2 v3 v4 v5 : Value) :
    ((((((((((((w.setCell ⟨b, 0, none⟩ u0).setCell ⟨b, 1, none⟩ u1).setCell ⟨b, 2, none⟩ u2).setCell ⟨b, 3, none⟩ u3).setCell ⟨b, 4, none⟩ u4).setCell ⟨b, 5, none⟩ u5).setCell ⟨c, 0, none⟩ v0).setCell ⟨c, 1, none⟩ v1).setCell ⟨c, 2, none⟩ v2).setCell ⟨c, 3, none⟩ v3).setCell ⟨c, 4, none⟩ v4).setCell ⟨c, 5, none⟩ v5).heap[b]? = some (.cells #[u0, u1, u2, u3, u4, u5] T (0, 0)) ∧
    ((((((((((((w.setCell ⟨b, 0, none⟩ u0).setCell ⟨b, 1, none⟩ u1).setCell ⟨b, 2, none⟩ u2).setCell ⟨b, 3, none⟩ u3).setCell ⟨b, 4, none⟩ u4).setCell ⟨b, 5, none⟩ u5).setCell ⟨c, 0, none⟩ v0).setCell ⟨c, 1, none⟩ v1).setCell ⟨c, 2, none⟩ v2).setCell ⟨c, 3, none⟩ v3).setCell ⟨c, 4, none⟩ v4).setCell ⟨c, 5, none⟩ v5).heap[c]? = some (.cells #[v0, v1, v2, v3, v4, v5] T' (0, 0)) :=
  ⟨(six_far hne _ _ _ _ _ _).trans (six_done h _ _ _ _ _ _), six_done ((six_far (fun e => hne e.symm) _ _ _ _ _ _).trans h') _ _ _ _ _ _⟩

theorem keepA {w : World} {g : Nat} {o : Obj} (h : w.heap[g]? = some o) (o' : Obj) : (w.alloc o').heap[g]? = some o := (((Below.refl _ w).alloc (Nat.le_refl _) o').block _ (Array.getElem?_eq_some_iff.1 h).1).trans h

theorem newA (w : World) (o o' : Obj) : ((w.alloc o).alloc o').heap[w.heap.size + 1]? = some o' := two_b' w o o'

theorem chain5 (w : World) (o1 o2 o3 o4 o5 : Obj) : (((((w.alloc o1).alloc o2).alloc o3).alloc o4).alloc o5).heap[w.heap.size]? = some o1 ∧ (((((w.alloc o1).alloc o2).alloc o3).alloc o4).alloc o5).heap[w.heap.size + 1]? = some o2 ∧
    (((((w.alloc o1).alloc o2).alloc o3).alloc o4).alloc o5).heap[w.heap.size + 1 + 1]? = some o3 ∧ (((((w.alloc o1).alloc o2).alloc o3).alloc o4).alloc o5).heap[w.heap.size + 1 + 1 + 1]? = some o4 ∧ (((((w.alloc o1).alloc o2).alloc o3).alloc o4).alloc o5).heap[w.heap.size + 1 + 1 + 1 + 1]? = some o5 ∧
    (((((w.alloc o1).alloc o2).alloc o3).alloc o4).alloc o5).heap.size = w.heap.size + 5 ∧ Below w.heap.size w (((((w.alloc o1).alloc o2).alloc o3).alloc o4).alloc o5) := by
  have h3 := newA (w.alloc o1) o2 o3
  have h4 := newA ((w.alloc o1).alloc o2) o3 o4
  have h5 := newA (((w.alloc o1).alloc o2).alloc o3) o4 o5
  simp only [World.size_alloc] at h3 h4 h5
  exact ⟨keepA (keepA (keepA (two_a' w o1 o2) _) _) _, keepA (keepA (keepA (two_b' w o1 o2) _) _) _, keepA (keepA h3 _) _, keepA h4 _, h5, by simp, (((((Below.refl _ w).alloc (Nat.le_refl _) _).alloc (by simp) _).alloc (by simp <;> omega) _).alloc (by simp <;> omega) _).alloc (by simp <;> omega) _⟩

set_option maxHeartbeats 1000000 in
set_option maxRecDepth 100000 in
theorem fail_er (g n cap : Nat) (i d m a e c : Int) (he : e ≠ 0) (w : World) :
    Calls Tryd.prog 29 #[StV g n cap i d m a e, .int .i64 c] w fun z w' => z = .returned (StV g n cap i d m a e) ∧ Below w.heap.size w w' := by
  have h1 : (e == 0) = false := by simpa using he
  clear he
  go_enter Tryd.func29, Tryd.ntmps29
  go_wp2_with fail
  exact bodyPost_ret (v := StV g n cap i d m a e) (by simp [results, Tryd.results29, go_sem]) rfl ⟨rfl, by
    repeat (first | exact Below.refl _ _ | refine Below.setCell ?_ (by simp) _ | refine Below.drew ?_ | refine Below.alloc ?_ (by simp) _)⟩

set_option maxHeartbeats 1000000 in
set_option maxRecDepth 100000 in
theorem fail_ok {w : World} {g cap : Nat} {ws : List Wd} {i : Nat} {x : Wd} (hw : WdsAt w g ws) (hx : ws[i]? = some x) (d m a c : Int) :
    Calls Tryd.prog 29 #[StV g ws.length cap i d m a 0, .int .i64 c] w fun z w' => z = .returned (StV g ws.length cap i d m (x.at_ : Nat) c) ∧ Below w.heap.size w w' := by
  obtain ⟨e0, e1, e2, e3, e4, hi⟩ := hw.word hx
  have hi' : (i : Int) < (ws.length : Int) := by omega
  have hgl := hw.lt
  clear hw hx
  go_enter Tryd.func29, Tryd.ntmps29
  go_wp2_with fail
  exact bodyPost_ret (v := StV g ws.length cap i d m (x.at_ : Nat) c) (by simp [results, Tryd.results29, go_sem]) rfl ⟨rfl, by
    repeat (first | exact Below.refl _ _ | refine Below.setCell ?_ (by simp) _ | refine Below.drew ?_ | refine Below.alloc ?_ (by simp) _)⟩

set_option maxHeartbeats 1000000 in
set_option maxRecDepth 100000 in
theorem is_er (g n cap : Nat) (i d m a e : Int) (he : e ≠ 0) (S : ByteArray) (w : World) :
    Calls Tryd.prog 45 #[StV g n cap i d m a e, .string S] w fun z w' => z = .returned (.bool false) ∧ Below w.heap.size w w' := by
  have h1 : (e == 0) = false := by simpa using he
  clear he
  go_enter Tryd.func45, Tryd.ntmps45
  go_wp2_with fail
  go_ret
  exact ⟨rfl, (Below.refl _ _).alloc (Nat.le_refl _) _⟩

set_option maxHeartbeats 1000000 in
set_option maxRecDepth 100000 in
theorem is_ok {w : World} {g cap : Nat} {ws : List Wd} {i : Nat} {x : Wd} (hw : WdsAt w g ws) (hx : ws[i]? = some x) (d m a : Int) (c : UInt8) :
    Calls Tryd.prog 45 #[StV g ws.length cap i d m a 0, .string ⟨#[c]⟩] w fun z w' => z = .returned (.bool (isSgn x c)) ∧ Below w.heap.size w w' := by
  obtain ⟨e0, e1, e2, e3, e4, hi⟩ := hw.word hx
  have hi' : (i : Int) < (ws.length : Int) := by omega
  have hgl := hw.lt
  clear hw hx
  by_cases hk : x.k = 5
  · have d1 : (x.k == 5) = true := by simpa using hk
    have HR : Hid (isSgn x c = (x.s.toList == [c])) := Lib.hid (by unfold isSgn isL; rw [decide_eq_true hk, Lib.toList_data]; rfl)
    clear hk
    rw [HR.out]
    go_enter Tryd.func45, Tryd.ntmps45
    go_wp2_with fail
    go_ret
    exact ⟨rfl, (Below.refl _ _).alloc (Nat.le_refl _) _⟩
  · have d1 : (x.k == 5) = false := by simpa using hk
    have HR : Hid (isSgn x c = false) := Lib.hid (by unfold isSgn; rw [decide_eq_false hk]; rfl)
    clear hk
    rw [HR.out]
    go_enter Tryd.func45, Tryd.ntmps45
    go_wp2_with fail
    go_ret
    exact ⟨rfl, (Below.refl _ _).alloc (Nat.le_refl _) _⟩

set_option maxHeartbeats 1000000 in
set_option maxRecDepth 100000 in
theorem sign_er (g n cap : Nat) (i d m a e : Int) (he : e ≠ 0) (S : ByteArray) (w : World) :
    Calls Tryd.prog 27 #[StV g n cap i d m a e, .string S] w fun z w' => z = .returned (StV g n cap i d m a e) ∧ Below w.heap.size w w' := by
  have h1 : (e == 0) = false := by simpa using he
  have h2 : (e != 0) = true := by simpa using he
  clear he
  go_enter Tryd.func27, Tryd.ntmps27
  go_wp2_with fail
  exact bodyPost_ret (v := StV g n cap i d m a e) (by simp [results, Tryd.results27, go_sem]) rfl ⟨rfl, by
    repeat (first | exact Below.refl _ _ | refine Below.setCell ?_ (by simp) _ | refine Below.drew ?_ | refine Below.alloc ?_ (by simp) _)⟩

set_option maxHeartbeats 1000000 in
set_option maxRecDepth 100000 in
theorem sign_no {w : World} {g cap : Nat} {ws : List Wd} {i : Nat} {x : Wd} (hw : WdsAt w g ws) (hx : ws[i]? = some x) (d m a : Int) (c : UInt8) (hz : isSgn x c = false) :
    Calls Tryd.prog 27 #[StV g ws.length cap i d m a 0, .string ⟨#[c]⟩] w fun z w' => z = .returned (StV g ws.length cap i d m (x.at_ : Nat) 120) ∧ Below w.heap.size w w' := by
  have HI := Lib.hid (fun W (hb : Below w.heap.size w W) => is_ok (cap := cap) (hw.on hb) hx d m a c)
  have HF := Lib.hid (fun W (hb : Below w.heap.size w W) => fail_ok (cap := cap) (hw.on hb) hx d m a 120)
  rw [hz] at HI
  clear hw hx hz
  go_enter Tryd.func27, Tryd.ntmps27
  go_wp2_with fail
  refine (HI.out _ (((Below.refl _ w).alloc (Nat.le_refl _) _).alloc (by simp) _)).mono ?_
  rintro e w1 ⟨rfl, hb1⟩
  have p1 := (hb1.block w.heap.size (by simp <;> omega)).trans (two_a' w _ _)
  have p2 := (hb1.block (w.heap.size + 1) (by simp)).trans (two_b' w _ _)
  have hb1w := (((Below.refl _ w).alloc (Nat.le_refl _) _).alloc (by simp) _).trans (hb1.mono (by simp <;> omega))
  obtain ⟨⟨x0, x1, x2, x3, x4, x5⟩, ⟨f0, f1, f2, f3, f4, f5⟩, l1⟩ := six_cells p1
  obtain ⟨⟨y0, y1, y2, y3, y4, y5⟩, ⟨g0, g1, g2, g3, g4, g5⟩, l2⟩ := six_cells p2
  have HB := Lib.hid hb1w
  clear hb1 p1 hb1w
  go_wp2_with fail
  refine (HF.out _ HB.out).mono ?_
  rintro e w2 ⟨rfl, hb2⟩
  have q2 := (hb2.block _ l2).trans p2
  obtain ⟨⟨y0', y1', y2', y3', y4', y5'⟩, ⟨g0', g1', g2', g3', g4', g5'⟩, l2'⟩ := six_cells q2
  have HB2 := Lib.hid (HB.out.trans (hb2.mono HB.out.size))
  clear hb2
  go_wp2_with fail
  obtain ⟨⟨r0, r1, r2, r3, r4, r5⟩, -, -⟩ := six_cells (six_done q2 (.slice (some ⟨g, 0, none⟩) ws.length cap) (.int .i64 i) (.int .i64 d) (.int .i64 m) (.int .i64 (x.at_ : Nat)) (.int .i64 120))
  exact bodyPost_ret (v := StV g ws.length cap i d m (x.at_ : Nat) 120) (by simp [results, Tryd.results27, go_sem, r0, r1, r2, r3, r4, r5]) rfl ⟨rfl, by
    repeat (with_reducible first | exact HB2.out | refine Below.setCell ?_ (by simp) _)⟩

set_option maxHeartbeats 1000000 in
set_option maxRecDepth 100000 in
theorem sign_yes {w : World} {g cap : Nat} {ws : List Wd} {i : Nat} {x : Wd} (hw : WdsAt w g ws) (hx : ws[i]? = some x) (hn : ws.length ≤ 1501) (d m a : Int) (c : UInt8) (hz : isSgn x c = true) :
    Calls Tryd.prog 27 #[StV g ws.length cap i d m a 0, .string ⟨#[c]⟩] w fun z w' => z = .returned (StV g ws.length cap (i + 1 : Nat) d m a 0) ∧ Below w.heap.size w w' := by
  have hi : i < ws.length := (List.getElem?_eq_some_iff.1 hx).1
  have hw64 : wrap64 ((i : Int) + 1) = ((i + 1 : Nat) : Int) := by
    rw [wrap64_id (is64_iff.2 (by omega))]; omega
  have HI := Lib.hid (fun W (hb : Below w.heap.size w W) => is_ok (cap := cap) (hw.on hb) hx d m a c)
  rw [hz] at HI
  clear hw hx hi hz
  go_enter Tryd.func27, Tryd.ntmps27
  go_wp2_with fail
  refine (HI.out _ (((Below.refl _ w).alloc (Nat.le_refl _) _).alloc (by simp) _)).mono ?_
  rintro e w1 ⟨rfl, hb1⟩
  have p1 := (hb1.block w.heap.size (by simp <;> omega)).trans (two_a' w _ _)
  have p2 := (hb1.block (w.heap.size + 1) (by simp)).trans (two_b' w _ _)
  have hb1w := (((Below.refl _ w).alloc (Nat.le_refl _) _).alloc (by simp) _).trans (hb1.mono (by simp <;> omega))
  obtain ⟨⟨x0, x1, x2, x3, x4, x5⟩, ⟨f0, f1, f2, f3, f4, f5⟩, l1⟩ := six_cells p1
  obtain ⟨⟨y0, y1, y2, y3, y4, y5⟩, ⟨g0, g1, g2, g3, g4, g5⟩, l2⟩ := six_cells p2
  have HB := Lib.hid hb1w
  clear hb1 p1 hb1w
  go_wp2_with fail
  have q2 := (Below.heap_setCell w1 ⟨w.heap.size, 1, none⟩ (.int .i64 ((i : Int) + 1)) (w.heap.size + 1) (by simp)).trans p2
  obtain ⟨⟨r0, r1, r2, r3, r4, r5⟩, -, -⟩ := six_cells (six_done q2 (.slice (some ⟨g, 0, none⟩) ws.length cap) (.int .i64 ((i : Int) + 1)) (.int .i64 d) (.int .i64 m) (.int .i64 a) (.int .i64 0))
  exact bodyPost_ret (v := StV g ws.length cap (i + 1 : Nat) d m a 0) (by simp [results, Tryd.results27, go_sem, r0, r1, r2, r3, r4, r5]) rfl ⟨rfl, by
    repeat (with_reducible first | exact HB.out | refine Below.setCell ?_ (by simp) _)⟩

set_option maxHeartbeats 1000000 in
set_option maxRecDepth 100000 in
theorem into_er (g n cap : Nat) (i d m a e : Int) (he : e ≠ 0) (w : World) :
    Calls Tryd.prog 67 #[StV g n cap i d m a e] w fun z w' => z = .returned (StV g n cap i d m a e) ∧ Below w.heap.size w w' := by
  have h1 : (e == 0) = false := by simpa using he
  have h2 : (e != 0) = true := by simpa using he
  clear he
  go_enter Tryd.func67, Tryd.ntmps67
  go_wp2_with fail
  exact bodyPost_ret (v := StV g n cap i d m a e) (by simp [results, Tryd.results67, go_sem]) rfl ⟨rfl, by
    repeat (first | exact Below.refl _ _ | refine Below.setCell ?_ (by simp) _ | refine Below.drew ?_ | refine Below.alloc ?_ (by simp) _)⟩

set_option maxHeartbeats 1000000 in
set_option maxRecDepth 100000 in
theorem into_deep {w : World} {g cap : Nat} {ws : List Wd} {i : Nat} {x : Wd} (hw : WdsAt w g ws) (hx : ws[i]? = some x) (m a : Int) :
    Calls Tryd.prog 67 #[StV g ws.length cap i 12 m a 0] w fun z w' => z = .returned (StV g ws.length cap i 12 m (x.at_ : Nat) 3) ∧ Below w.heap.size w w' := by
  have HF := Lib.hid (fun W (hb : Below w.heap.size w W) => fail_ok (cap := cap) (hw.on hb) hx 12 m a 3)
  clear hw hx
  go_enter Tryd.func67, Tryd.ntmps67
  go_wp2_with fail
  refine (HF.out _ (((Below.refl _ w).alloc (Nat.le_refl _) _).alloc (by simp) _)).mono ?_
  rintro e w1 ⟨rfl, hb1⟩
  have p1 := (hb1.block w.heap.size (by simp <;> omega)).trans (two_a' w _ _)
  have p2 := (hb1.block (w.heap.size + 1) (by simp)).trans (two_b' w _ _)
  have hb1w := (((Below.refl _ w).alloc (Nat.le_refl _) _).alloc (by simp) _).trans (hb1.mono (by simp <;> omega))
  obtain ⟨⟨x0, x1, x2, x3, x4, x5⟩, ⟨f0, f1, f2, f3, f4, f5⟩, l1⟩ := six_cells p1
  obtain ⟨⟨y0, y1, y2, y3, y4, y5⟩, ⟨g0, g1, g2, g3, g4, g5⟩, l2⟩ := six_cells p2
  have HB := Lib.hid hb1w
  clear hb1 p1 hb1w
  go_wp2_with fail
  obtain ⟨⟨r0, r1, r2, r3, r4, r5⟩, -, -⟩ := six_cells (six_done p2 (.slice (some ⟨g, 0, none⟩) ws.length cap) (.int .i64 i) (.int .i64 12) (.int .i64 m) (.int .i64 (x.at_ : Nat)) (.int .i64 3))
  exact bodyPost_ret (v := StV g ws.length cap i 12 m (x.at_ : Nat) 3) (by simp [results, Tryd.results67, go_sem, r0, r1, r2, r3, r4, r5]) rfl ⟨rfl, by
    repeat (with_reducible first | exact HB.out | refine Below.setCell ?_ (by simp) _)⟩

set_option maxHeartbeats 1000000 in
set_option maxRecDepth 100000 in
theorem into_ok (g n cap : Nat) (i m a : Int) (d : Nat) (hd : d < 12) (w : World) :
    Calls Tryd.prog 67 #[StV g n cap i d m a 0] w fun z w' => z = .returned (StV g n cap i (d + 1 : Nat) m a 0) ∧ Below w.heap.size w w' := by
  have h1 : ¬ (12 : Int) ≤ (d : Int) := by omega
  have hw64 : wrap64 ((d : Int) + 1) = ((d + 1 : Nat) : Int) := by
    rw [wrap64_id (is64_iff.2 (by omega))]; omega
  clear hd
  go_enter Tryd.func67, Tryd.ntmps67
  go_wp2_with fail
  exact bodyPost_ret (v := StV g n cap i (d + 1 : Nat) m a 0) (by simp [results, Tryd.results67, go_sem]) rfl ⟨rfl, by
    repeat (first | exact Below.refl _ _ | refine Below.setCell ?_ (by simp) _ | refine Below.drew ?_ | refine Below.alloc ?_ (by simp) _)⟩

end Go.Proofs.YtgmjhoppjjjilaaDoor
