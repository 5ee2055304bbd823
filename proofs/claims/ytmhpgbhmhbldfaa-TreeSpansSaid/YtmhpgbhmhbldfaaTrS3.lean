/- the keys below a node, walked -/
import Derived.Test.YtmhpgbhmhbldfaaTrS5
import Derived.RegionIn
import Derived.Deep.Cut
import Derived.Deep.RegionHeld3
namespace Go.Proofs.Ytmhpgbhmhbldfaa
open Go.ChangeShapes Go.WideShapes Go.ChangeAt Go.RowKit Go.Shelf

attribute [local go_sem] Oper.semAt_some

/-- a node and a span in boxes of their own -/
def NodeCut (W : World) (A A' : Option Addr) (n c n' c' : Nat) (lo hi : ByteArray) (a b : Value) (wx : World) : Prop :=
  ∃ g h, a = .pointer (some ⟨g, 0, none⟩) ∧ b = .pointer (some ⟨h, 0, none⟩) ∧ g ≠ h ∧ W.heap.size ≤ g ∧ W.heap.size ≤ h ∧ Two wx g (.slice A n c) (.slice A' n' c') ∧ SpB wx h lo hi ∧ Below W.heap.size W wx

theorem two_a (W : World) (o o' : Obj) : ((W.alloc o).alloc o').heap[W.heap.size]? = some o := (((Below.refl _ (W.alloc o)).alloc (Nat.le_refl _) o').block _ (by simp)).trans (heap_alloc_new W o)
theorem two_b (W : World) (o o' : Obj) : ((W.alloc o).alloc o').heap[W.heap.size + 1]? = some o' := by
  have := heap_alloc_new (W.alloc o) o'
  rw [World.size_alloc] at this
  exact this
theorem held_drew {W w : World} (h : Below W.heap.size W w) : Below W.heap.size W w.drew := h.drew
theorem held_alloc {W w : World} (h : Below W.heap.size W w) (o : Obj) : Below W.heap.size W (w.alloc o) := h.alloc h.size o
theorem held_set {W w : World} {b i : Nat} (h : Below W.heap.size W w) (hb : W.heap.size ≤ b) (v : Value) (sp : Option _) : Below W.heap.size W (w.setCell ⟨b, i, sp⟩ v) := h.setCell hb v

theorem then_falseIn {F : Fence} {n : Nat} {P : Program} {c : Code} {K : Act → World → Prop} {Q : Exit → Act → World → Prop} {a : Act} {w : World} (h : c.wpIn F n P (Exit.then K (fun _ _ _ => False)) a w) : c.wpIn F n P (Exit.then K Q) a w := wpIn_mono h (by
  intro e a w h
  cases e with
  | normal => exact h
  | _ => exact h.elim)

theorem inS_hi {lo hi k : ByteArray} (h : inS lo hi k = true) : hi.size = 0 ∨ ltS k hi = true := by
  unfold inS at h
  rw [Bool.and_eq_true, Bool.or_eq_true] at h
  rcases h.2 with h | h
  · exact .inl (by simpa using h)
  · exact .inr h

theorem ne_succ (n : Nat) : n ≠ n + 1 := by omega
theorem ne_succ' (n : Nat) : n + 1 ≠ n := by omega
theorem alloc_keeps {w : World} {g : Nat} {o : Obj} (h : w.heap[g]? = some o) (o' : Obj) : (w.alloc o').heap[g]? = some o := (((Below.refl _ w).alloc (Nat.le_refl _) o').block _ (Array.getElem?_eq_some_iff.1 h).1).trans h

theorem set_two {X : World} {g : Nat} {x y : Value} {T : TypeId} (h : X.heap[g]? = some (.cells #[x, y] T (0, 0))) (a b : Value) : ((X.setCell ⟨g, 0, none⟩ a).setCell ⟨g, 1, none⟩ b).heap[g]? = some (.cells #[a, b] T (0, 0)) := by
  simp [World.setCell, Array.getElem?_modify, h]

theorem set_far {X : World} {g h : Nat} (hne : g ≠ h) (a b : Value) : ((X.setCell ⟨h, 0, none⟩ a).setCell ⟨h, 1, none⟩ b).heap[g]? = X.heap[g]? := (Below.heap_setCell _ ⟨h, 1, none⟩ b g hne).trans (Below.heap_setCell X ⟨h, 0, none⟩ a g hne)

section
variable {W X : World} {A A' : Option Addr} {n c n' c' : Nat} {lo hi : ByteArray}

theorem cut_sets {g h : Nat} {x y u v : Value} (hg : X.heap[g]? = some (.cells #[x, y] 60 (0, 0))) (hh : X.heap[h]? = some (.cells #[u, v] 34 (0, 0))) (hne : g ≠ h) (hW : Below W.heap.size W X) (h1 : W.heap.size ≤ g) (h2 : W.heap.size ≤ h) :
    NodeCut W A A' n c n' c' lo hi (.pointer (some ⟨g, 0, none⟩)) (.pointer (some ⟨h, 0, none⟩)) ((((X.setCell ⟨g, 0, none⟩ (.slice A n c)).setCell ⟨g, 1, none⟩ (.slice A' n' c')).setCell ⟨h, 0, none⟩ (.string lo)).setCell ⟨h, 1, none⟩ (.string hi)) :=
  ⟨g, h, rfl, rfl, hne, h1, h2, (set_far hne _ _).trans (set_two hg _ _), set_two ((set_far (fun e => hne e.symm) _ _).trans hh) _ _, (((hW.setCell h1 _).setCell h1 _).setCell h2 _).setCell h2 _⟩

theorem cut_a (hW : Below W.heap.size W X) : NodeCut W A A' n c n' c' lo hi (.pointer (some ⟨X.heap.size, 0, none⟩)) (.pointer (some ⟨X.heap.size + 1, 0, none⟩)) ((X.alloc (.cells #[.slice A n c, .slice A' n' c'] 60)).alloc (.cells #[.string lo, .string hi] 34)) :=
  ⟨_, _, rfl, rfl, by omega, hW.size, Nat.le_succ_of_le hW.size, two_a X _ _, two_b X _ _, held_alloc (held_alloc hW _) _⟩

theorem cut_b (hW : Below W.heap.size W X) : NodeCut W A A' n c n' c' lo hi (.pointer (some ⟨X.heap.size + 1, 0, none⟩)) (.pointer (some ⟨X.heap.size, 0, none⟩)) ((X.alloc (.cells #[.string lo, .string hi] 34)).alloc (.cells #[.slice A n c, .slice A' n' c'] 60)) :=
  ⟨_, _, rfl, rfl, by omega, Nat.le_succ_of_le hW.size, hW.size, two_b X _ _, two_a X _ _, held_alloc (held_alloc hW _) _⟩

theorem cut_c {h : Nat} {u v : Value} (hh : X.heap[h]? = some (.cells #[u, v] 34 (0, 0))) (hW : Below W.heap.size W X) (h2 : W.heap.size ≤ h) :
    NodeCut W A A' n c n' c' lo hi (.pointer (some ⟨X.heap.size, 0, none⟩)) (.pointer (some ⟨h, 0, none⟩)) (((X.alloc (.cells #[.slice A n c, .slice A' n' c'] 60)).setCell ⟨h, 0, none⟩ (.string lo)).setCell ⟨h, 1, none⟩ (.string hi)) := by
  have hlt := (Array.getElem?_eq_some_iff.1 hh).1
  have hb := held_alloc hW (.cells #[.slice A n c, .slice A' n' c'] 60)
  exact ⟨_, _, rfl, rfl, by omega, hW.size, h2, (set_far (by omega) _ _).trans (heap_alloc_new X _), set_two ((((Below.refl _ X).alloc (Nat.le_refl _) _).block _ hlt).trans hh) _ _, (hb.setCell h2 _).setCell h2 _⟩

end

/-- two cells that are read, whatever is made meanwhile -/
def Reads2 (w : World) (p : Nat) (a b : Value) : Prop :=
  (w.cell? ⟨p, 0, none⟩ = some a ∧ w.cell? ⟨p, 1, none⟩ = some b) ∧ ((∀ o, (w.alloc o).cell? ⟨p, 0, none⟩ = some a) ∧ (∀ o, (w.alloc o).cell? ⟨p, 1, none⟩ = some b)) ∧
    ((∀ o o', ((w.alloc o).alloc o').cell? ⟨p, 0, none⟩ = some a) ∧ (∀ o o', ((w.alloc o).alloc o').cell? ⟨p, 1, none⟩ = some b))

theorem reads2 {W w : World} {p : Nat} {a b : Value} (h0 : W.cell? ⟨p, 0, none⟩ = some a) (h1 : W.cell? ⟨p, 1, none⟩ = some b) (hl : p < W.heap.size) (hb : Below W.heap.size W w) : Reads2 w p a b := by
  have k : ∀ w', Below W.heap.size W w' → w'.cell? ⟨p, 0, none⟩ = some a ∧ w'.cell? ⟨p, 1, none⟩ = some b := fun w' h => ⟨(h.cell (p := ⟨p, 0, none⟩) hl).trans h0, (h.cell (p := ⟨p, 1, none⟩) hl).trans h1⟩
  have b1 : ∀ o, Below W.heap.size W (w.alloc o) := fun o => hb.alloc hb.size o
  have b2 : ∀ o o', Below W.heap.size W ((w.alloc o).alloc o') := fun o o' => (b1 o).alloc (b1 o).size o'
  exact ⟨k w hb, ⟨fun o => (k _ (b1 o)).1, fun o => (k _ (b1 o)).2⟩, fun o o' => (k _ (b2 o o')).1, fun o o' => (k _ (b2 o o')).2⟩

/-- a box of two cells of one's own, whatever is made meanwhile -/
def Own2 (w : World) (g : Nat) (a b : Value) : Prop :=
  (w.cell? ⟨g, 0, none⟩ = some a ∧ w.cell? ⟨g, 1, none⟩ = some b ∧ w.frozen? ⟨g, 0, none⟩ = false ∧ w.frozen? ⟨g, 1, none⟩ = false) ∧
    ((∀ o, (w.alloc o).cell? ⟨g, 0, none⟩ = some a) ∧ (∀ o, (w.alloc o).cell? ⟨g, 1, none⟩ = some b) ∧ (∀ o, (w.alloc o).frozen? ⟨g, 0, none⟩ = false) ∧ (∀ o, (w.alloc o).frozen? ⟨g, 1, none⟩ = false))

theorem own2 {w : World} {g : Nat} {a b : Value} {T : TypeId} (h : w.heap[g]? = some (.cells #[a, b] T (0, 0))) : Own2 w g a b := by
  have k : ∀ {w : World}, w.heap[g]? = some (.cells #[a, b] T (0, 0)) → w.cell? ⟨g, 0, none⟩ = some a ∧ w.cell? ⟨g, 1, none⟩ = some b ∧ w.frozen? ⟨g, 0, none⟩ = false ∧ w.frozen? ⟨g, 1, none⟩ = false := fun {w} h =>
    ⟨by rw [cell_of_row _ _ _ _ _ _ h]; rfl, by rw [cell_of_row _ _ _ _ _ _ h]; rfl, by simp [World.frozen?, h], by simp [World.frozen?, h]⟩
  have k2 : ∀ o, (w.alloc o).heap[g]? = some (.cells #[a, b] T (0, 0)) := fun o => (((Below.refl _ w).alloc (Nat.le_refl _) o).block g (Array.getElem?_eq_some_iff.1 h).1).trans h
  exact ⟨k h, fun o => (k (k2 o)).1, fun o => (k (k2 o)).2.1, fun o => (k (k2 o)).2.2.1, fun o => (k (k2 o)).2.2.2⟩

theorem fresh_ne {w : World} {g : Nat} {o : Obj} (h : w.heap[g]? = some o) : ¬ (w.heap.size = g) ∧ ¬ (g = w.heap.size) := by
  have := (Array.getElem?_eq_some_iff.1 h).1
  omega


theorem inS_no {lo hi k : ByteArray} (h : inS lo hi k = false) (hlo : ltS k lo = false) : hi.size ≠ 0 ∧ ltS k hi = false := by
  unfold inS at h
  rw [hlo] at h
  simpa using h

theorem place_at {lo k : ByteArray} : ∀ {ks : List ByteArray}, ks[placeK ltS lo ks]? = some k → ltS k lo = false
  | [], h => by simp at h
  | y :: r, h => by
    cases hy : ltS y lo with
    | true =>
      have e : placeK ltS lo (y :: r) = placeK ltS lo r + 1 := by unfold placeK; rw [List.takeWhile_cons, hy]; simp
      rw [e, List.getElem?_cons_succ] at h
      exact place_at h
    | false =>
      have e : placeK ltS lo (y :: r) = 0 := by unfold placeK; rw [List.takeWhile_cons, hy]; simp
      rw [e] at h
      simp at h
      rw [← h]; exact hy


theorem SpB.high {w : World} {g : Nat} {lo hi : ByteArray} (h : SpB w g lo hi) (hi' : ByteArray) : SpB (w.setCell ⟨g, 1, none⟩ (.string hi')) g lo hi' := by
  have h' : w.heap[g]? = some (.cells #[.string lo, .string hi] 34 (0, 0)) := h
  simp [SpB, World.setCell, Array.getElem?_modify, h']

theorem round_in {F : Fence} {n : Nat} {P : Program} {l : Nat} {f : FuncId} {tmps : Array Value} {assign body : Code} {w : World} {R : Ending → World → Prop} (h : RoundIn F n P l f tmps assign body w R) (la : Nat) : RoundIn (F.inRound la) n P l f tmps assign body w R := h
theorem clos_and {α : Type} {J : (Nat → Prop) → List α → World → Prop} {p : Prop} (h : Clos J) : Clos (fun m xs V => p ∧ J m xs V) := fun _ _ _ _ _ h1 ht hm => ⟨h1.1, h _ _ _ _ _ h1.2 ht hm⟩
theorem recs_and {α : Type} {B : Nat} {J : (Nat → Prop) → List α → World → Prop} {p : Prop} (h : Recs B J) : Recs B (fun m xs V => p ∧ J m xs V) := fun _ _ _ _ h1 ht hs => ⟨h1.1, h _ _ _ _ h1.2 ht hs⟩

set_option maxHeartbeats 8000000 in
set_option maxRecDepth 100000 in
theorem blw_step (deep : Nat) (IH : Hid (∀ (c : B ByteArray) (lo hi : ByteArray) (W0 : World) (read : Nat → Prop) (pd pa pi ps M G : Nat) (laid : List (Nat × Value)), Blw W0 read pd pa pi ps M G laid deep c lo hi → (∀ b, read b → b < W0.heap.size) → (∀ x ∈ c.nodes, ∀ k ∈ x.2.1, k.size ≤ 1000) → ∀ n,
    Iter Fence.wide n Try.prog 37 #[.pointer (some ⟨pd, 0, none⟩), .pointer (some ⟨pa, 0, none⟩), .pointer (some ⟨pi, 0, none⟩), .pointer (some ⟨ps, 0, none⟩)] (fun s : ByteArray => #[Value.string s]) (fun xs => xs = spanF lo hi c.flat) (fun _ => True) (spanF lo hi c.flat).length read W0)) :
    ∀ (c : B ByteArray) (lo hi : ByteArray) (W0 : World) (read : Nat → Prop) (pd pa pi ps M G : Nat) (laid : List (Nat × Value)), Blw W0 read pd pa pi ps M G laid (deep + 1) c lo hi → (∀ b, read b → b < W0.heap.size) → (∀ x ∈ c.nodes, ∀ k ∈ x.2.1, k.size ≤ 1000) → ∀ n,
    Iter Fence.wide n Try.prog 37 #[.pointer (some ⟨pd, 0, none⟩), .pointer (some ⟨pa, 0, none⟩), .pointer (some ⟨pi, 0, none⟩), .pointer (some ⟨ps, 0, none⟩)] (fun s : ByteArray => #[Value.string s]) (fun xs => xs = spanF lo hi c.flat) (fun _ => True) (spanF lo hi c.flat).length read W0 := by
    intro c lo hi W0 read pd pa pi ps M G laid hBlw hrd hksz n
    intro l J Jx mine W hJ hJx hH hY h0 hm
    have hB := hBlw.hold hH
    have HY : Hid (∀ (m : Nat) (mine : Nat → Prop) (pre : List ByteArray) (x : ByteArray) (W1 : World), J mine pre W1 → pre.length < (spanF lo hi c.flat).length → YieldAt Fence.wide m Try.prog l #[Value.string x] W1 fun e W' =>
      (e = .returned (.bool true) ∧ J mine (pre ++ [x]) W' ∧ Hold (fun b => mine b ∨ read b) W1 W') ∨ (e = .returned (.bool false) ∧ Jx mine (pre ++ [x]) W' ∧ Hold (fun b => mine b ∨ read b) W1 W')) := Lib.hid (fun m mine pre x W1 hj hl => yield_any (hY mine pre x W1 hj hl))
    refine callsIn_wide.2 ((callsIn_wide (n := 9)).1 ?_)
    -- the node
    obtain ⟨⟨hL1, hL2, hL3⟩, A, n1, cc, A', n', cc', hget, hnode⟩ := hB.nodes _ (node_mem c)
    obtain rfl : n1 = c.keys.length := hnode.hn
    obtain rfl : n' = c.kids.length := by rw [hnode.hn', List.length_map]
    have hkid : Kidly c.kids c.keys := by
      rcases hL3 with e | e
      · exact .inl (by simpa using e)
      · exact .inr (by simpa using e)
    have hrk : RisK ltS c.keys := by
      have hs := keys_mix c.keys c.kids hkid
      have hcf : c.flat = mix c.kids c.keys := by obtain ⟨i, ks, ts⟩ := c; rw [B.flat]; rfl
      rw [← hcf] at hs
      exact hB.ris.sublist hs
    obtain ⟨W1, hW1⟩ : ∃ W1, W.alloc (.cells #[.func (.yield l) #[] #[]] 42) = W1 := ⟨_, rfl⟩
    have hb1 : Below W.heap.size W W1 := hW1 ▸ (Below.refl _ _).alloc (Nat.le_refl _) _
    have hy1 : W1.heap[W.heap.size]? = some (.cells #[.func (.yield l) #[] #[]] 42 (0, 0)) := hW1 ▸ heap_alloc_new W _
    have hB1 := hB.hold (read := read) (W' := W1) ⟨hb1.size, fun b _ hb => hb1.block b hb⟩
    have x1 : W1.cell? ⟨pd, 0, none⟩ = some (.int .i64 ((deep + 1 : Nat) : Int)) := by rw [cell_of_row _ _ _ _ _ _ hB1.bd]; rfl
    have x2 : W1.cell? ⟨pa, 0, none⟩ = some .nilFunc ∧ W1.cell? ⟨pa, 1, none⟩ = some (.map (some M)) ∧ W1.cell? ⟨pa, 2, none⟩ = some (.map (some G)) := by
      refine ⟨?_, ?_, ?_⟩ <;> (rw [cell_of_row _ _ _ _ _ _ hB1.ba]; rfl)
    obtain ⟨x20, x21, x22⟩ := x2
    have x3 : W1.cell? ⟨pi, 0, none⟩ = some (.int .u64 (c.id : Int)) := by rw [cell_of_row _ _ _ _ _ _ hB1.bi]; rfl
    obtain ⟨⟨x4, x5⟩, -, -⟩ := hB1.bs.cells
    have hd0 : (((deep + 1 : Nat) : Int) == 0) = false := by
      have : ¬ (((deep + 1 : Nat) : Int) = 0) := by omega
      simpa using this
    have hidl : c.id < 18446744073709551616 := by have := hB.ids _ (node_mem c); simp at this; omega
    have hlA : pa < W1.heap.size := (Array.getElem?_eq_some_iff.1 hB1.ba).1
    have hlI : pi < W1.heap.size := (Array.getElem?_eq_some_iff.1 hB1.bi).1
    have hlS : ps < W1.heap.size := hB1.bs.cells.2.2
    have hSB : ∀ w', Below W1.heap.size W1 w' → ((w'.cell? ⟨pa, 0, none⟩ = some .nilFunc ∧ w'.cell? ⟨pa, 1, none⟩ = some (.map (some M)) ∧ w'.cell? ⟨pa, 2, none⟩ = some (.map (some G)) ∧ w'.cell? ⟨pi, 0, none⟩ = some (.int .u64 (c.id : Int)) ∧ w'.cell? ⟨ps, 0, none⟩ = some (.string lo) ∧ w'.cell? ⟨ps, 1, none⟩ = some (.string hi)) ∧ Below W1.heap.size W1 w') := fun w' hb => ⟨⟨(hb.cell (p := ⟨pa, 0, none⟩) hlA).trans x20, (hb.cell (p := ⟨pa, 1, none⟩) hlA).trans x21, (hb.cell (p := ⟨pa, 2, none⟩) hlA).trans x22, (hb.cell (p := ⟨pi, 0, none⟩) hlI).trans x3, (hb.cell (p := ⟨ps, 0, none⟩) hlS).trans x4, (hb.cell (p := ⟨ps, 1, none⟩) hlS).trans x5⟩, hb⟩
    have hC1 : ∀ wn, Below W1.heap.size W1 wn → Calls Try.prog 26 #[.agg #[.nilFunc, .map (some M), .map (some G)], .int .u64 (c.id : Int)] wn fun e w' => e = .returned (.agg #[.slice A c.keys.length cc, .slice A' c.kids.length cc']) ∧ ((w'.cell? ⟨pa, 0, none⟩ = some .nilFunc ∧ w'.cell? ⟨pa, 1, none⟩ = some (.map (some M)) ∧ w'.cell? ⟨pa, 2, none⟩ = some (.map (some G)) ∧ w'.cell? ⟨pi, 0, none⟩ = some (.int .u64 (c.id : Int)) ∧ w'.cell? ⟨ps, 0, none⟩ = some (.string lo) ∧ w'.cell? ⟨ps, 1, none⟩ = some (.string hi)) ∧ Below W1.heap.size W1 w') ∧ Below wn.heap.size wn w' :=
      fun wn hb => (node_c (hB1.map.keep (hb.block M hB1.map.lt)) hidl hget .nilFunc (some G)).mono (fun e w' h => ⟨h.1, hSB _ (hb.trans (h.2.mono hb.size)), h.2⟩)
    have HCA := Lib.hid hC1
    have HCO : Hid (∀ wn (o : Obj), Below W1.heap.size W1 wn → wn.heap[W1.heap.size]? = some o → Calls Try.prog 26 #[.agg #[.nilFunc, .map (some M), .map (some G)], .int .u64 (c.id : Int)] wn fun e w' => e = .returned (.agg #[.slice A c.keys.length cc, .slice A' c.kids.length cc']) ∧ ((w'.cell? ⟨pa, 0, none⟩ = some .nilFunc ∧ w'.cell? ⟨pa, 1, none⟩ = some (.map (some M)) ∧ w'.cell? ⟨pa, 2, none⟩ = some (.map (some G)) ∧ w'.cell? ⟨pi, 0, none⟩ = some (.int .u64 (c.id : Int)) ∧ w'.cell? ⟨ps, 0, none⟩ = some (.string lo) ∧ w'.cell? ⟨ps, 1, none⟩ = some (.string hi)) ∧ Below W1.heap.size W1 w') ∧ w'.heap[W1.heap.size]? = some o) :=
      Lib.hid (fun wn o hb ho => (hC1 wn hb).mono (fun e w' h => ⟨h.1, h.2.1, (h.2.2.block _ (Array.getElem?_eq_some_iff.1 ho).1).trans ho⟩))
    have HCT : Hid (∀ wn (o o' : Obj), Below W1.heap.size W1 wn → wn.heap[W1.heap.size]? = some o → wn.heap[W1.heap.size + 1]? = some o' → Calls Try.prog 26 #[.agg #[.nilFunc, .map (some M), .map (some G)], .int .u64 (c.id : Int)] wn fun e w' => e = .returned (.agg #[.slice A c.keys.length cc, .slice A' c.kids.length cc']) ∧ ((w'.cell? ⟨pa, 0, none⟩ = some .nilFunc ∧ w'.cell? ⟨pa, 1, none⟩ = some (.map (some M)) ∧ w'.cell? ⟨pa, 2, none⟩ = some (.map (some G)) ∧ w'.cell? ⟨pi, 0, none⟩ = some (.int .u64 (c.id : Int)) ∧ w'.cell? ⟨ps, 0, none⟩ = some (.string lo) ∧ w'.cell? ⟨ps, 1, none⟩ = some (.string hi)) ∧ Below W1.heap.size W1 w') ∧ w'.heap[W1.heap.size]? = some o ∧ w'.heap[W1.heap.size + 1]? = some o') :=
      Lib.hid (fun wn o o' hb ho ho' => (hC1 wn hb).mono (fun e w' h => ⟨h.1, h.2.1, (h.2.2.block _ (Array.getElem?_eq_some_iff.1 ho).1).trans ho, (h.2.2.block _ (Array.getElem?_eq_some_iff.1 ho').1).trans ho'⟩))
    have HSB := Lib.hid hSB
    clear hC1 hSB hlA hlI hlS
    have HRD := Lib.hid hrd; have HB := Lib.hid hB; have HB1 := Lib.hid hB1; have HJ := Lib.hid hJ; have HJx := Lib.hid hJx; have H0 := Lib.hid h0; have HMm := Lib.hid hm; have HN := Lib.hid hnode; have HK := Lib.hid hkid; have HRK := Lib.hid hrk; have HBe := Lib.hid hb1; have HY1 := Lib.hid hy1; have HH := Lib.hid hH
    have HL := Lib.hid (And.intro hL1 hL2)
    have HKSZ : Hid (∀ k ∈ c.keys, k.size ≤ 281474976710656) := Lib.hid (fun k hk => Nat.le_trans (hksz _ (node_mem c) k hk) (by decide))
    clear hB hB1 hJ hJx h0 hm hnode hkid hrk hb1 hy1 hY hH hL1 hL2 hL3 hget hidl hBlw hrd
    refine callsIn_of_wp_marks Try.func37 rfl trivial ?_ rfl
    simp only [Try.ntmps37, List.size_toArray, List.length_cons, List.length_nil, Nat.reduceAdd, Nat.reduceSub, Array.replicate_succ, Array.replicate_zero, List.push_toArray, List.append_toArray, List.nil_append, List.cons_append]
    gi_wp2
    refine wpIn_wide.2 (then_false ?_)
    go_cut [6, 7] from 15 to 18 (NodeCut W1 A A' c.keys.length cc c.kids.length cc' lo hi)
    case first =>
      have mixed : Try.prog.follows Departure.mixedOrders = true := by kernel_rfl
      go_region_held3 (fun w' => ((w'.cell? ⟨pa, 0, none⟩ = some .nilFunc ∧ w'.cell? ⟨pa, 1, none⟩ = some (.map (some M)) ∧ w'.cell? ⟨pa, 2, none⟩ = some (.map (some G)) ∧ w'.cell? ⟨pi, 0, none⟩ = some (.int .u64 (c.id : Int)) ∧ w'.cell? ⟨ps, 0, none⟩ = some (.string lo) ∧ w'.cell? ⟨ps, 1, none⟩ = some (.string hi)) ∧ Below W1.heap.size W1 w'))
        (first | (refine HSB.out _ ?_; repeat (first
          | exact Below.refl _ _
          | exact And.right (by assumption)
          | refine held_drew ?_
          | refine held_alloc ?_ _
          | refine held_set ?_ (by first | exact Nat.le_refl _ | exact Nat.le_succ _ | exact Below.size (And.right (by assumption)) | exact Nat.le_succ_of_le (Below.size (And.right (by assumption)))) _ _)))
        (first
          | (go_at_call 26; (with_reducible refine (HCT.out _ (.cells #[.slice none 0 0, .slice none 0 0] 60) (.cells #[.string ⟨#[]⟩, .string ⟨#[]⟩] 34) (And.right (by assumption)) ?h1 ?h2).mono ?_); (case h1 => exact two_a W1 _ _); (case h2 => exact two_b W1 _ _); rintro e w9 ⟨rfl, hS9, hg, hg'⟩; obtain ⟨⟨m1, m2, m3, m4⟩, m5, m6, m7, m8⟩ := own2 hg; obtain ⟨⟨k1, k2, k3, k4⟩, k5, k6, k7, k8⟩ := own2 hg')
          | (go_at_call 26; (with_reducible refine (HCT.out _ (.cells #[.string ⟨#[]⟩, .string ⟨#[]⟩] 34) (.cells #[.slice none 0 0, .slice none 0 0] 60) (And.right (by assumption)) ?h1 ?h2).mono ?_); (case h1 => exact two_a W1 _ _); (case h2 => exact two_b W1 _ _); rintro e w9 ⟨rfl, hS9, hg, hg'⟩; obtain ⟨⟨m1, m2, m3, m4⟩, m5, m6, m7, m8⟩ := own2 hg; obtain ⟨⟨k1, k2, k3, k4⟩, k5, k6, k7, k8⟩ := own2 hg')
          | (go_at_call 26; (with_reducible refine (HCO.out _ (.cells #[.slice none 0 0, .slice none 0 0] 60) (And.right (by assumption)) ?h1).mono ?_); (case h1 => exact heap_alloc_new W1 _); rintro e w9 ⟨rfl, hS9, hg⟩; obtain ⟨⟨m1, m2, m3, m4⟩, m5, m6, m7, m8⟩ := own2 hg; obtain ⟨ne1, ne2⟩ := fresh_ne hg)
          | (go_at_call 26; (with_reducible refine (HCO.out _ (.cells #[.string ⟨#[]⟩, .string ⟨#[]⟩] 34) (And.right (by assumption)) ?h1).mono ?_); (case h1 => exact heap_alloc_new W1 _); rintro e w9 ⟨rfl, hS9, hg⟩; obtain ⟨⟨m1, m2, m3, m4⟩, m5, m6, m7, m8⟩ := own2 hg; obtain ⟨ne1, ne2⟩ := fresh_ne hg)
          | (go_at_call 26; (with_reducible refine (HCA.out _ (And.right (by assumption))).mono ?_); rintro e w9 ⟨rfl, hS9, hb9⟩))
      all_goals
        go_wp2_with fail
        go_meet
        first
          | with_reducible exact cut_a (And.right hS9)
          | with_reducible exact cut_b (And.right hS9)
          | with_reducible exact cut_c hg (And.right hS9) (Nat.le_refl _)
          | with_reducible exact cut_sets hg hg' (ne_succ _) (And.right hS9) (Nat.le_refl _) (Nat.le_succ _)
          | with_reducible exact cut_sets hg' hg (ne_succ' _) (And.right hS9) (Nat.le_succ _) (Nat.le_refl _)
          | with_reducible exact cut_sets (alloc_keeps hg _) (heap_alloc_new w9 _) ne2 (held_alloc (And.right hS9) _) (Nat.le_refl _) (Below.size (And.right hS9))
          | fail "FST"
    case rest =>
      obtain ⟨g6, g7, rfl, rfl, hne67, hg6, hg7, hT6, hS7, hb3⟩ := hcut
      rename World => W3
      have hs3 := HB1.out.bs.cells.2.2
      have hB3 := HB1.out.hold (read := read) (W' := W3) ⟨hb3.size, fun b _ hb => hb3.block b hb⟩
      obtain ⟨⟨y4, y5⟩, -, -⟩ := hB3.bs.cells
      obtain ⟨⟨z0, z1⟩, -, -⟩ := hT6.cells
      have hN3 := (HN.out.hold (read := read) (W' := W3) ⟨Nat.le_trans HBe.out.size hb3.size, fun b _ hb => (hb3.block b (Nat.lt_of_lt_of_le hb HBe.out.size)).trans (HBe.out.block b hb)⟩)
      have HC2 := Lib.hid (find_c c.keys lo A A' cc c.kids.length cc' W3 hN3.keys HRK.out (Nat.le_trans HL.out.2 (by decide)))
      have HT6 := Lib.hid hT6; have HS7 := Lib.hid hS7; have HB3 := Lib.hid hB3; have HBe3 := Lib.hid hb3; have HG := Lib.hid (And.intro hne67 (And.intro hg6 hg7))
      clear hne67 hg6 hg7 hT6 hS7 hb3 hs3 hB3 hN3
      gi_wp2
      refine ⟨trivial, ((callsIn_wide (n := 8)).2 HC2.out).mono ?_⟩
      rintro e W4 ⟨rfl, hb4⟩
      have HB4 := Lib.hid hb4
      clear hb4
      gi_wp2
      refine wpIn_loop (fun a' wr => ∃ (ds : List Deferred) (u8 u9 u10 u11 u12 u13 u14 u15 u16 u17 u18 u19 u20 u21 u22 u23 u24 u25 u26 u27 u28 u29 u30 u31 u32 u33 u34 u35 u36 u37 u38 u39 u40 u41 u42 u43 u44 u45 u46 u47 u48 u49 u50 u51 u52 u53 u54 u55 u56 u57 u58 u59 u60 u61 u62 u63 u64 u65 u66 u67 u68 u69 u70 u71 u72 u73 u74 u75 u76 u77 u78 u79 u80 u81 u82 u83 u84 u85 u86 u87 u88 u89 u90 u91 u92 u93 u94 u95 u96 u97 u98 : Value), (∃ (i : Nat), u8 = .int .i64 (i : Int) ∧ i ≤ c.keys.length ∧ Hid (∃ (mr : Nat → Prop) (pre : List ByteArray) (lo' : ByteArray), Rnd J read W l g6 g7 (.slice A c.keys.length cc) (.slice A' c.kids.length cc') hi ds mr pre lo' wr ∧
                pre ++ spanF lo' hi (tailM c i) = spanF lo hi c.flat ∧ RisK ltS (tailM c i) ∧ (∀ k, c.keys[i]? = some k → ltS k lo' = false))) ∧ a' = { tmps := #[.func (.yield l) #[] #[], .pointer (some ⟨pd, 0, none⟩), .pointer (some ⟨pa, 0, none⟩), .pointer (some ⟨pi, 0, none⟩), .pointer (some ⟨ps, 0, none⟩), .pointer (some ⟨W.heap.size, 0, none⟩), .pointer (some ⟨g6, 0, none⟩), .pointer (some ⟨g7, 0, none⟩), u8, u9, u10, u11, u12, u13, u14, u15, u16, u17, u18, u19, u20, u21, u22, u23, u24, u25, u26, u27, u28, u29, u30, u31, u32, u33, u34, u35, u36, u37, u38, u39, u40, u41, u42, u43, u44, u45, u46, u47, u48, u49, u50, u51, u52, u53, u54, u55, u56, u57, u58, u59, u60, u61, u62, u63, u64, u65, u66, u67, u68, u69, u70, u71, u72, u73, u74, u75, u76, u77, u78, u79, u80, u81, u82, u83, u84, u85, u86, u87, u88, u89, u90, u91, u92, u93, u94, u95, u96, u97, u98], defers := ds }) (fun a' _ => c.keys.length + 1 - (intOf (a'.tmps.getD 8 undef)).toNat) ?atStart ?round
      case atStart =>
        (repeat apply Exists.intro)
        refine ⟨?_, rfl⟩
        have hn := HBe3.out.size; have hw := (Array.getElem?_eq_some_iff.1 HY1.out).1
        have b34 := HBe.out.trans ((HBe3.out.trans (HB4.out.mono HBe3.out.size)).mono HBe.out.size)
        have b14 := HBe3.out.trans (HB4.out.mono HBe3.out.size)
        obtain ⟨e1, e2⟩ := span_start (lo := lo) (hi := hi) HK.out HB.out.ris (placeK ltS lo c.keys) (Nat.le_refl _)
        refine ⟨_, rfl, placeK_le ltS lo c.keys, Lib.hid ⟨fun b => mine b ∨ (W.heap.size ≤ b ∧ b < W4.heap.size), [], lo, ⟨?_, ?_, ?_, ?_, ?_, ?_, ?_, marks_nil _ _⟩, by rw [List.nil_append]; exact e1, e2, ?_⟩⟩
        · exact HJ.out _ _ _ _ _ H0.out (Turn.of_below b34) (fun b h => h)
        · intro b hb
          rcases hb with hb | hb
          · have := HMm.out b hb; have := b34.size; omega
          · exact hb.2
        · have h6 := HT6.out.cells.2.2; have h7 := HS7.out.cells.2.2; have h4 := HB4.out.size; have := HG.out.2
          exact ⟨.inr ⟨Nat.le_refl _, by omega⟩, .inr ⟨by omega, by omega⟩, .inr ⟨by omega, by omega⟩⟩
        · exact (b14.block _ hw).trans HY1.out
        · exact (HB4.out.block _ HT6.out.cells.2.2).trans HT6.out
        · exact (HB4.out.block _ HS7.out.cells.2.2).trans HS7.out
        · exact hold_below b34
        · intro k hk
          exact place_at hk
      case round =>
        intro _ wr hinv
        obtain ⟨ds, hinv⟩ := hinv
        obtain ⟨u8, hinv⟩ := hinv
        obtain ⟨u9, hinv⟩ := hinv
        obtain ⟨u10, hinv⟩ := hinv
        obtain ⟨u11, hinv⟩ := hinv
        obtain ⟨u12, hinv⟩ := hinv
        obtain ⟨u13, hinv⟩ := hinv
        obtain ⟨u14, hinv⟩ := hinv
        obtain ⟨u15, hinv⟩ := hinv
        obtain ⟨u16, hinv⟩ := hinv
        obtain ⟨u17, hinv⟩ := hinv
        obtain ⟨u18, hinv⟩ := hinv
        obtain ⟨u19, hinv⟩ := hinv
        obtain ⟨u20, hinv⟩ := hinv
        obtain ⟨u21, hinv⟩ := hinv
        obtain ⟨u22, hinv⟩ := hinv
        obtain ⟨u23, hinv⟩ := hinv
        obtain ⟨u24, hinv⟩ := hinv
        obtain ⟨u25, hinv⟩ := hinv
        obtain ⟨u26, hinv⟩ := hinv
        obtain ⟨u27, hinv⟩ := hinv
        obtain ⟨u28, hinv⟩ := hinv
        obtain ⟨u29, hinv⟩ := hinv
        obtain ⟨u30, hinv⟩ := hinv
        obtain ⟨u31, hinv⟩ := hinv
        obtain ⟨u32, hinv⟩ := hinv
        obtain ⟨u33, hinv⟩ := hinv
        obtain ⟨u34, hinv⟩ := hinv
        obtain ⟨u35, hinv⟩ := hinv
        obtain ⟨u36, hinv⟩ := hinv
        obtain ⟨u37, hinv⟩ := hinv
        obtain ⟨u38, hinv⟩ := hinv
        obtain ⟨u39, hinv⟩ := hinv
        obtain ⟨u40, hinv⟩ := hinv
        obtain ⟨u41, hinv⟩ := hinv
        obtain ⟨u42, hinv⟩ := hinv
        obtain ⟨u43, hinv⟩ := hinv
        obtain ⟨u44, hinv⟩ := hinv
        obtain ⟨u45, hinv⟩ := hinv
        obtain ⟨u46, hinv⟩ := hinv
        obtain ⟨u47, hinv⟩ := hinv
        obtain ⟨u48, hinv⟩ := hinv
        obtain ⟨u49, hinv⟩ := hinv
        obtain ⟨u50, hinv⟩ := hinv
        obtain ⟨u51, hinv⟩ := hinv
        obtain ⟨u52, hinv⟩ := hinv
        obtain ⟨u53, hinv⟩ := hinv
        obtain ⟨u54, hinv⟩ := hinv
        obtain ⟨u55, hinv⟩ := hinv
        obtain ⟨u56, hinv⟩ := hinv
        obtain ⟨u57, hinv⟩ := hinv
        obtain ⟨u58, hinv⟩ := hinv
        obtain ⟨u59, hinv⟩ := hinv
        obtain ⟨u60, hinv⟩ := hinv
        obtain ⟨u61, hinv⟩ := hinv
        obtain ⟨u62, hinv⟩ := hinv
        obtain ⟨u63, hinv⟩ := hinv
        obtain ⟨u64, hinv⟩ := hinv
        obtain ⟨u65, hinv⟩ := hinv
        obtain ⟨u66, hinv⟩ := hinv
        obtain ⟨u67, hinv⟩ := hinv
        obtain ⟨u68, hinv⟩ := hinv
        obtain ⟨u69, hinv⟩ := hinv
        obtain ⟨u70, hinv⟩ := hinv
        obtain ⟨u71, hinv⟩ := hinv
        obtain ⟨u72, hinv⟩ := hinv
        obtain ⟨u73, hinv⟩ := hinv
        obtain ⟨u74, hinv⟩ := hinv
        obtain ⟨u75, hinv⟩ := hinv
        obtain ⟨u76, hinv⟩ := hinv
        obtain ⟨u77, hinv⟩ := hinv
        obtain ⟨u78, hinv⟩ := hinv
        obtain ⟨u79, hinv⟩ := hinv
        obtain ⟨u80, hinv⟩ := hinv
        obtain ⟨u81, hinv⟩ := hinv
        obtain ⟨u82, hinv⟩ := hinv
        obtain ⟨u83, hinv⟩ := hinv
        obtain ⟨u84, hinv⟩ := hinv
        obtain ⟨u85, hinv⟩ := hinv
        obtain ⟨u86, hinv⟩ := hinv
        obtain ⟨u87, hinv⟩ := hinv
        obtain ⟨u88, hinv⟩ := hinv
        obtain ⟨u89, hinv⟩ := hinv
        obtain ⟨u90, hinv⟩ := hinv
        obtain ⟨u91, hinv⟩ := hinv
        obtain ⟨u92, hinv⟩ := hinv
        obtain ⟨u93, hinv⟩ := hinv
        obtain ⟨u94, hinv⟩ := hinv
        obtain ⟨u95, hinv⟩ := hinv
        obtain ⟨u96, hinv⟩ := hinv
        obtain ⟨u97, hinv⟩ := hinv
        obtain ⟨u98, hinv⟩ := hinv
        obtain ⟨hrel, ha⟩ := hinv
        subst ha
        try dsimp only
        obtain ⟨i, rfl, hil, HR⟩ := hrel
        obtain ⟨mr, pre, lo', hrnd, heq, hris, hlok⟩ := HR.out
        obtain ⟨W5, hW5⟩ : ∃ W5, wr.alloc (.cells #[.string lo', .string hi] 34) = W5 := ⟨_, rfl⟩
        have hb5 : Below wr.heap.size wr W5 := hW5 ▸ (Below.refl _ _).alloc (Nat.le_refl _) _
        have hS5 : SpB W5 wr.heap.size lo' hi := hW5 ▸ heap_alloc_new wr _
        have hT65 := hrnd.t6.on hb5 hrnd.t6.cells.2.2
        have hS75 : SpB W5 g7 lo' hi := (hb5.block _ hrnd.s7.cells.2.2).trans hrnd.s7
        have hN5 := (HN.out.hold hrnd.h).on hb5
        obtain ⟨⟨v0, v1⟩, -, -⟩ := hrnd.s7.cells
        obtain ⟨⟨u0, u1⟩, -, ul⟩ := hT65.cells
        obtain ⟨⟨p0, p1⟩, -, pl⟩ := hS75.cells
        have mixed : Try.prog.follows Departure.mixedOrders = true := by kernel_rfl
        have HRND := Lib.hid hrnd; have HEQ := Lib.hid heq; have HRS := Lib.hid hris; have HLO := Lib.hid hlok; have HB5 := Lib.hid hb5; have HS5 := Lib.hid hS5; have HT65 := Lib.hid hT65; have HN5 := Lib.hid hN5; have HUL := Lib.hid (And.intro u0 (And.intro p0 (And.intro p1 (And.intro ul pl))))
        obtain ⟨mo, hmo⟩ : ∃ mo, mo = (decide (i < c.keys.length) && match c.keys[i]? with | some k => inS lo' hi k | none => false) := ⟨_, rfl⟩
        have HMO := Lib.hid hmo
        clear hrnd heq hris hlok hb5 hS5 hT65 hS75 hN5 HR hmo
        gi_wp2
        refine wpIn_wide.2 (then_false ?_)
        go_cut [11] from 29 to 42 (fun x wx => x = .bool mo ∧ Below W5.heap.size W5 wx)
        case first =>
          by_cases hlt : i < c.keys.length
          · obtain ⟨k, hk⟩ : ∃ k, c.keys[i]? = some k := ⟨_, List.getElem?_eq_getElem hlt⟩
            obtain ⟨br, orow, hAr, hbl, hck⟩ := HN5.out.keys i k hk
            subst hAr
            have hmo' : inS lo' hi k = mo := by rw [HMO.out, decide_eq_true hlt, hk]; rfl
            have hd : decide (i < c.keys.length) = true := by simpa using hlt
            have hdi : (i : Int) < (c.keys.length : Int) := by omega
            have hS0 : ∀ w', Below W5.heap.size W5 w' → ((w'.cell? ⟨g6, 0, none⟩ = some (.slice (some ⟨br, orow, none⟩) c.keys.length cc) ∧ w'.cell? ⟨g7, 0, none⟩ = some (.string lo') ∧ w'.cell? ⟨g7, 1, none⟩ = some (.string hi) ∧ w'.cell? ⟨br, orow + i, none⟩ = some (.string k)) ∧ Below W5.heap.size W5 w') := fun w' hb => ⟨⟨(hb.cell (p := ⟨g6, 0, none⟩) ul).trans u0, (hb.cell (p := ⟨g7, 0, none⟩) pl).trans p0, (hb.cell (p := ⟨g7, 1, none⟩) pl).trans p1, (hb.cell (p := ⟨br, orow + i, none⟩) hbl).trans hck⟩, hb⟩
            have HIN : Hid (∀ wn, Below W5.heap.size W5 wn → Calls Try.prog 10 #[.agg #[.string lo', .string hi], .string k] wn fun e w' => e = .returned (.bool mo) ∧ ((w'.cell? ⟨g6, 0, none⟩ = some (.slice (some ⟨br, orow, none⟩) c.keys.length cc) ∧ w'.cell? ⟨g7, 0, none⟩ = some (.string lo') ∧ w'.cell? ⟨g7, 1, none⟩ = some (.string hi) ∧ w'.cell? ⟨br, orow + i, none⟩ = some (.string k)) ∧ Below W5.heap.size W5 w')) :=
              Lib.hid (fun wn hb => (in_c lo' hi k wn).mono (fun e w' h => ⟨by rw [h.1, hmo'], hS0 _ (hb.trans (h.2.mono hb.size))⟩))
            have HS0 := Lib.hid hS0
            clear hmo' hS0 hbl hk hlt
            go_region_held3 (fun w' => ((w'.cell? ⟨g6, 0, none⟩ = some (.slice (some ⟨br, orow, none⟩) c.keys.length cc) ∧ w'.cell? ⟨g7, 0, none⟩ = some (.string lo') ∧ w'.cell? ⟨g7, 1, none⟩ = some (.string hi) ∧ w'.cell? ⟨br, orow + i, none⟩ = some (.string k)) ∧ Below W5.heap.size W5 w'))
              (first
                | exact HS0.out _ (Below.refl _ _).drew
                | assumption)
              (first
                | (go_at_call 10; (with_reducible refine (HIN.out _ (And.right (by assumption))).mono ?_); rintro e w9 ⟨rfl, hS9⟩))
            all_goals
              go_wp2_with fail
              go_meet
              exact ⟨rfl, And.right (by assumption)⟩
          · have hmo' : mo = false := by rw [HMO.out, decide_eq_false hlt]; rfl
            have hd : decide (i < c.keys.length) = false := by simpa using hlt
            have hdi : (c.keys.length : Int) ≤ (i : Int) := by omega
            have hS0 : ∀ w', Below W5.heap.size W5 w' → (w'.cell? ⟨g6, 0, none⟩ = some (.slice A c.keys.length cc) ∧ Below W5.heap.size W5 w') := fun w' hb => ⟨(hb.cell (p := ⟨g6, 0, none⟩) ul).trans u0, hb⟩
            have HS0 := Lib.hid hS0
            subst hmo'
            clear hS0 hlt
            have q0 : ∀ w', Below W5.heap.size W5 w' → w'.cell? ⟨g6, 0, none⟩ = some (.slice A c.keys.length cc) := fun w' h => (HS0.out w' h).1
            go_quiet (fail)
            go_wp2_with fail
            go_meet
            exact ⟨rfl, below_drewN (Below.refl _ _) _⟩
        case rest =>
          obtain ⟨rfl, hb6⟩ := hcut
          rename World => W6
          have hT66 := HT65.out.on hb6 HT65.out.cells.2.2
          have hS6 : SpB W6 wr.heap.size lo' hi := (hb6.block _ HS5.out.cells.2.2).trans HS5.out
          have hb56 := HB5.out.trans (hb6.mono HB5.out.size)
          clear u0 u1 p0 p1 ul pl
          obtain ⟨⟨u0, u1⟩, -, -⟩ := hT66.cells
          obtain ⟨⟨s0, s1⟩, sf, -⟩ := hS6.cells
          have sf1 := sf 1
          have HB6 := Lib.hid hb56; have HT66 := Lib.hid hT66; have HS6 := Lib.hid hS6
          have hne1 : ¬ (wr.heap.size = g6) ∧ ¬ (g6 = wr.heap.size) := by have := HRND.out.t6.cells.2.2; omega
          obtain ⟨ne1, ne2⟩ := hne1
          clear hb6 hT66 hS6 sf hb56 v0 v1
          cases mo
          · -- no key of the span stands here
            have HEND : Hid (∀ a t, tailM c i = a ++ t → (t = [] ∨ ∃ k t', t = k :: t' ∧ c.keys[i]? = some k) → spanF lo' hi (tailM c i) = spanF lo' hi a) := Lib.hid (by
              intro a t ht hk
              rw [ht]
              refine span_end (fun x hx => ?_)
              rcases hk with rfl | ⟨k, t', rfl, hk⟩
              · cases hx
              · have h1 := HMO.out
                have hlt : i < c.keys.length := (List.getElem?_eq_some_iff.1 hk).1
                rw [decide_eq_true hlt, hk] at h1
                have h2 := inS_no h1.symm (HLO.out k hk)
                have h3 := HRS.out
                rw [ht] at h3
                obtain ⟨-, h3, -⟩ := List.pairwise_append.1 h3
                rcases List.mem_cons.1 hx with rfl | hx
                · exact h2
                · refine ⟨h2.1, ?_⟩
                  cases h : ltS x hi with
                  | false => rfl
                  | true => have := linS.tr ((List.pairwise_cons.1 h3).1 x hx) h; rw [h2.2] at this; cases this)
            by_cases hleaf : c.kids = []
            · have HLF := Lib.hid hleaf
              have hz0 : (c.kids.length == 0) = true := by rw [hleaf]; rfl
              have HZ0 := Lib.hid hz0
              clear hleaf hz0
              gi_wp2
              refine ⟨trivial, ((callsIn_wide (n := 8)).2 (leaf_c A A' c.keys.length cc c.kids.length cc' W6)).mono ?_⟩
              rintro e W8 ⟨rfl, hb8⟩
              rw [HZ0.out]
              gi_wp2
              have hrn := HRND.out.new HJ.out (HB6.out.trans (hb8.mono HB6.out.size))
              have hxs : pre = spanF lo hi c.flat := by
                have h1 := HEQ.out
                have h2 : spanF lo' hi (tailM c i) = [] := (HEND.out [] (tailM c i) rfl (by
                  rw [tail_leaf HLF.out]
                  cases h : c.keys[i]? with
                  | none => exact .inl (List.drop_eq_nil_of_le (List.getElem?_eq_none_iff.1 h))
                  | some k => exact .inr ⟨k, _, drop_at h, rfl⟩)).trans rfl
                rw [h2, List.append_nil] at h1
                exact h1
              have HRT := Lib.hid (And.intro hrn.m (And.intro hrn.j hxs))
              refine wpIn_wide.2 (then_false ?_)
              go_quiet (fail)
              gi_wp2
              exact leaves_marks (K := fun V => J mr (pre) V) (fun X Y h ht _ => HJ.out _ _ _ _ _ h ht (fun b h => .inl h)) (fun X h => ⟨_, results_none rfl _ _ _, ⟨_, rfl⟩, .inl ⟨_, _, HRT.out.2.2, h⟩⟩) (ds) _ HRT.out.1 (HJ.out _ _ _ _ _ HRT.out.2.1 (Turn.of_below (below_drewN (Below.refl _ _) _)) (fun b h => .inl h))
            · have HLF := Lib.hid hleaf
              have hz0 : (c.kids.length == 0) = false := by simpa using hleaf
              have HZ0 := Lib.hid hz0
              have HKL : Hid (c.kids.length = c.keys.length + 1) := Lib.hid (HK.out.resolve_left hleaf)
              clear hleaf hz0
              gi_wp2
              refine ⟨trivial, ((callsIn_wide (n := 8)).2 (leaf_c A A' c.keys.length cc c.kids.length cc' W6)).mono ?_⟩
              rintro e W8 ⟨rfl, hb8⟩
              rw [HZ0.out]
              have HRN8 := Lib.hid (HRND.out.new HJ.out (HB6.out.trans (hb8.mono HB6.out.size)))
              have HS8 : Hid (SpB W8 wr.heap.size lo' hi) := Lib.hid ((hb8.block _ HS6.out.cells.2.2).trans HS6.out)
              obtain ⟨kid, hkid⟩ : ∃ kid, c.kids[i]? = some kid := ⟨_, List.getElem?_eq_getElem (by have := HKL.out; omega)⟩
              have HKID := Lib.hid hkid
              obtain ⟨t', ht'⟩ : ∃ t', tailM c i = kid.flat ++ t' ∧ (t' = [] ∨ ∃ k t'', t' = k :: t'' ∧ c.keys[i]? = some k) := by
                cases h : c.keys[i]? with
                | none =>
                  obtain rfl : i = c.keys.length := by have := List.getElem?_eq_none_iff.1 h; omega
                  exact ⟨[], by rw [tail_last hkid HKL.out, List.append_nil], .inl rfl⟩
                | some k => exact ⟨_, tail_kid hkid h, .inr ⟨k, _, rfl, rfl⟩⟩
              have HXS : Hid (pre ++ spanF lo' hi kid.flat = spanF lo hi c.flat) := Lib.hid (by rw [← HEND.out _ _ ht'.1 ht'.2]; exact HEQ.out)
              have HRSK : Hid (RisK ltS kid.flat) := Lib.hid (by have h := HRS.out; rw [ht'.1] at h; exact (List.pairwise_append.1 h).1)
              have HPOS : Hid (pre.length + (spanF lo' hi kid.flat).length ≤ (spanF lo hi c.flat).length) := Lib.hid (by have h := congrArg List.length HXS.out; rw [List.length_append] at h; omega)
              clear hb8 hkid ht' t'
              gi_wp2

              obtain ⟨bk, ok, hAk, hbk, hckk⟩ := (HN.out.hold HRN8.out.h).kids i kid.id (by rw [List.getElem?_map, HKID.out]; rfl)
              subst hAk
              have hB8 := HB.out.hold HRN8.out.h
              have hki : (i : Int) < (c.kids.length : Int) := by have := (List.getElem?_eq_some_iff.1 HKID.out).1; omega
              have hS0 : ∀ w', Below W8.heap.size W8 w' → ((w'.cell? ⟨pd, 0, none⟩ = some (.int .i64 ((deep + 1 : Nat) : Int)) ∧ w'.cell? ⟨pa, 0, none⟩ = some .nilFunc ∧ w'.cell? ⟨pa, 1, none⟩ = some (.map (some M)) ∧ w'.cell? ⟨pa, 2, none⟩ = some (.map (some G)) ∧ w'.cell? ⟨g6, 1, none⟩ = some (.slice (some ⟨bk, ok, none⟩) c.kids.length cc') ∧ w'.cell? ⟨bk, ok + i, none⟩ = some (.int .u64 (kid.id : Int)) ∧ w'.cell? ⟨wr.heap.size, 0, none⟩ = some (.string lo') ∧ w'.cell? ⟨wr.heap.size, 1, none⟩ = some (.string hi)) ∧ Below W8.heap.size W8 w') := fun w' hb => by
                have cl : ∀ {b j : Nat} {v : Value}, b < W8.heap.size → W8.cell? ⟨b, j, none⟩ = some v → w'.cell? ⟨b, j, none⟩ = some v := fun {b j v} hl h => (hb.cell (p := ⟨b, j, none⟩) hl).trans h
                have lt : ∀ {b : Nat} {o : Obj}, W8.heap[b]? = some o → b < W8.heap.size := fun h => (Array.getElem?_eq_some_iff.1 h).1
                obtain ⟨⟨-, u1⟩, -, ul⟩ := HRN8.out.t6.cells
                obtain ⟨⟨t0, t1⟩, -, tl⟩ := HS8.out.cells
                exact ⟨⟨cl (lt hB8.bd) (by rw [cell_of_row _ _ _ _ _ _ hB8.bd]; rfl), cl (lt hB8.ba) (by rw [cell_of_row _ _ _ _ _ _ hB8.ba]; rfl), cl (lt hB8.ba) (by rw [cell_of_row _ _ _ _ _ _ hB8.ba]; rfl), cl (lt hB8.ba) (by rw [cell_of_row _ _ _ _ _ _ hB8.ba]; rfl), cl ul u1, cl hbk hckk, cl tl t0, cl tl t1⟩, hb⟩
              have HCB : Hid (∀ wn, Below W8.heap.size W8 wn → Calls Try.prog 23 #[.agg #[.nilFunc, .map (some M), .map (some G)], .int .u64 (kid.id : Int), .agg #[.string lo', .string hi], .int .i64 (deep : Int)] wn fun e w' => e = .returned (.func (.func 37) #[] #[.pointer (some ⟨wn.heap.size + 3, 0, none⟩), .pointer (some ⟨wn.heap.size, 0, none⟩), .pointer (some ⟨wn.heap.size + 1, 0, none⟩), .pointer (some ⟨wn.heap.size + 2, 0, none⟩)]) ∧ ((w'.cell? ⟨pd, 0, none⟩ = some (.int .i64 ((deep + 1 : Nat) : Int)) ∧ w'.cell? ⟨pa, 0, none⟩ = some .nilFunc ∧ w'.cell? ⟨pa, 1, none⟩ = some (.map (some M)) ∧ w'.cell? ⟨pa, 2, none⟩ = some (.map (some G)) ∧ w'.cell? ⟨g6, 1, none⟩ = some (.slice (some ⟨bk, ok, none⟩) c.kids.length cc') ∧ w'.cell? ⟨bk, ok + i, none⟩ = some (.int .u64 (kid.id : Int)) ∧ w'.cell? ⟨wr.heap.size, 0, none⟩ = some (.string lo') ∧ w'.cell? ⟨wr.heap.size, 1, none⟩ = some (.string hi)) ∧ Below W8.heap.size W8 w') ∧ KidAt wn.heap.size M G kid.id deep lo' hi w' ∧ W8.heap.size ≤ wn.heap.size) :=
                Lib.hid (fun wn hb => (below_at kid.id deep lo' hi M G wn).mono (fun e w' h => ⟨h.1, hS0 _ (hb.trans (h.2.2.mono hb.size)), h.2.1, hb.size⟩))
              have HS0 := Lib.hid hS0
              have hdl : (deep : Int) ≤ 64 := by have := hB8.deep.2; omega
              have hw1 : wrap64 ((deep : Int) + 1 - 1) = (deep : Int) := by rw [Int.add_sub_cancel]; exact wrap64_id (is64_iff.2 (by omega))
              have hw2 : wrap64 (deep : Int) = (deep : Int) := wrap64_id (is64_iff.2 (by omega))
              have hw3 : IntKind.i64.wrap (deep : Int) = (deep : Int) := IntWalk.i64_in _ (by omega)
              clear hS0 hB8 hbk hckk
              refine wpIn_wide.2 (then_false ?_)
              go_cut [73] from 64 to 73 (KidCut W8 M G kid.id deep lo' hi)
              case first =>
                go_region_held3 (fun w' => ((w'.cell? ⟨pd, 0, none⟩ = some (.int .i64 ((deep + 1 : Nat) : Int)) ∧ w'.cell? ⟨pa, 0, none⟩ = some .nilFunc ∧ w'.cell? ⟨pa, 1, none⟩ = some (.map (some M)) ∧ w'.cell? ⟨pa, 2, none⟩ = some (.map (some G)) ∧ w'.cell? ⟨g6, 1, none⟩ = some (.slice (some ⟨bk, ok, none⟩) c.kids.length cc') ∧ w'.cell? ⟨bk, ok + i, none⟩ = some (.int .u64 (kid.id : Int)) ∧ w'.cell? ⟨wr.heap.size, 0, none⟩ = some (.string lo') ∧ w'.cell? ⟨wr.heap.size, 1, none⟩ = some (.string hi)) ∧ Below W8.heap.size W8 w'))
                  (first
                    | exact HS0.out _ (Below.refl _ _).drew
                    | assumption)
                  (first
                    | (go_at_call 23; (with_reducible refine (HCB.out _ (And.right (by assumption))).mono ?_); rintro e w9 ⟨rfl, hS9, hK9, hq9⟩))
                all_goals
                  go_wp2_with fail
                  go_meet
                  exact ⟨_, rfl, hq9, hK9, And.right hS9⟩
              case rest =>
                obtain ⟨q, rfl, hq, hKq, hb9⟩ := hcut
                rename World => W9
                have hrn9 := HRN8.out.own HJ.out hb9
                obtain ⟨mr9, hmr9⟩ : ∃ m, (fun b => mr b ∨ (W8.heap.size ≤ b ∧ b < W9.heap.size)) = m := ⟨_, rfl⟩
                rw [hmr9] at hrn9
                have hql : q + 3 < W9.heap.size := (Array.getElem?_eq_some_iff.1 hKq.2.2.2).1
                have hBk := (HB.out.hold hrn9.h).kid HKID.out hKq HRSK.out
                have hrl : ∀ b, (read b ∨ (q ≤ b ∧ b < q + 4)) → b < W9.heap.size := fun b hb => by
                  rcases hb with hb | hb
                  · have := HRD.out b hb; have := HH.out.1; have := hrn9.h.1; omega
                  · omega
                have HIT := Lib.hid (IH.out kid lo' hi W9 _ _ _ _ _ M G laid hBk hrl (fun x hx => hksz x (kid_nodes HKID.out hx)) 8)
                have HR9 := Lib.hid hrn9; have HQ := Lib.hid (And.intro hq hql); have HMR9 := Lib.hid hmr9
                clear hrn9 hBk hKq hb9 hq hql hmr9
                gi_wp2
                refine wpIn_range_iter2 rfl (by decide) (gf := 37) (lb := #[.pointer (some ⟨q + 3, 0, none⟩), .pointer (some ⟨q, 0, none⟩), .pointer (some ⟨q + 1, 0, none⟩), .pointer (some ⟨q + 2, 0, none⟩)]) rfl trivial (enters_of Try.func37 (by kernel_rfl) rfl)
                  (read := fun b => read b ∨ (q ≤ b ∧ b < q + 4)) HIT.out hrl (fun _ => rfl) (InL J read mr9 pre W9) (fun c' m xs V => c' = .ret ∧ InL Jx read mr9 pre W9 m xs V) (InL.clos HJ.out) (fun c' => clos_and (InL.clos HJx.out)) (InL.recs HJ.out) (fun c' => recs_and (InL.recs HJx.out)) (InL.start HJ.out HR9.out.j) ?round ?done ?stop
                case round =>
                  intro x
                  apply Exists.intro
                  refine ⟨fun la V K hK => ?_, fun la mine' xs V hI h2 hN => ?_⟩
                  · gi_wp2
                    exact hK
                  · have hyb : V.heap[W.heap.size]? = some (.cells #[.func (.yield l) #[] #[]] 42 (0, 0)) := (hI.2.2.2.2 _ (.inl HR9.out.mem.1) (Array.getElem?_eq_some_iff.1 HR9.out.y).1).trans HR9.out.y
                    have yb0 : V.cell? ⟨W.heap.size, 0, none⟩ = some (.func (.yield l) #[] #[]) := by rw [cell_of_row _ _ _ _ _ _ hyb]; rfl
                    obtain ⟨fn, tmps, assign, body, hy, hR⟩ := HY.out 6 _ _ x V hI.2.2.1 (by have := HPOS.out; rw [List.length_append]; omega)
                    have HI := Lib.hid hI; have HR := Lib.hid hR; have H2 := Lib.hid h2
                    clear hI hR h2 hyb
                    gi_wp2
                    refine (round_in HR.out la).mono ?_
                    have hmr : ∀ b, mr9 b → b < W9.heap.size := HR9.out.lt
                    have hrr : ∀ b, (read b ∨ (q ≤ b ∧ b < q + 4)) → read b ∨ mr9 b := fun b hb => hb.imp id (fun hb => by rw [← HMR9.out]; have := HQ.out; exact .inr (by omega))
                    have HMRR := Lib.hid (And.intro hmr hrr)
                    clear hmr hrr
                    rintro e V' (⟨rfl, h1, h3⟩ | ⟨rfl, h1, h3⟩)
                    · have H1 := Lib.hid h1; have H3 := Lib.hid h3
                      clear h1 h3
                      gi_wp2
                      exact ⟨InL.keeps HMRR.out.2 H3.out, InL.next HJ.out HMRR.out.1 HI.out H2.out H1.out H3.out⟩
                    · have H1 := Lib.hid h1; have H3 := Lib.hid h3
                      clear h1 h3
                      gi_wp2
                      exact ⟨InL.keeps HMRR.out.2 H3.out, rfl, InL.next HJx.out HMRR.out.1 HI.out H2.out H1.out H3.out⟩
                case stop =>
                  rintro c' mine' xs V - ⟨rfl, hI⟩ hd
                  have HI := Lib.hid hI; have HD := Lib.hid hd
                  clear hI hd
                  gi_wp2
                  exact leaves_marks (K := fun X => Jx (fun b => (mr9 b ∨ b = W9.heap.size ∨ b = W9.heap.size + 1 ∨ mine' b) ∧ b < V.heap.size) (pre ++ xs) X) (fun X Y h ht _ => HJx.out _ _ _ _ _ h ht (fun b h => .inl h)) (fun X h => ⟨_, results_none rfl _ _ _, ⟨_, rfl⟩, .inr ⟨_, _, trivial, h⟩⟩) _ _ (HR9.out.marks HI.out HD.out) HI.out.2.2.1
                case done =>
                  rintro mine' xs V rfl hI hd
                  have hrn1 := HR9.out.loop hI hd
                  obtain ⟨mr1, hmr1⟩ : ∃ m, (fun b => (mr9 b ∨ b = W9.heap.size ∨ b = W9.heap.size + 1 ∨ mine' b) ∧ b < V.heap.size) = m := ⟨_, rfl⟩
                  rw [hmr1] at hrn1
                  have HRNV := Lib.hid hrn1
                  clear hrn1 hI hd hmr1
                  gi_wp2
                  have HRT := Lib.hid (And.intro HRNV.out.m (And.intro HRNV.out.j HXS.out))
                  refine wpIn_wide.2 (then_false ?_)
                  go_quiet (fail)
                  gi_wp2
                  exact leaves_marks (K := fun V => J mr1 (pre ++ spanF lo' hi kid.flat) V) (fun X Y h ht _ => HJ.out _ _ _ _ _ h ht (fun b h => .inl h)) (fun X h => ⟨_, results_none rfl _ _ _, ⟨_, rfl⟩, .inl ⟨_, _, HRT.out.2.2, h⟩⟩) ({ target := .collected W9.heap.size, args := #[] } :: ds) _ HRT.out.1 (HJ.out _ _ _ _ _ HRT.out.2.1 (Turn.of_below (below_drewN (Below.refl _ _) _)) (fun b h => .inl h))
          · obtain ⟨k, hk, hin⟩ : ∃ k, c.keys[i]? = some k ∧ inS lo' hi k = true := by
              have h1 := HMO.out
              cases h : c.keys[i]? with
              | none => rw [h] at h1; simp at h1
              | some k => rw [h] at h1; simp at h1; exact ⟨k, rfl, h1.2⟩
            have HLT : Hid (i < c.keys.length) := Lib.hid (List.getElem?_eq_some_iff.1 hk).1
            have hdi : (i : Int) < (c.keys.length : Int) := by have := HLT.out; omega
            obtain ⟨br, orow, hAr, hbl, ck⟩ := ((HN.out.hold HRND.out.h).on HB6.out).keys i k hk
            subst hAr
            have HKI := Lib.hid hk; have HIN := Lib.hid hin
            clear hbl hk hin
            by_cases hleaf : c.kids = []
            · have HLF := Lib.hid hleaf
              have hz0 : (c.kids.length == 0) = true := by rw [hleaf]; rfl
              have HZ0 := Lib.hid hz0
              clear hleaf hz0
              gi_wp2
              obtain ⟨W7, hW7⟩ : ∃ W7, W6.setCell ⟨wr.heap.size, 1, none⟩ (.string k) = W7 := ⟨_, rfl⟩
              rw [hW7]
              refine ⟨trivial, ((callsIn_wide (n := 8)).2 (leaf_c (some ⟨br, orow, none⟩) A' c.keys.length cc c.kids.length cc' W7)).mono ?_⟩
              rintro e W8 ⟨rfl, hb8⟩
              rw [HZ0.out]
              have hb7 : Below wr.heap.size wr W7 := hW7 ▸ HB6.out.setCell (Nat.le_refl _) _
              have hrn := HRND.out.new HJ.out (hb7.trans (hb8.mono hb7.size))
              have ht : tailM c i = k :: tailM c (i + 1) := by rw [tail_leaf HLF.out, tail_leaf HLF.out, drop_at HKI.out]
              have HRS1 : Hid (RisK ltS (k :: tailM c (i + 1))) := Lib.hid (by rw [← ht]; exact HRS.out)
              have HEQ1 : Hid (pre ++ k :: spanF (aboveS k) hi (tailM c (i + 1)) = spanF lo hi c.flat) := Lib.hid (by
                have h3 := span_more (a := []) (lo := lo') (hi := hi) HRS1.out (HLO.out k HKI.out) (inS_hi HIN.out)
                rw [List.nil_append] at h3
                rw [← HEQ.out, ht, h3]
                rfl)
              have HRN8 := Lib.hid hrn
              clear hb7 hb8 hrn hW7 ht
              gi_wp2
              have HRN1 := Lib.hid HRN8.out
              have hks : k.size ≤ 281474976710656 := HKSZ.out k (List.mem_of_getElem? HKI.out)
              obtain ⟨⟨u0, u1⟩, -, ul⟩ := HRN1.out.t6.cells
              have yb0 : W8.cell? ⟨W.heap.size, 0, none⟩ = some (.func (.yield l) #[] #[]) := by rw [cell_of_row _ _ _ _ _ _ HRN1.out.y]; rfl
              have hN8 := HN.out.hold HRN1.out.h
              obtain ⟨br', or', hAr, hbl, hck⟩ := hN8.keys i k HKI.out
              cases hAr
              have ybl : W.heap.size < W8.heap.size := (Array.getElem?_eq_some_iff.1 HRN1.out.y).1
              have hpos : (pre).length < (spanF lo hi c.flat).length := by
                have h4 := congrArg List.length HEQ1.out
                simp only [List.length_append, List.length_cons] at h4 ⊢
                omega
              have HYK : Hid (∀ wn, Below W8.heap.size W8 wn → YieldAt Fence.wide 8 Try.prog l #[.string k] wn fun e W' => ∃ bb, e = .returned (.bool bb) ∧ After J Jx read (mr) (pre ++ [k]) W8 bb W') := Lib.hid (fun wn hbw => by
                have hj : J (fun b => (mr) b ∨ (W8.heap.size ≤ b ∧ b < wn.heap.size)) (pre) wn := HJ.out _ _ _ _ _ HRN1.out.j (Turn.of_below hbw) (fun b h => h)
                refine YieldAt.mono (HY.out 8 _ _ k wn hj hpos) ?_
                have hlt : ∀ X, Hold (fun b => ((mr) b ∨ (W8.heap.size ≤ b ∧ b < wn.heap.size)) ∨ read b) wn X → ∀ b, ((mr) b ∨ (W8.heap.size ≤ b ∧ b < wn.heap.size)) → b < X.heap.size := fun X h2 b hb => by
                  have hs := h2.1
                  rcases hb with hb | hb
                  · have := HRN1.out.lt b hb; have := hbw.size; omega
                  · omega
                rintro e W' (⟨rfl, h1, h2⟩ | ⟨rfl, h1, h2⟩)
                · exact ⟨true, rfl, _, wn, .inl ⟨rfl, h1⟩, hlt W' h2, fun b hb => .inl hb, hbw, h2⟩
                · exact ⟨false, rfl, _, wn, .inr ⟨rfl, h1⟩, hlt W' h2, fun b hb => .inl hb, hbw, h2⟩)
              have HC9 := Lib.hid (fun wn => cloneB k wn hks)
              have HUL := Lib.hid (And.intro ul (And.intro ybl hbl)); have HUU := Lib.hid (And.intro u0 (And.intro yb0 hck))
              clear hks ul hN8 hbl hpos ybl
              refine then_falseIn ?_
              have hmx : Try.prog.follows .mixedOrders = true := by kernel_rfl
              gi_region_with_o (first
                | ((try refine ⟨trivial, ?_⟩); gi_at_call 21; refine ((callsIn_wide (n := 8)).2 (HC9.out _)).mono ?_; rintro e w9 ⟨rfl, hb9⟩; have z1 := (Below.cell hb9 (p := ⟨g6, 0, none⟩) HUL.out.1).trans HUU.out.1; have z2 := (Below.cell hb9 (p := ⟨W.heap.size, 0, none⟩) HUL.out.2.1).trans HUU.out.2.1; obtain ⟨fn, tmps, assign, body, hy, hR⟩ := HYK.out w9 ((Below.refl _ W8).drew.trans hb9))
                | (refine hR.mono ?_; rintro e w10 ⟨bb, rfl, hA⟩)
                | fail)
              all_goals
                have HA := Lib.hid hA
                clear hA hb9 hR hy HYK HC9 hck z1 z2 u0 u1 yb0
                cases bb
                · gi_wp2
                  obtain ⟨mr', wn, hj, q2, q3, q4, q5⟩ := HA.out
                  rcases hj with ⟨h, -⟩ | ⟨-, hx⟩
                  · cases h
                  exact leaves_marks (K := fun V => Jx mr' (pre ++ [k]) V) (fun X Y h ht _ => HJx.out _ _ _ _ _ h ht (fun b h => .inl h)) (fun X h => ⟨_, results_none rfl _ _ _, ⟨_, rfl⟩, .inr ⟨_, _, trivial, h⟩⟩) (ds) _ (HRN1.out.marks2 q3 q4 q5) hx
                · obtain ⟨mr', wn, hj, q2, q3, q4, q5⟩ := HA.out
                  rcases hj with ⟨-, q1⟩ | ⟨h, -⟩
                  rotate_left
                  · cases h
                  have hrn2 := HRN1.out.after q1 q2 q3 q4 q5
                  obtain ⟨br', or', hAr, hbl, hck⟩ := (HN.out.hold hrn2.h).keys i k HKI.out
                  cases hAr
                  obtain ⟨⟨u0, u1⟩, -, ul⟩ := hrn2.t6.cells
                  obtain ⟨⟨p0, p1⟩, pf, pl⟩ := hrn2.s7.cells
                  have HRN2 := Lib.hid hrn2
                  have hk1 : k.size ≤ 1000000 := Nat.le_trans (hksz _ (node_mem c) k (List.mem_of_getElem? HKI.out)) (by decide)
                  have HC10 := Lib.hid (above_c k w10 hk1)
                  clear hrn2 q1 q2 q3 q4 q5 hbl pf ul pl hk1
                  gi_wp2
                  refine ⟨trivial, ((callsIn_wide (n := 8)).2 HC10.out).mono ?_⟩
                  rintro e w11 ⟨rfl, hb11⟩
                  have pf0 : w11.frozen? ⟨g7, 0, none⟩ = false := (HRN2.out.new HJ.out hb11).s7.cells.2.1 0
                  have pz0 : w11.cell? ⟨g7, 0, none⟩ = some (.string lo') := (HRN2.out.new HJ.out hb11).s7.cells.1.1
                  have HB11 := Lib.hid hb11
                  clear hb11
                  gi_wp2
                  have hwr : wrap64 ((i : Int) + 1) = ((i + 1 : Nat) : Int) := by
                    rw [wrap64_id (is64_iff.2 (by have := HLT.out; have := HL.out.2; omega))]; omega
                  go_roundw
                  case rel =>
                    (repeat apply Exists.intro)
                    refine ⟨?_, rfl⟩
                    exact ⟨i + 1, by rw [hwr], HLT.out, Lib.hid ⟨mr', pre ++ [k], aboveS k, HRN2.out.low HJ.out HB11.out HG.out.1 (by have := HG.out.2.2; have := HBe.out.size; have := (Array.getElem?_eq_some_iff.1 HY1.out).1; omega) _, by rw [List.append_assoc, List.singleton_append]; exact HEQ1.out, (List.pairwise_cons.1 HRS1.out).2, fun k' hk' => lt_above (ris_next HRK.out HKI.out hk')⟩⟩
                  case measure =>
                    show c.keys.length + 1 - (intOf (.int .i64 (wrap64 ((i : Int) + 1)))).toNat < c.keys.length + 1 - (intOf (.int .i64 (i : Int))).toNat
                    rw [hwr]
                    have := HLT.out
                    simp only [intOf, Int.toNat_natCast]
                    omega
            · have HLF := Lib.hid hleaf
              have hz0 : (c.kids.length == 0) = false := by simpa using hleaf
              have HZ0 := Lib.hid hz0
              have HKL : Hid (c.kids.length = c.keys.length + 1) := Lib.hid (HK.out.resolve_left hleaf)
              clear hleaf hz0
              gi_wp2
              obtain ⟨W7, hW7⟩ : ∃ W7, W6.setCell ⟨wr.heap.size, 1, none⟩ (.string k) = W7 := ⟨_, rfl⟩
              rw [hW7]
              refine ⟨trivial, ((callsIn_wide (n := 8)).2 (leaf_c (some ⟨br, orow, none⟩) A' c.keys.length cc c.kids.length cc' W7)).mono ?_⟩
              rintro e W8 ⟨rfl, hb8⟩
              rw [HZ0.out]
              have hb7 : Below wr.heap.size wr W7 := hW7 ▸ HB6.out.setCell (Nat.le_refl _) _
              have HRN8 := Lib.hid (HRND.out.new HJ.out (hb7.trans (hb8.mono hb7.size)))
              have hs7 : SpB W7 wr.heap.size lo' k := hW7 ▸ HS6.out.high k
              have hs8 : SpB W8 wr.heap.size lo' k := (hb8.block _ hs7.cells.2.2).trans hs7
              have HS8 := Lib.hid hs8
              obtain ⟨⟨t0, t1⟩, -, -⟩ := hs8.cells
              obtain ⟨kid, hkid⟩ : ∃ kid, c.kids[i]? = some kid := ⟨_, List.getElem?_eq_getElem (by have := HKL.out; omega)⟩
              have HKID := Lib.hid hkid
              have ht := tail_kid hkid HKI.out
              have hr := HRS.out
              rw [ht] at hr
              have HRS1 : Hid (RisK ltS (k :: tailM c (i + 1))) := Lib.hid (List.pairwise_append.1 hr).2.1
              have HRSK : Hid (RisK ltS kid.flat) := Lib.hid (List.pairwise_append.1 hr).1
              have HEQ2 : Hid (pre ++ spanF lo' k kid.flat ++ k :: spanF (aboveS k) hi (tailM c (i + 1)) = spanF lo hi c.flat) := Lib.hid (by
                have h3 := span_more (lo := lo') (hi := hi) hr (HLO.out k HKI.out) (inS_hi HIN.out)
                rw [← HEQ.out, ht, h3, List.append_assoc])
              have HPOS : Hid (pre.length + (spanF lo' k kid.flat).length ≤ (spanF lo hi c.flat).length) := Lib.hid (by have h := congrArg List.length HEQ2.out; rw [List.length_append, List.length_append] at h; omega)
              by_cases hkl : k.toList = lo'.toList
              · have HEQ1 : Hid (pre ++ k :: spanF (aboveS k) hi (tailM c (i + 1)) = spanF lo hi c.flat) := Lib.hid (by
                  have h := HEQ2.out
                  rw [span_none (fun x hx => by have h1 := (List.pairwise_append.1 hr).2.2 x hx k (by simp); unfold ltS at h1 ⊢; rw [← hkl]; exact h1) k, List.append_nil] at h
                  exact h)
                have hkl' : (k.toList == lo'.toList) = true := by simpa using hkl
                clear hb7 hb8 hs7 hs8 hW7 hkid ht hr
                gi_wp2
                have HRN1 := Lib.hid HRN8.out
                have hks : k.size ≤ 281474976710656 := HKSZ.out k (List.mem_of_getElem? HKI.out)
                obtain ⟨⟨u0, u1⟩, -, ul⟩ := HRN1.out.t6.cells
                have yb0 : W8.cell? ⟨W.heap.size, 0, none⟩ = some (.func (.yield l) #[] #[]) := by rw [cell_of_row _ _ _ _ _ _ HRN1.out.y]; rfl
                have hN8 := HN.out.hold HRN1.out.h
                obtain ⟨br', or', hAr, hbl, hck⟩ := hN8.keys i k HKI.out
                cases hAr
                have ybl : W.heap.size < W8.heap.size := (Array.getElem?_eq_some_iff.1 HRN1.out.y).1
                have hpos : (pre).length < (spanF lo hi c.flat).length := by
                  have h4 := congrArg List.length HEQ1.out
                  simp only [List.length_append, List.length_cons] at h4 ⊢
                  omega
                have HYK : Hid (∀ wn, Below W8.heap.size W8 wn → YieldAt Fence.wide 8 Try.prog l #[.string k] wn fun e W' => ∃ bb, e = .returned (.bool bb) ∧ After J Jx read (mr) (pre ++ [k]) W8 bb W') := Lib.hid (fun wn hbw => by
                  have hj : J (fun b => (mr) b ∨ (W8.heap.size ≤ b ∧ b < wn.heap.size)) (pre) wn := HJ.out _ _ _ _ _ HRN1.out.j (Turn.of_below hbw) (fun b h => h)
                  refine YieldAt.mono (HY.out 8 _ _ k wn hj hpos) ?_
                  have hlt : ∀ X, Hold (fun b => ((mr) b ∨ (W8.heap.size ≤ b ∧ b < wn.heap.size)) ∨ read b) wn X → ∀ b, ((mr) b ∨ (W8.heap.size ≤ b ∧ b < wn.heap.size)) → b < X.heap.size := fun X h2 b hb => by
                    have hs := h2.1
                    rcases hb with hb | hb
                    · have := HRN1.out.lt b hb; have := hbw.size; omega
                    · omega
                  rintro e W' (⟨rfl, h1, h2⟩ | ⟨rfl, h1, h2⟩)
                  · exact ⟨true, rfl, _, wn, .inl ⟨rfl, h1⟩, hlt W' h2, fun b hb => .inl hb, hbw, h2⟩
                  · exact ⟨false, rfl, _, wn, .inr ⟨rfl, h1⟩, hlt W' h2, fun b hb => .inl hb, hbw, h2⟩)
                have HC9 := Lib.hid (fun wn => cloneB k wn hks)
                have HUL := Lib.hid (And.intro ul (And.intro ybl hbl)); have HUU := Lib.hid (And.intro u0 (And.intro yb0 hck))
                clear hks ul hN8 hbl hpos ybl
                refine then_falseIn ?_
                have hmx : Try.prog.follows .mixedOrders = true := by kernel_rfl
                gi_region_with_o (first
                  | ((try refine ⟨trivial, ?_⟩); gi_at_call 21; refine ((callsIn_wide (n := 8)).2 (HC9.out _)).mono ?_; rintro e w9 ⟨rfl, hb9⟩; have z1 := (Below.cell hb9 (p := ⟨g6, 0, none⟩) HUL.out.1).trans HUU.out.1; have z2 := (Below.cell hb9 (p := ⟨W.heap.size, 0, none⟩) HUL.out.2.1).trans HUU.out.2.1; obtain ⟨fn, tmps, assign, body, hy, hR⟩ := HYK.out w9 ((Below.refl _ W8).drew.trans hb9))
                  | (refine hR.mono ?_; rintro e w10 ⟨bb, rfl, hA⟩)
                  | fail)
                all_goals
                  have HA := Lib.hid hA
                  clear hA hb9 hR hy HYK HC9 hck z1 z2 u0 u1 yb0
                  cases bb
                  · gi_wp2
                    obtain ⟨mr', wn, hj, q2, q3, q4, q5⟩ := HA.out
                    rcases hj with ⟨h, -⟩ | ⟨-, hx⟩
                    · cases h
                    exact leaves_marks (K := fun V => Jx mr' (pre ++ [k]) V) (fun X Y h ht _ => HJx.out _ _ _ _ _ h ht (fun b h => .inl h)) (fun X h => ⟨_, results_none rfl _ _ _, ⟨_, rfl⟩, .inr ⟨_, _, trivial, h⟩⟩) (ds) _ (HRN1.out.marks2 q3 q4 q5) hx
                  · obtain ⟨mr', wn, hj, q2, q3, q4, q5⟩ := HA.out
                    rcases hj with ⟨-, q1⟩ | ⟨h, -⟩
                    rotate_left
                    · cases h
                    have hrn2 := HRN1.out.after q1 q2 q3 q4 q5
                    obtain ⟨br', or', hAr, hbl, hck⟩ := (HN.out.hold hrn2.h).keys i k HKI.out
                    cases hAr
                    obtain ⟨⟨u0, u1⟩, -, ul⟩ := hrn2.t6.cells
                    obtain ⟨⟨p0, p1⟩, pf, pl⟩ := hrn2.s7.cells
                    have HRN2 := Lib.hid hrn2
                    have hk1 : k.size ≤ 1000000 := Nat.le_trans (hksz _ (node_mem c) k (List.mem_of_getElem? HKI.out)) (by decide)
                    have HC10 := Lib.hid (above_c k w10 hk1)
                    clear hrn2 q1 q2 q3 q4 q5 hbl pf ul pl hk1
                    gi_wp2
                    refine ⟨trivial, ((callsIn_wide (n := 8)).2 HC10.out).mono ?_⟩
                    rintro e w11 ⟨rfl, hb11⟩
                    have pf0 : w11.frozen? ⟨g7, 0, none⟩ = false := (HRN2.out.new HJ.out hb11).s7.cells.2.1 0
                    have pz0 : w11.cell? ⟨g7, 0, none⟩ = some (.string lo') := (HRN2.out.new HJ.out hb11).s7.cells.1.1
                    have HB11 := Lib.hid hb11
                    clear hb11
                    gi_wp2
                    have hwr : wrap64 ((i : Int) + 1) = ((i + 1 : Nat) : Int) := by
                      rw [wrap64_id (is64_iff.2 (by have := HLT.out; have := HL.out.2; omega))]; omega
                    go_roundw
                    case rel =>
                      (repeat apply Exists.intro)
                      refine ⟨?_, rfl⟩
                      exact ⟨i + 1, by rw [hwr], HLT.out, Lib.hid ⟨mr', pre ++ [k], aboveS k, HRN2.out.low HJ.out HB11.out HG.out.1 (by have := HG.out.2.2; have := HBe.out.size; have := (Array.getElem?_eq_some_iff.1 HY1.out).1; omega) _, by rw [List.append_assoc, List.singleton_append]; exact HEQ1.out, (List.pairwise_cons.1 HRS1.out).2, fun k' hk' => lt_above (ris_next HRK.out HKI.out hk')⟩⟩
                    case measure =>
                      show c.keys.length + 1 - (intOf (.int .i64 (wrap64 ((i : Int) + 1)))).toNat < c.keys.length + 1 - (intOf (.int .i64 (i : Int))).toNat
                      rw [hwr]
                      have := HLT.out
                      simp only [intOf, Int.toNat_natCast]
                      omega
              · have hkl' : (k.toList == lo'.toList) = false := by simpa using hkl
                clear hb7 hb8 hs7 hs8 hW7 hkid ht hr
                have HEQ1 := HEQ2
                gi_wp2
                obtain ⟨bk, ok, hAk, hbk, hckk⟩ := (HN.out.hold HRN8.out.h).kids i kid.id (by rw [List.getElem?_map, HKID.out]; rfl)
                subst hAk
                have hB8 := HB.out.hold HRN8.out.h
                have hki : (i : Int) < (c.kids.length : Int) := by have := (List.getElem?_eq_some_iff.1 HKID.out).1; omega
                have hS0 : ∀ w', Below W8.heap.size W8 w' → ((w'.cell? ⟨pd, 0, none⟩ = some (.int .i64 ((deep + 1 : Nat) : Int)) ∧ w'.cell? ⟨pa, 0, none⟩ = some .nilFunc ∧ w'.cell? ⟨pa, 1, none⟩ = some (.map (some M)) ∧ w'.cell? ⟨pa, 2, none⟩ = some (.map (some G)) ∧ w'.cell? ⟨g6, 1, none⟩ = some (.slice (some ⟨bk, ok, none⟩) c.kids.length cc') ∧ w'.cell? ⟨bk, ok + i, none⟩ = some (.int .u64 (kid.id : Int)) ∧ w'.cell? ⟨wr.heap.size, 0, none⟩ = some (.string lo') ∧ w'.cell? ⟨wr.heap.size, 1, none⟩ = some (.string k)) ∧ Below W8.heap.size W8 w') := fun w' hb => by
                  have cl : ∀ {b j : Nat} {v : Value}, b < W8.heap.size → W8.cell? ⟨b, j, none⟩ = some v → w'.cell? ⟨b, j, none⟩ = some v := fun {b j v} hl h => (hb.cell (p := ⟨b, j, none⟩) hl).trans h
                  have lt : ∀ {b : Nat} {o : Obj}, W8.heap[b]? = some o → b < W8.heap.size := fun h => (Array.getElem?_eq_some_iff.1 h).1
                  obtain ⟨⟨-, u1⟩, -, ul⟩ := HRN8.out.t6.cells
                  obtain ⟨⟨t0, t1⟩, -, tl⟩ := HS8.out.cells
                  exact ⟨⟨cl (lt hB8.bd) (by rw [cell_of_row _ _ _ _ _ _ hB8.bd]; rfl), cl (lt hB8.ba) (by rw [cell_of_row _ _ _ _ _ _ hB8.ba]; rfl), cl (lt hB8.ba) (by rw [cell_of_row _ _ _ _ _ _ hB8.ba]; rfl), cl (lt hB8.ba) (by rw [cell_of_row _ _ _ _ _ _ hB8.ba]; rfl), cl ul u1, cl hbk hckk, cl tl t0, cl tl t1⟩, hb⟩
                have HCB : Hid (∀ wn, Below W8.heap.size W8 wn → Calls Try.prog 23 #[.agg #[.nilFunc, .map (some M), .map (some G)], .int .u64 (kid.id : Int), .agg #[.string lo', .string k], .int .i64 (deep : Int)] wn fun e w' => e = .returned (.func (.func 37) #[] #[.pointer (some ⟨wn.heap.size + 3, 0, none⟩), .pointer (some ⟨wn.heap.size, 0, none⟩), .pointer (some ⟨wn.heap.size + 1, 0, none⟩), .pointer (some ⟨wn.heap.size + 2, 0, none⟩)]) ∧ ((w'.cell? ⟨pd, 0, none⟩ = some (.int .i64 ((deep + 1 : Nat) : Int)) ∧ w'.cell? ⟨pa, 0, none⟩ = some .nilFunc ∧ w'.cell? ⟨pa, 1, none⟩ = some (.map (some M)) ∧ w'.cell? ⟨pa, 2, none⟩ = some (.map (some G)) ∧ w'.cell? ⟨g6, 1, none⟩ = some (.slice (some ⟨bk, ok, none⟩) c.kids.length cc') ∧ w'.cell? ⟨bk, ok + i, none⟩ = some (.int .u64 (kid.id : Int)) ∧ w'.cell? ⟨wr.heap.size, 0, none⟩ = some (.string lo') ∧ w'.cell? ⟨wr.heap.size, 1, none⟩ = some (.string k)) ∧ Below W8.heap.size W8 w') ∧ KidAt wn.heap.size M G kid.id deep lo' k w' ∧ W8.heap.size ≤ wn.heap.size) :=
                  Lib.hid (fun wn hb => (below_at kid.id deep lo' k M G wn).mono (fun e w' h => ⟨h.1, hS0 _ (hb.trans (h.2.2.mono hb.size)), h.2.1, hb.size⟩))
                have HS0 := Lib.hid hS0
                have hdl : (deep : Int) ≤ 64 := by have := hB8.deep.2; omega
                have hw1 : wrap64 ((deep : Int) + 1 - 1) = (deep : Int) := by rw [Int.add_sub_cancel]; exact wrap64_id (is64_iff.2 (by omega))
                have hw2 : wrap64 (deep : Int) = (deep : Int) := wrap64_id (is64_iff.2 (by omega))
                have hw3 : IntKind.i64.wrap (deep : Int) = (deep : Int) := IntWalk.i64_in _ (by omega)
                clear hS0 hB8 hbk hckk
                refine wpIn_wide.2 (then_false ?_)
                go_cut [73] from 64 to 73 (KidCut W8 M G kid.id deep lo' k)
                case first =>
                  go_region_held3 (fun w' => ((w'.cell? ⟨pd, 0, none⟩ = some (.int .i64 ((deep + 1 : Nat) : Int)) ∧ w'.cell? ⟨pa, 0, none⟩ = some .nilFunc ∧ w'.cell? ⟨pa, 1, none⟩ = some (.map (some M)) ∧ w'.cell? ⟨pa, 2, none⟩ = some (.map (some G)) ∧ w'.cell? ⟨g6, 1, none⟩ = some (.slice (some ⟨bk, ok, none⟩) c.kids.length cc') ∧ w'.cell? ⟨bk, ok + i, none⟩ = some (.int .u64 (kid.id : Int)) ∧ w'.cell? ⟨wr.heap.size, 0, none⟩ = some (.string lo') ∧ w'.cell? ⟨wr.heap.size, 1, none⟩ = some (.string k)) ∧ Below W8.heap.size W8 w'))
                    (first
                      | exact HS0.out _ (Below.refl _ _).drew
                      | assumption)
                    (first
                      | (go_at_call 23; (with_reducible refine (HCB.out _ (And.right (by assumption))).mono ?_); rintro e w9 ⟨rfl, hS9, hK9, hq9⟩))
                  all_goals
                    go_wp2_with fail
                    go_meet
                    exact ⟨_, rfl, hq9, hK9, And.right hS9⟩
                case rest =>
                  obtain ⟨q, rfl, hq, hKq, hb9⟩ := hcut
                  rename World => W9
                  have hrn9 := HRN8.out.own HJ.out hb9
                  obtain ⟨mr9, hmr9⟩ : ∃ m, (fun b => mr b ∨ (W8.heap.size ≤ b ∧ b < W9.heap.size)) = m := ⟨_, rfl⟩
                  rw [hmr9] at hrn9
                  have hql : q + 3 < W9.heap.size := (Array.getElem?_eq_some_iff.1 hKq.2.2.2).1
                  have hBk := (HB.out.hold hrn9.h).kid HKID.out hKq HRSK.out
                  have hrl : ∀ b, (read b ∨ (q ≤ b ∧ b < q + 4)) → b < W9.heap.size := fun b hb => by
                    rcases hb with hb | hb
                    · have := HRD.out b hb; have := HH.out.1; have := hrn9.h.1; omega
                    · omega
                  have HIT := Lib.hid (IH.out kid lo' k W9 _ _ _ _ _ M G laid hBk hrl (fun x hx => hksz x (kid_nodes HKID.out hx)) 8)
                  have HR9 := Lib.hid hrn9; have HQ := Lib.hid (And.intro hq hql); have HMR9 := Lib.hid hmr9
                  clear hrn9 hBk hKq hb9 hq hql hmr9
                  gi_wp2
                  refine wpIn_range_iter2 rfl (by decide) (gf := 37) (lb := #[.pointer (some ⟨q + 3, 0, none⟩), .pointer (some ⟨q, 0, none⟩), .pointer (some ⟨q + 1, 0, none⟩), .pointer (some ⟨q + 2, 0, none⟩)]) rfl trivial (enters_of Try.func37 (by kernel_rfl) rfl)
                    (read := fun b => read b ∨ (q ≤ b ∧ b < q + 4)) HIT.out hrl (fun _ => rfl) (InL J read mr9 pre W9) (fun c' m xs V => c' = .ret ∧ InL Jx read mr9 pre W9 m xs V) (InL.clos HJ.out) (fun c' => clos_and (InL.clos HJx.out)) (InL.recs HJ.out) (fun c' => recs_and (InL.recs HJx.out)) (InL.start HJ.out HR9.out.j) ?round ?done ?stop
                  case round =>
                    intro x
                    apply Exists.intro
                    refine ⟨fun la V K hK => ?_, fun la mine' xs V hI h2 hN => ?_⟩
                    · gi_wp2
                      exact hK
                    · have hyb : V.heap[W.heap.size]? = some (.cells #[.func (.yield l) #[] #[]] 42 (0, 0)) := (hI.2.2.2.2 _ (.inl HR9.out.mem.1) (Array.getElem?_eq_some_iff.1 HR9.out.y).1).trans HR9.out.y
                      have yb0 : V.cell? ⟨W.heap.size, 0, none⟩ = some (.func (.yield l) #[] #[]) := by rw [cell_of_row _ _ _ _ _ _ hyb]; rfl
                      obtain ⟨fn, tmps, assign, body, hy, hR⟩ := HY.out 6 _ _ x V hI.2.2.1 (by have := HPOS.out; rw [List.length_append]; omega)
                      have HI := Lib.hid hI; have HR := Lib.hid hR; have H2 := Lib.hid h2
                      clear hI hR h2 hyb
                      gi_wp2
                      refine (round_in HR.out la).mono ?_
                      have hmr : ∀ b, mr9 b → b < W9.heap.size := HR9.out.lt
                      have hrr : ∀ b, (read b ∨ (q ≤ b ∧ b < q + 4)) → read b ∨ mr9 b := fun b hb => hb.imp id (fun hb => by rw [← HMR9.out]; have := HQ.out; exact .inr (by omega))
                      have HMRR := Lib.hid (And.intro hmr hrr)
                      clear hmr hrr
                      rintro e V' (⟨rfl, h1, h3⟩ | ⟨rfl, h1, h3⟩)
                      · have H1 := Lib.hid h1; have H3 := Lib.hid h3
                        clear h1 h3
                        gi_wp2
                        exact ⟨InL.keeps HMRR.out.2 H3.out, InL.next HJ.out HMRR.out.1 HI.out H2.out H1.out H3.out⟩
                      · have H1 := Lib.hid h1; have H3 := Lib.hid h3
                        clear h1 h3
                        gi_wp2
                        exact ⟨InL.keeps HMRR.out.2 H3.out, rfl, InL.next HJx.out HMRR.out.1 HI.out H2.out H1.out H3.out⟩
                  case stop =>
                    rintro c' mine' xs V - ⟨rfl, hI⟩ hd
                    have HI := Lib.hid hI; have HD := Lib.hid hd
                    clear hI hd
                    gi_wp2
                    exact leaves_marks (K := fun X => Jx (fun b => (mr9 b ∨ b = W9.heap.size ∨ b = W9.heap.size + 1 ∨ mine' b) ∧ b < V.heap.size) (pre ++ xs) X) (fun X Y h ht _ => HJx.out _ _ _ _ _ h ht (fun b h => .inl h)) (fun X h => ⟨_, results_none rfl _ _ _, ⟨_, rfl⟩, .inr ⟨_, _, trivial, h⟩⟩) _ _ (HR9.out.marks HI.out HD.out) HI.out.2.2.1
                  case done =>
                    rintro mine' xs V rfl hI hd
                    have hrn1 := HR9.out.loop hI hd
                    obtain ⟨mr1, hmr1⟩ : ∃ m, (fun b => (mr9 b ∨ b = W9.heap.size ∨ b = W9.heap.size + 1 ∨ mine' b) ∧ b < V.heap.size) = m := ⟨_, rfl⟩
                    rw [hmr1] at hrn1
                    have HRNV := Lib.hid hrn1
                    clear hrn1 hI hd hmr1
                    gi_wp2
                    have HRN1 := Lib.hid HRNV.out
                    have hks : k.size ≤ 281474976710656 := HKSZ.out k (List.mem_of_getElem? HKI.out)
                    obtain ⟨⟨u0, u1⟩, -, ul⟩ := HRN1.out.t6.cells
                    have yb0 : V.cell? ⟨W.heap.size, 0, none⟩ = some (.func (.yield l) #[] #[]) := by rw [cell_of_row _ _ _ _ _ _ HRN1.out.y]; rfl
                    have hN8 := HN.out.hold HRN1.out.h
                    obtain ⟨br', or', hAr, hbl, hck⟩ := hN8.keys i k HKI.out
                    cases hAr
                    have ybl : W.heap.size < V.heap.size := (Array.getElem?_eq_some_iff.1 HRN1.out.y).1
                    have hpos : ((pre ++ spanF lo' k kid.flat)).length < (spanF lo hi c.flat).length := by
                      have h4 := congrArg List.length HEQ1.out
                      simp only [List.length_append, List.length_cons] at h4 ⊢
                      omega
                    have HYK : Hid (∀ wn, Below V.heap.size V wn → YieldAt Fence.wide 8 Try.prog l #[.string k] wn fun e W' => ∃ bb, e = .returned (.bool bb) ∧ After J Jx read (mr1) ((pre ++ spanF lo' k kid.flat) ++ [k]) V bb W') := Lib.hid (fun wn hbw => by
                      have hj : J (fun b => (mr1) b ∨ (V.heap.size ≤ b ∧ b < wn.heap.size)) ((pre ++ spanF lo' k kid.flat)) wn := HJ.out _ _ _ _ _ HRN1.out.j (Turn.of_below hbw) (fun b h => h)
                      refine YieldAt.mono (HY.out 8 _ _ k wn hj hpos) ?_
                      have hlt : ∀ X, Hold (fun b => ((mr1) b ∨ (V.heap.size ≤ b ∧ b < wn.heap.size)) ∨ read b) wn X → ∀ b, ((mr1) b ∨ (V.heap.size ≤ b ∧ b < wn.heap.size)) → b < X.heap.size := fun X h2 b hb => by
                        have hs := h2.1
                        rcases hb with hb | hb
                        · have := HRN1.out.lt b hb; have := hbw.size; omega
                        · omega
                      rintro e W' (⟨rfl, h1, h2⟩ | ⟨rfl, h1, h2⟩)
                      · exact ⟨true, rfl, _, wn, .inl ⟨rfl, h1⟩, hlt W' h2, fun b hb => .inl hb, hbw, h2⟩
                      · exact ⟨false, rfl, _, wn, .inr ⟨rfl, h1⟩, hlt W' h2, fun b hb => .inl hb, hbw, h2⟩)
                    have HC9 := Lib.hid (fun wn => cloneB k wn hks)
                    have HUL := Lib.hid (And.intro ul (And.intro ybl hbl)); have HUU := Lib.hid (And.intro u0 (And.intro yb0 hck))
                    clear hks ul hN8 hbl hpos ybl
                    refine then_falseIn ?_
                    have hmx : Try.prog.follows .mixedOrders = true := by kernel_rfl
                    gi_region_with_o (first
                      | ((try refine ⟨trivial, ?_⟩); gi_at_call 21; refine ((callsIn_wide (n := 8)).2 (HC9.out _)).mono ?_; rintro e w9 ⟨rfl, hb9⟩; have z1 := (Below.cell hb9 (p := ⟨g6, 0, none⟩) HUL.out.1).trans HUU.out.1; have z2 := (Below.cell hb9 (p := ⟨W.heap.size, 0, none⟩) HUL.out.2.1).trans HUU.out.2.1; obtain ⟨fn, tmps, assign, body, hy, hR⟩ := HYK.out w9 ((Below.refl _ V).drew.trans hb9))
                      | (refine hR.mono ?_; rintro e w10 ⟨bb, rfl, hA⟩)
                      | fail)
                    all_goals
                      have HA := Lib.hid hA
                      clear hA hb9 hR hy HYK HC9 hck z1 z2 u0 u1 yb0
                      cases bb
                      · gi_wp2
                        obtain ⟨mr', wn, hj, q2, q3, q4, q5⟩ := HA.out
                        rcases hj with ⟨h, -⟩ | ⟨-, hx⟩
                        · cases h
                        exact leaves_marks (K := fun V => Jx mr' ((pre ++ spanF lo' k kid.flat) ++ [k]) V) (fun X Y h ht _ => HJx.out _ _ _ _ _ h ht (fun b h => .inl h)) (fun X h => ⟨_, results_none rfl _ _ _, ⟨_, rfl⟩, .inr ⟨_, _, trivial, h⟩⟩) (({ target := .collected W9.heap.size, args := #[] } :: ds)) _ (HRN1.out.marks2 q3 q4 q5) hx
                      · obtain ⟨mr', wn, hj, q2, q3, q4, q5⟩ := HA.out
                        rcases hj with ⟨-, q1⟩ | ⟨h, -⟩
                        rotate_left
                        · cases h
                        have hrn2 := HRN1.out.after q1 q2 q3 q4 q5
                        obtain ⟨br', or', hAr, hbl, hck⟩ := (HN.out.hold hrn2.h).keys i k HKI.out
                        cases hAr
                        obtain ⟨⟨u0, u1⟩, -, ul⟩ := hrn2.t6.cells
                        obtain ⟨⟨p0, p1⟩, pf, pl⟩ := hrn2.s7.cells
                        have HRN2 := Lib.hid hrn2
                        have hk1 : k.size ≤ 1000000 := Nat.le_trans (hksz _ (node_mem c) k (List.mem_of_getElem? HKI.out)) (by decide)
                        have HC10 := Lib.hid (above_c k w10 hk1)
                        clear hrn2 q1 q2 q3 q4 q5 hbl pf ul pl hk1
                        gi_wp2
                        refine ⟨trivial, ((callsIn_wide (n := 8)).2 HC10.out).mono ?_⟩
                        rintro e w11 ⟨rfl, hb11⟩
                        have pf0 : w11.frozen? ⟨g7, 0, none⟩ = false := (HRN2.out.new HJ.out hb11).s7.cells.2.1 0
                        have pz0 : w11.cell? ⟨g7, 0, none⟩ = some (.string lo') := (HRN2.out.new HJ.out hb11).s7.cells.1.1
                        have HB11 := Lib.hid hb11
                        clear hb11
                        gi_wp2
                        have hwr : wrap64 ((i : Int) + 1) = ((i + 1 : Nat) : Int) := by
                          rw [wrap64_id (is64_iff.2 (by have := HLT.out; have := HL.out.2; omega))]; omega
                        go_roundw
                        case rel =>
                          (repeat apply Exists.intro)
                          refine ⟨?_, rfl⟩
                          exact ⟨i + 1, by rw [hwr], HLT.out, Lib.hid ⟨mr', (pre ++ spanF lo' k kid.flat) ++ [k], aboveS k, HRN2.out.low HJ.out HB11.out HG.out.1 (by have := HG.out.2.2; have := HBe.out.size; have := (Array.getElem?_eq_some_iff.1 HY1.out).1; omega) _, by rw [List.append_assoc, List.singleton_append]; exact HEQ1.out, (List.pairwise_cons.1 HRS1.out).2, fun k' hk' => lt_above (ris_next HRK.out HKI.out hk')⟩⟩
                        case measure =>
                          show c.keys.length + 1 - (intOf (.int .i64 (wrap64 ((i : Int) + 1)))).toNat < c.keys.length + 1 - (intOf (.int .i64 (i : Int))).toNat
                          rw [hwr]
                          have := HLT.out
                          simp only [intOf, Int.toNat_natCast]
                          omega


theorem blw_iter : ∀ (deep : Nat) (c : B ByteArray) (lo hi : ByteArray) (W0 : World) (read : Nat → Prop) (pd pa pi ps M G : Nat) (laid : List (Nat × Value)), Blw W0 read pd pa pi ps M G laid deep c lo hi → (∀ b, read b → b < W0.heap.size) → (∀ x ∈ c.nodes, ∀ k ∈ x.2.1, k.size ≤ 1000) → ∀ n,
    Iter Fence.wide n Try.prog 37 #[.pointer (some ⟨pd, 0, none⟩), .pointer (some ⟨pa, 0, none⟩), .pointer (some ⟨pi, 0, none⟩), .pointer (some ⟨ps, 0, none⟩)] (fun s : ByteArray => #[Value.string s]) (fun xs => xs = spanF lo hi c.flat) (fun _ => True) (spanF lo hi c.flat).length read W0
  | 0, c, lo, hi, W0, read, pd, pa, pi, ps, M, G, laid, hBlw, hrd, hksz, n => by
    have := hBlw.deep.1
    obtain ⟨i, ks, ts⟩ := c
    rw [hgt_mk] at this; omega
  | deep + 1, c, lo, hi, W0, read, pd, pa, pi, ps, M, G, laid, hBlw, hrd, hksz, n => blw_step deep (Lib.hid (blw_iter deep)) c lo hi W0 read pd pa pi ps M G laid hBlw hrd hksz n

end Go.Proofs.Ytmhpgbhmhbldfaa
