/- RefS, CmpA, Copy -/
import Derived.Test.YtgmjhoppjjjilaaDoorQ17
import Derived.Test.YtgmjhoppjjjilaaDoorQ06
import Derived.Laws.MakeOwn
import Derived.OwnWalk

/- contracts of the reference's Split and Mix -/
namespace Go.Proofs.YtgmjhoppjjjilaaDoor
open Go.ChangeShapes Go.WideShapes Go.ChangeAt Go.RowKit Go.Fl

/-- n halved k times, downwards -/
def hv (n : Int) (k : Nat) : Int := n / ((2 ^ k : Nat) : Int)

theorem hv_zero (n : Int) : hv n 0 = n := by unfold hv; simp

theorem hv_succ (n : Int) (k : Nat) : hv n k / 2 = hv n (k + 1) := by
  unfold hv
  rw [Int.ediv_ediv_of_nonneg (Int.le_of_lt (two_pos k)), Nat.pow_succ]; rfl

theorem hv_end {n : Int} {k : Nat} (hk : k ≤ sh n) (h : (hv n k).natAbs ≤ 9007199254740992) : hv n k * ((2 ^ k : Nat) : Int) = flo n := flo_halved hk h

theorem hv_top (n : Int) : (hv n (sh n)).natAbs ≤ 9007199254740992 := quo_le n

theorem split_facts {n : Int} {k : Nat} (n1 : -9223372036854775808 ≤ n) (n2 : n ≤ 9223372036854775807) (hk : k ≤ sh n) (h : (hv n k).natAbs ≤ 9007199254740992) :
    floatBits .mul .f64 (floatOfInt .f64 (hv n k)) (floatOfInt .f64 (wrap64 ((2 : Int) ^ k))) = some (fw (flo n)) ∧ wrap64 (n - wrap64 (hv n k * (2 : Int) ^ k)) = n - flo n := by
  have he := hv_end hk h
  have hm : Fit (hv n k) := fit_small _ h
  have hk11 : k ≤ 11 := Nat.le_trans hk (sh_le n1 n2)
  have hpw : (2 : Int) ^ k = ((2 ^ k : Nat) : Int) := by simp
  have hp1 := two_pos k
  have hp2 : 2 ^ k ≤ 2 ^ 11 := Nat.pow_le_pow_right (by decide) hk11
  have hp3 : (2 : Nat) ^ 11 = 2048 := by decide
  rw [hp3] at hp2
  have hfl := flo_range n1 n2
  have hov := over_range n1 n2
  have hfit := flo_fit n1 n2
  rw [hpw]
  generalize 2 ^ k = p at *
  have hw2 : wrap64 (p : Int) = (p : Int) := wrap64_id (is64_iff.2 (by omega))
  rw [hw2, he, wrap64_id (is64_iff.2 hfl), wrap64_id (is64_iff.2 (by omega))]
  refine ⟨?_, rfl⟩
  have hq := floatBits_mul hm (fit_small (p : Int) (by omega)) (by rw [he]; exact hfit) hp1
  rw [he] at hq
  exact hq

theorem rsplit_any (n : Int) (w : World) (hn : is64 n = true) :
    Calls Tryd.prog 85 #[.int .i64 n] w fun e w' => e = .returned (.tuple #[.float .f64 (fw (flo n)), .int .i64 (n - flo n)]) ∧ w = w' := by
  obtain ⟨n1, n2⟩ := is64_iff.1 hn
  have hs := sh_le n1 n2
  clear hn
  go_enter Tryd.func85, Tryd.ntmps85
  go_wp2
  go_loop [4, 5] (fun m k => ∃ k' : Nat, k' ≤ sh n ∧ k = .int .i64 k' ∧ m = .int .i64 (hv n k')) (fun m _ => (intOf m).natAbs)
  case atStart => exact ⟨0, Nat.zero_le _, rfl, by rw [hv_zero]⟩
  case round =>
    obtain ⟨k, hk, rfl, rfl⟩ := hrel
    have hsu := hv_succ n k
    have htop := hv_top n
    by_cases h1 : 9007199254740992 < hv n k
    · have Hs := Lib.hid hsu; have Ht := Lib.hid htop; clear hsu htop
      go_wp2
      go_round
      case rel =>
        refine ⟨k + 1, ?_, by go_num, by rw [Hs.out]⟩
        have := Ht.out
        apply Nat.lt_of_le_of_ne hk; intro e; subst e; omega
      case measure => simp [intOf]; omega
    · by_cases h2 : hv n k < -9007199254740992
      · have Hs := Lib.hid hsu; have Ht := Lib.hid htop; clear hsu htop
        go_wp2
        go_round
        case rel =>
          refine ⟨k + 1, ?_, by go_num, by rw [Hs.out]⟩
          have := Ht.out
          apply Nat.lt_of_le_of_ne hk; intro e; subst e; omega
        case measure => simp [intOf]; omega
      · have he := hv_end hk (by omega)
        obtain ⟨hq, hres⟩ := split_facts n1 n2 hk (by omega)
        have hmul : ∀ w, (binOp .mul 22 (.float .f64 (floatOfInt .f64 (hv n k))) (.float .f64 (floatOfInt .f64 (wrap64 ((2 : Int) ^ k))))).run Tryd.prog w = .ok (.float .f64 (fw (flo n))) w :=
          fun w => run_float_arith w .mul 22 .f64 _ _ _ hq
        have hk11 : k ≤ 11 := Nat.le_trans hk hs
        have Hr := Lib.hid hres
        clear hsu htop he hres hk hq
        go_wp2
        go_ret2
        exact ⟨ret_fi Hr.out, rfl⟩

theorem rmix_any (n : Int) (b : Nat) (w : World) (hn : is64 n = true) (hb : b < 18446744073709551616) :
    Calls Tryd.prog 71 #[.int .i64 n, .float .f64 b] w fun e w' => e = .returned (.int .i64 (mixN n b)) ∧ w = w' := by
  obtain ⟨n1, n2⟩ := is64_iff.1 hn
  have hz := (fw_facts (flo_fit n1 n2)).1
  have hs := Lib.hid (rsplit_any n · hn)
  unfold mixN
  have Hb := Lib.hid hb; have Hz := Lib.hid hz
  clear hn hb hz n1 n2
  generalize fw (flo n) = z at *
  generalize n - flo n = y at *
  by_cases hc : cmpN z b = 0
  · rw [if_pos hc]
    have Hc := Lib.hid hc; clear hc
    by_cases hy : 0 < y
    · rw [if_pos hy]
      go_enter Tryd.func71, Tryd.ntmps71
      go_wp2_with fail
      refine (hs.out _).mono ?_
      rintro e w1 ⟨rfl, rfl⟩
      go_wp2_with fail
      refine (rcmp_any _ _ _ Hz.out Hb.out).mono ?_
      rw [Hc.out]
      rintro e w' ⟨rfl, rfl⟩
      go_wp2
      go_ret
      exact ⟨rfl, rfl⟩
    · rw [if_neg hy]
      go_enter Tryd.func71, Tryd.ntmps71
      go_wp2_with fail
      refine (hs.out _).mono ?_
      rintro e w1 ⟨rfl, rfl⟩
      go_wp2_with fail
      refine (rcmp_any _ _ _ Hz.out Hb.out).mono ?_
      rw [Hc.out]
      rintro e w' ⟨rfl, rfl⟩
      go_wp2
      go_ret
      exact ⟨rfl, rfl⟩
  · rw [if_neg hc]
    have hc' : (cmpN z b == 0) = false := by simpa using hc
    clear hc
    go_enter Tryd.func71, Tryd.ntmps71
    go_wp2_with fail
    refine (hs.out _).mono ?_
    rintro e w1 ⟨rfl, rfl⟩
    go_wp2_with fail
    refine (rcmp_any _ _ _ Hz.out Hb.out).mono ?_
    rintro e w' ⟨rfl, rfl⟩
    go_wp2
    go_ret
    exact ⟨rfl, rfl⟩

end Go.Proofs.YtgmjhoppjjjilaaDoor

/- small functions of package val and its reference that only reckon -/
namespace Go.Proofs.YtgmjhoppjjjilaaDoor
open Go.ChangeShapes Go.WideShapes Go.ChangeAt Go.RowKit Go.Fl

/-- a quiet callee behind draws, the world on the left -/
theorem quiet_left {P : Program} {f : FuncId} {args : Array Value} {w : World} {n : Nat} {v : Value}
    (h : Calls P f args (w.drewN n) fun e w' => e = .returned v ∧ w.drewN n = w') : Calls P f args (w.drewN n) fun e w'' => e = .returned v ∧ ∃ m, w'' = w.drewN m :=
  h.mono fun _ _ ⟨he, hm⟩ => ⟨he, n, hm.symm⟩

theorem quiet_add_left {P : Program} {f : FuncId} {args : Array Value} {w : World} {a n : Nat} {v : Value}
    (h : Calls P f args (w.drewN (a + n)) fun e w' => e = .returned v ∧ w.drewN (a + n) = w') :
    Calls P f args (w.drewN (a + n)) fun e w'' => e = .returned v ∧ ∃ m, w'' = w.drewN (a + m) :=
  h.mono fun _ _ ⟨he, hm⟩ => ⟨he, n, hm.symm⟩

theorem below_drewN {B : Nat} {a w : World} (h : Below B a w) (n : Nat) : Below B a (w.drewN n) := ⟨h.os, h.tape, h.output, h.size, h.block⟩

/-- how two int64 are ordered -/
def cmpI (x y : Int) : Int := if x < y then -1 else if y < x then 1 else 0

/-- a kind's class -/
def rk (k : Int) : Int := if k = 3 then 2 else k

theorem class_any (k : Int) (w : World) : Calls Tryd.prog 69 #[.int .i64 k] w fun e w' => e = .returned (.int .i64 (rk k)) ∧ w = w' := by
  unfold rk
  by_cases h : k = 3
  · subst h
    go_enter Tryd.func69, Tryd.ntmps69
    go_wp2
    go_ret
    exact ⟨rfl, rfl⟩
  · rw [if_neg h]
    have hd : (k == 3) = false := by simpa using h
    clear h
    go_enter Tryd.func69, Tryd.ntmps69
    go_wp2
    go_ret
    exact ⟨rfl, rfl⟩

/-- what 'sign' answers -/
def sgnB (a b : Bool) : Int := if a then -1 else if b then 1 else 0

theorem sign_any (a b : Bool) (w : World) : Calls Tryd.prog 70 #[.bool a, .bool b] w fun e w' => e = .returned (.int .i64 (sgnB a b)) ∧ w = w' := by
  cases a <;> cases b
  all_goals
    go_enter Tryd.func70, Tryd.ntmps70
    go_wp2
    go_ret
    exact ⟨rfl, rfl⟩

/-- how two bools are ordered -/
def cmpBo (a b : Bool) : Int := if a = b then 0 else if b then -1 else 1

theorem sgn_bools (a b : Bool) : sgnB (!a && b) (a && !b) = cmpBo a b := by cases a <;> cases b <;> rfl

theorem sgn_ints (a b : Int) : sgnB (decide (a < b)) (decide (b < a)) = cmpI a b := by
  unfold sgnB cmpI; simp

/-- how two texts are ordered -/
def cmpS (a b : ByteArray) : Int := if Op.bytesLess a.toList b.toList = true then -1 else if (a.toList == b.toList) = true then 0 else 1

/-- a value without parts -/
def valV (k : Int) (b : Bool) (n : Int) (f : Nat) (s : ByteArray) : Value := .agg #[.int .i64 k, .bool b, .int .i64 n, .float .f64 f, .string s, .slice none 0 0]

theorem RdX.leaf (w : World) (L B : Nat) (k : Int) (b : Bool) (n : Int) (f : Nat) (s : ByteArray) (hk : is64 k = true) (hn : is64 n = true) (hf : f < 18446744073709551616) (hs : s.size ≤ 140737488351232) : RdX w L B (.mk k b n f s []) (valV k b n f s) :=
  RdX.of (l := []) none 0 hk hn hf hs (Nat.zero_le _) (by simp) (fun _ => rfl) (fun i hi => absurd hi (Nat.not_lt_zero _))

end Go.Proofs.YtgmjhoppjjjilaaDoor

/- val.Copy, copies, List -/
namespace Go.Proofs.YtgmjhoppjjjilaaDoor
open Go.ChangeShapes Go.WideShapes Go.ChangeAt Go.RowKit Go.Fl

theorem info_value : (Tryd.prog.info? 25).map (fun i => (i.zero, i.size, i.bytes)) = some (some (valV 0 false 0 0 ⟨#[]⟩), 6, 72) := by kernel_rfl

theorem run_make_rowN {P : Program} (t e : TypeId) (i : TypeInfo) (z : Value) (ht : P.underlying t = some (.slice e)) (hi : P.info? e = some i) (hz : i.zero = some z)
    (kl kc : IntKind) (n c : Nat) (hnc : n ≤ c) (hbytes : i.bytes * c ≤ 281474976710656) (h63 : c ≤ 9223372036854775807) (w : World) :
    (Instr.makeSlice t (.int kl (n : Int)) (.int kc (c : Int))).run P w = .ok (.slice (some ⟨w.heap.size, 0, none⟩) n c) (w.alloc (.cells (madeCells z.cells (c * i.size)) e)) := by
  have hb : (i.bytes : Int) * (c : Int) ≤ 281474976710656 := by
    have h : ((i.bytes * c : Nat) : Int) ≤ 281474976710656 := by omega
    rwa [Int.natCast_mul] at h
  have hr := run_make (P := P) w t e i z ht hi hz kl kc n c (by omega) (by omega) hb (by omega)
  simp only [Int.toNat_natCast] at hr
  exact hr

/-- a slice of copies -/
def Copied (w : World) (l : List T) (e : Ending) (w' : World) : Prop :=
  ∃ A, e = .returned (.slice A l.length l.length) ∧ (A = none → l.length = 0) ∧ RdXL w' w.heap.size w'.heap.size l A ∧ Below w.heap.size w w'

/-- what stands in the new block behind i rounds -/
def Part (w wr : World) (l : List T) (i : Nat) : Prop :=
  ∃ cs : Array Value, wr.heap[w.heap.size]? = some (.cells cs 25 (0, 0)) ∧ cs.size = l.length * 6 ∧
    ∀ j (hj : j < l.length), j < i → ∃ v, (∀ k u, v.cells[k]? = some u → cs[j * 6 + k]? = some u) ∧ RdX wr (w.heap.size + 1) wr.heap.size l[j] v

theorem part_step {w wr w1 : World} {l : List T} {i : Nat} {cs : Array Value} {k : Int} {b : Bool} {n : Int} {f : Nat} {s : ByteArray} {q : List T} {D : Option Addr} {c : Nat} (hi : i ≤ l.length) (hlt : i < l.length) (hb : Below w.heap.size w wr) (hz : w.heap.size < wr.heap.size)
    (hblk : wr.heap[w.heap.size]? = some (.cells cs 25 (0, 0))) (hsz : cs.size = l.length * 6)
    (hpart : ∀ j (hj : j < l.length), j < i → ∃ v, (∀ k u, v.cells[k]? = some u → cs[j * 6 + k]? = some u) ∧ RdX wr (w.heap.size + 1) wr.heap.size l[j] v)
    (hb1 : Below wr.heap.size wr w1) (hx : l[i] = .mk k b n f s q) (hv : RdX w1 (wr.heap.size + 1) w1.heap.size l[i] (.agg #[.int .i64 k, .bool b, .int .i64 n, .float .f64 f, .string s, .slice D q.length c])) :
    ∃ i', i' ≤ l.length ∧ Value.int .i64 ((i : Int) + 1) = .int .i64 (i' : Nat) ∧ Below w.heap.size w (set6 w1 w.heap.size (i * 6) (.int .i64 k) (.bool b) (.int .i64 n) (.float .f64 f) (.string s) (.slice D q.length c)) ∧
      w.heap.size < (set6 w1 w.heap.size (i * 6) (.int .i64 k) (.bool b) (.int .i64 n) (.float .f64 f) (.string s) (.slice D q.length c)).heap.size ∧
      Part w (set6 w1 w.heap.size (i * 6) (.int .i64 k) (.bool b) (.int .i64 n) (.float .f64 f) (.string s) (.slice D q.length c)) l i' := by
  have hblk1 : Blk w1 w.heap.size 25 cs := Blk.below (w := wr) hblk hb1 hz
  have hz1 := hb1.size
  refine ⟨i + 1, hlt, by go_num, set6_below (hb.trans (hb1.mono (Nat.le_of_lt hz))) (Nat.le_refl _) _ _ _ _ _ _, by rw [set6_size]; omega,
    put6 cs (i * 6) (.int .i64 k) (.bool b) (.int .i64 n) (.float .f64 f) (.string s) (.slice D q.length c), set6_blk hblk1 _ _ _ _ _ _, by rw [put6_size, hsz], fun j hj hji => ?_⟩
  have hkeep : ∀ p : Addr, w.heap.size + 1 ≤ p.block → (set6 w1 w.heap.size (i * 6) (.int .i64 k) (.bool b) (.int .i64 n) (.float .f64 f) (.string s) (.slice D q.length c)).cell? p = w1.cell? p := fun p hp =>
    World.cell?_of_block (set6_far _ _ _ _ _ _ (by omega))
  by_cases hj' : j < i
  · obtain ⟨v, h1, h2⟩ := hpart j hj hj'
    refine ⟨v, fun k' u hu => ?_, h2.keep (fun p hp hp' => (hkeep p hp).trans (hb1.cell hp')) (Nat.le_refl _) (by rw [set6_size]; omega)⟩
    have hu' := h1 k' u hu
    have hk6 : k' < 6 := by
      rcases hxj : l[j] with ⟨kj, bj, nj, fj, sj, qj⟩
      rw [hxj] at h2
      obtain ⟨A', c', rfl, -⟩ := h2.open
      have := (Array.getElem?_eq_some_iff.1 hu).1
      simpa [Value.cells] using this
    rw [put6_far _ _ _ _ _ _ (by omega)]
    exact hu'
  · obtain rfl : j = i := by omega
    refine ⟨.agg #[.int .i64 k, .bool b, .int .i64 n, .float .f64 f, .string s, .slice D q.length c], fun k' u hu => put6_at _ _ _ _ _ _ (by rw [hsz]; omega) hu, hv.keep (fun p hp _ => hkeep p (by omega)) (by omega) (by rw [set6_size]; omega)⟩

theorem part_end {w wr : World} {l : List T} {i : Nat} (hi : l.length ≤ i) (hb : Below w.heap.size w wr) (hp : Part w wr l i) :
    Copied w l (.returned (.slice (some ⟨w.heap.size, 0, none⟩) l.length l.length)) wr := by
  obtain ⟨cs, hblk, hsz, hpart⟩ := hp
  refine ⟨some ⟨w.heap.size, 0, none⟩, rfl, (fun h => by cases h), fun j hj => ?_, hb⟩
  obtain ⟨v, h1, h2⟩ := hpart j hj (by omega)
  have hlt : w.heap.size < wr.heap.size := Blk.lt (w := wr) hblk
  refine ⟨⟨w.heap.size, 0, none⟩, v, rfl, ⟨Nat.le_refl _, hlt⟩, fun k u hu => ?_, h2.up (Nat.le_succ _) (Nat.le_refl _)⟩
  have : (⟨w.heap.size, 0, none⟩ : Addr).add (j * 6 + k) = ⟨w.heap.size, j * 6 + k, none⟩ := by unfold Addr.add; split <;> simp_all
  rw [this, Blk.cell (w := wr) hblk]
  exact h1 k u hu

end Go.Proofs.YtgmjhoppjjjilaaDoor
