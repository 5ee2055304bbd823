/- val.put, val.Put -/
import Derived.Test.YtaonlbmicjoclaaSize
import Derived.Test.YtaonlbmicjoclaaEight
import Derived.Test.YtaonlbmicjoclaaBld
namespace Go.Proofs.Ytaonlbmicjoclaa
open Go.ChangeShapes Go.WideShapes Go.ChangeAt Go.RowKit Go.Fl

/-- a kind's byte -/
def kby (k : Int) : UInt8 := UInt8.ofNat (k % 256).toNat

theorem kby_eq (k : Int) : k % 256 = (kby k).toNat := by
  unfold kby
  rw [UInt8.toNat_ofNat']
  omega

def eightL (n : Nat) : List UInt8 := (eightS n).data.toList

def twoS (m : Nat) : ByteArray := strOfNums [(m : Int) / 256 % 256, (m : Int) % 256]

theorem eight_size (n : Nat) : (eightS n).size = 8 := by unfold eightS; rw [nums_size]; rfl

theorem two_size (n : Nat) : (twoS n).size = 2 := by unfold twoS; rw [nums_size]; rfl

theorem eightL_len (n : Nat) : (eightL n).length = 8 := eight_size n

theorem twoL_len (n : Nat) : (twoS n).data.toList.length = 2 := two_size n

/-- an int64 as its word -/
def word (n : Int) : Nat := (n % 18446744073709551616).toNat

mutual
/-- a value's bytes -/
def bys : T → List UInt8
  | .mk k b n f s l => kby k :: (if k = 1 then [if b then 1 else 0] else if k = 2 ∨ k = 7 ∨ k = 8 then eightL (word n) else if k = 3 then eightL (canonN f)
      else if k = 4 then (twoS s.size).data.toList ++ s.data.toList else if k = 5 ∨ k = 6 then (twoS l.length).data.toList ++ bysL l else [])
def bysL : List T → List UInt8
  | [] => []
  | t :: r => bys t ++ bysL r
end

theorem bysL_snoc {l : List T} {i : Nat} (hi : i < l.length) : bysL (l.take (i + 1)) = bysL (l.take i) ++ bys l[i] := by
  induction l generalizing i with
  | nil => exact absurd hi (Nat.not_lt_zero _)
  | cons t r ih =>
    cases i with
    | zero => simp [bysL]
    | succ i =>
      have := ih (i := i) (by simpa using hi)
      simp only [List.take_succ_cons, bysL, List.getElem_cons_succ, List.append_assoc]
      rw [this]

theorem bysL_len {l : List T} {i : Nat} (hi : i ≤ l.length) : (bysL (l.take i)).length ≤ (bysL l).length := by
  induction l generalizing i with
  | nil => simp [bysL]
  | cons t r ih =>
    cases i with
    | zero => simp [bysL]
    | succ i =>
      have := ih (i := i) (by simpa using hi)
      simp only [List.take_succ_cons, bysL, List.length_append]
      omega

theorem bys_tot (t : T) : ((bys t).length : Int) ≤ tot t := by
  induction t using T.ind with | h k b n f s l ih => _
  have hl : ∀ r : List T, (∀ i (hi : i < r.length), ((bys r[i]).length : Int) ≤ tot r[i]) → ((bysL r).length : Int) ≤ totL r := by
    intro r
    induction r with
    | nil => intro _; simp [bysL, totL]
    | cons t r ihr =>
      intro h
      have h0 := h 0 (by simp)
      have h1 := ihr fun i hi => by have := h (i + 1) (by simpa using hi); simpa using this
      simp only [List.getElem_cons_zero] at h0
      rw [bysL, totL, List.length_append]; omega
  have h2 := hl l ih
  have h8 := eightL_len (word n)
  have h8' := eightL_len (canonN f)
  have ht := twoL_len s.size
  have ht' := twoL_len l.length
  have hs : s.data.toList.length = s.size := rfl
  rw [bys, tot, List.length_cons]
  unfold hdT
  by_cases k0 : k = 0
  · subst k0; simp
  by_cases k1 : k = 1
  · subst k1; simp
  by_cases k2 : k = 2 ∨ k = 7 ∨ k = 8
  · rw [if_neg k1, if_pos k2, if_neg k0, if_neg k1, if_neg (by omega), if_neg (by omega), if_neg (by omega)]; omega
  by_cases k3 : k = 3
  · subst k3; simp; omega
  by_cases k4 : k = 4
  · subst k4; simp; simp at ht hs; omega
  by_cases k5 : k = 5 ∨ k = 6
  · rw [if_neg k1, if_neg k2, if_neg k3, if_neg k4, if_pos k5, if_neg k0, if_neg k1, if_neg k4, if_pos k5, if_pos k5, List.length_append]; omega
  · rw [if_neg k1, if_neg k2, if_neg k3, if_neg k4, if_neg k5, if_neg k0, if_neg k1, if_neg k4, if_neg k5, if_neg k5]; simp

theorem ownsRow_below {w w' : World} {base : Nat} {e : TypeId} {size : Nat} {v : Value} {n : Nat} {xs : List Value} (h : w.ownsRow base e size v n xs) (hb : Below w.heap.size w w') : w'.ownsRow base e size v n xs := by
  obtain ⟨h1, h2⟩ := h
  refine ⟨h1, ?_⟩
  rcases h2 with h2 | ⟨g, cap, cur, hv, hg, hh, r⟩
  · exact .inl h2
  · exact .inr ⟨g, cap, cur, hv, hg, (hb.block _ (Blk.lt (w := w) hh)).trans hh, r⟩

theorem Holds.alloc {B b : Nat} {l : List UInt8} {w : World} (h : Holds B b l w) (o : Obj) : Holds B b l (w.alloc o) := by
  unfold Holds at h ⊢
  rcases h with ⟨hB, v, hb, hown, hne⟩ | ⟨hB, v, hb, hown, hne⟩
  · exact .inl ⟨hB, v, (Blk.lt (w := w) hb |> Below.heap_alloc w o b).trans hb, hown.alloc _, hne⟩
  · exact .inr ⟨hB, v, (Blk.lt (w := w) hb |> Below.heap_alloc w o b).trans hb, hown.alloc _, hne⟩

theorem Holds.lt {B b : Nat} {l : List UInt8} {w : World} (h : Holds B b l w) : b < w.heap.size := by
  unfold Holds at h
  rcases h with h | h
  · exact h.lt
  · exact h.lt

theorem Holds.below {B b : Nat} {l : List UInt8} {w w' : World} (h : Holds B b l w) (hb : Below w.heap.size w w') : Holds B b l w' := by
  unfold Holds at h ⊢
  rcases h with ⟨hB, v, hv, hown, hne⟩ | ⟨hB, v, hv, hown, hne⟩
  · exact .inl ⟨hB, v, (hb.block _ (Blk.lt (w := w) hv)).trans hv, ownsRow_below hown hb, hne⟩
  · exact .inr ⟨hB, v, (hb.block _ (Blk.lt (w := w) hv)).trans hv, ownsRow_below hown hb, hne⟩

/-- put at one tree -/
def PutAt (t : T) : Prop := ∀ (v : Value) (B b : Nat) (x : List UInt8) (w : World), Rd w B t v → B ≤ w.heap.size → Holds B b x w → x.length + (bys t).length ≤ 140737488355328 →
    Calls Try.prog 27 #[.pointer (some ⟨b, 0, none⟩), v] w fun e w' => e = .returned (.tuple #[]) ∧ Holds B b (x ++ bys t) w' ∧ Below B w w' ∧ Fr b w w'

set_option maxRecDepth 100000 in
theorem put_bool_t (n : Int) (f : Nat) (s : ByteArray) (l : List T) (v : Value) (B b : Nat) (x : List UInt8) (w : World) (h : Rd w B (.mk 1 true n f s l) v) (hB : B ≤ w.heap.size) (hH : Holds B b x w) (hlen : x.length + (bys (.mk 1 true n f s l)).length ≤ 140737488355328) :
    Calls Try.prog 27 #[.pointer (some ⟨b, 0, none⟩), v] w fun e w' => e = .returned (.tuple #[]) ∧ Holds B b (x ++ bys (.mk 1 true n f s l)) w' ∧ Below B w w' ∧ Fr b w w' := by
  have HE := Lib.hid (show bys (.mk 1 true n f s l) = kby 1 :: [1] by rw [bys]; simp)
  rw [HE.out] at hlen ⊢
  simp only [List.length_cons, List.length_nil] at hlen
  have Hh := Lib.hid h
  obtain ⟨A, cap, rfl, hk, hn, hf, hs, hc, hm, hA, hl⟩ := h.open
  have Hn := Lib.hid hn; have Hf := Lib.hid hf; have Hs := Lib.hid hs
  have hm2 := hm.2
  clear hk hn hf hs hc hA hm h
  have hbl := hH.lt
  have HH := Lib.hid (hH.alloc (.cells #[.int .i64 1, .bool true, .int .i64 n, .float .f64 f, .string s, .slice A l.length cap] 26)); clear hH
  have HB := Lib.hid ((Below.refl B w).alloc hB (.cells #[.int .i64 1, .bool true, .int .i64 n, .float .f64 f, .string s, .slice A l.length cap] 26))
  have HF := Lib.hid (Fr.alloc b w (.cells #[.int .i64 1, .bool true, .int .i64 n, .float .f64 f, .string s, .slice A l.length cap] 26))
  have hB1 : B ≤ (w.alloc (.cells #[.int .i64 1, .bool true, .int .i64 n, .float .f64 f, .string s, .slice A l.length cap] 26)).heap.size := by simp; omega
  have HX := Lib.hid (Blk.new w 26 #[.int .i64 1, .bool true, .int .i64 n, .float .f64 f, .string s, .slice A l.length cap])
  go_enter Try.func27, Try.ntmps27
  go_wp2_with fail
  refine (wb_any _ (kby 1) HH.out (kby_eq _) (by omega) hB1).mono ?_
  rintro e w1 ⟨rfl, hH1, hb1, hF1⟩
  have X1 := hF1 _ _ _ (by decide) (by simp; omega) HX.out
  have HH1 := Lib.hid hH1; have HB1 := Lib.hid (HB.out.trans hb1); have HF1 := Lib.hid (HF.out.trans hF1)
  have hs1 := hb1.size
  simp only [World.size_alloc] at hs1
  clear hH1 hb1 hF1
  have X10 : w1.cell? ⟨w.heap.size, 0, none⟩ = some (.int .i64 1) := (X1.cell 0).trans rfl
  have X11 : w1.cell? ⟨w.heap.size, 1, none⟩ = some (.bool true) := (X1.cell 1).trans rfl
  have X12 : w1.cell? ⟨w.heap.size, 2, none⟩ = some (.int .i64 n) := (X1.cell 2).trans rfl
  have X13 : w1.cell? ⟨w.heap.size, 3, none⟩ = some (.float .f64 f) := (X1.cell 3).trans rfl
  have X14 : w1.cell? ⟨w.heap.size, 4, none⟩ = some (.string s) := (X1.cell 4).trans rfl
  have X15 : w1.cell? ⟨w.heap.size, 5, none⟩ = some (.slice A l.length cap) := (X1.cell 5).trans rfl
  have HX1 := Lib.hid X1; clear X1
  go_wp2_with fail
  refine (wb_any _ (1 : UInt8) HH1.out (by decide) (by simp; omega) (by omega)).mono ?_
  rintro e w2 ⟨rfl, hH2, hb2, hF2⟩
  have HH2 := Lib.hid hH2; have HB2 := Lib.hid (HB1.out.trans hb2); have HF2 := Lib.hid (HF1.out.trans hF2)
  clear hH2 hb2 hF2
  go_wp2_with fail
  go_end0
  exact ⟨rfl, by have := HH2.out; simpa using this, HB2.out, HF2.out⟩

set_option maxRecDepth 100000 in
theorem put_bool_f (n : Int) (f : Nat) (s : ByteArray) (l : List T) (v : Value) (B b : Nat) (x : List UInt8) (w : World) (h : Rd w B (.mk 1 false n f s l) v) (hB : B ≤ w.heap.size) (hH : Holds B b x w) (hlen : x.length + (bys (.mk 1 false n f s l)).length ≤ 140737488355328) :
    Calls Try.prog 27 #[.pointer (some ⟨b, 0, none⟩), v] w fun e w' => e = .returned (.tuple #[]) ∧ Holds B b (x ++ bys (.mk 1 false n f s l)) w' ∧ Below B w w' ∧ Fr b w w' := by
  have HE := Lib.hid (show bys (.mk 1 false n f s l) = kby 1 :: [0] by rw [bys]; simp)
  rw [HE.out] at hlen ⊢
  simp only [List.length_cons, List.length_nil] at hlen
  have Hh := Lib.hid h
  obtain ⟨A, cap, rfl, hk, hn, hf, hs, hc, hm, hA, hl⟩ := h.open
  have Hn := Lib.hid hn; have Hf := Lib.hid hf; have Hs := Lib.hid hs
  have hm2 := hm.2
  clear hk hn hf hs hc hA hm h
  have hbl := hH.lt
  have HH := Lib.hid (hH.alloc (.cells #[.int .i64 1, .bool false, .int .i64 n, .float .f64 f, .string s, .slice A l.length cap] 26)); clear hH
  have HB := Lib.hid ((Below.refl B w).alloc hB (.cells #[.int .i64 1, .bool false, .int .i64 n, .float .f64 f, .string s, .slice A l.length cap] 26))
  have HF := Lib.hid (Fr.alloc b w (.cells #[.int .i64 1, .bool false, .int .i64 n, .float .f64 f, .string s, .slice A l.length cap] 26))
  have hB1 : B ≤ (w.alloc (.cells #[.int .i64 1, .bool false, .int .i64 n, .float .f64 f, .string s, .slice A l.length cap] 26)).heap.size := by simp; omega
  have HX := Lib.hid (Blk.new w 26 #[.int .i64 1, .bool false, .int .i64 n, .float .f64 f, .string s, .slice A l.length cap])
  go_enter Try.func27, Try.ntmps27
  go_wp2_with fail
  refine (wb_any _ (kby 1) HH.out (kby_eq _) (by omega) hB1).mono ?_
  rintro e w1 ⟨rfl, hH1, hb1, hF1⟩
  have X1 := hF1 _ _ _ (by decide) (by simp; omega) HX.out
  have HH1 := Lib.hid hH1; have HB1 := Lib.hid (HB.out.trans hb1); have HF1 := Lib.hid (HF.out.trans hF1)
  have hs1 := hb1.size
  simp only [World.size_alloc] at hs1
  clear hH1 hb1 hF1
  have X10 : w1.cell? ⟨w.heap.size, 0, none⟩ = some (.int .i64 1) := (X1.cell 0).trans rfl
  have X11 : w1.cell? ⟨w.heap.size, 1, none⟩ = some (.bool false) := (X1.cell 1).trans rfl
  have X12 : w1.cell? ⟨w.heap.size, 2, none⟩ = some (.int .i64 n) := (X1.cell 2).trans rfl
  have X13 : w1.cell? ⟨w.heap.size, 3, none⟩ = some (.float .f64 f) := (X1.cell 3).trans rfl
  have X14 : w1.cell? ⟨w.heap.size, 4, none⟩ = some (.string s) := (X1.cell 4).trans rfl
  have X15 : w1.cell? ⟨w.heap.size, 5, none⟩ = some (.slice A l.length cap) := (X1.cell 5).trans rfl
  have HX1 := Lib.hid X1; clear X1
  go_wp2_with fail
  refine (wb_any _ (0 : UInt8) HH1.out (by decide) (by simp; omega) (by omega)).mono ?_
  rintro e w2 ⟨rfl, hH2, hb2, hF2⟩
  have HH2 := Lib.hid hH2; have HB2 := Lib.hid (HB1.out.trans hb2); have HF2 := Lib.hid (HF1.out.trans hF2)
  clear hH2 hb2 hF2
  go_wp2_with fail
  go_end0
  exact ⟨rfl, by have := HH2.out; simpa using this, HB2.out, HF2.out⟩

set_option maxRecDepth 100000 in
theorem put_int (n : Int) (b0 : Bool) (f : Nat) (s : ByteArray) (l : List T) (v : Value) (B b : Nat) (x : List UInt8) (w : World) (h : Rd w B (.mk 2 b0 n f s l) v) (hB : B ≤ w.heap.size) (hH : Holds B b x w) (hlen : x.length + (bys (.mk 2 b0 n f s l)).length ≤ 140737488355328) :
    Calls Try.prog 27 #[.pointer (some ⟨b, 0, none⟩), v] w fun e w' => e = .returned (.tuple #[]) ∧ Holds B b (x ++ bys (.mk 2 b0 n f s l)) w' ∧ Below B w w' ∧ Fr b w w' := by
  have HE := Lib.hid (show bys (.mk 2 b0 n f s l) = kby 2 :: (eightL (word n)) by rw [bys]; simp)
  rw [HE.out] at hlen ⊢
  have h8 := eightL_len (word n)
  simp only [List.length_cons, h8] at hlen
  have hU : IntKind.u64.wrap n = ((word n : Nat) : Int) := by unfold word; rw [IntKind.wrap_u64]; omega
  have hU2 : n % 18446744073709551616 = ((word n : Nat) : Int) := by unfold word; omega
  have Hh := Lib.hid h
  obtain ⟨A, cap, rfl, hk, hn, hf, hs, hc, hm, hA, hl⟩ := h.open
  have Hn := Lib.hid hn; have Hf := Lib.hid hf; have Hs := Lib.hid hs
  have hm2 := hm.2
  clear hk hn hf hs hc hA hm h
  have hbl := hH.lt
  have HH := Lib.hid (hH.alloc (.cells #[.int .i64 2, .bool b0, .int .i64 n, .float .f64 f, .string s, .slice A l.length cap] 26)); clear hH
  have HB := Lib.hid ((Below.refl B w).alloc hB (.cells #[.int .i64 2, .bool b0, .int .i64 n, .float .f64 f, .string s, .slice A l.length cap] 26))
  have HF := Lib.hid (Fr.alloc b w (.cells #[.int .i64 2, .bool b0, .int .i64 n, .float .f64 f, .string s, .slice A l.length cap] 26))
  have hB1 : B ≤ (w.alloc (.cells #[.int .i64 2, .bool b0, .int .i64 n, .float .f64 f, .string s, .slice A l.length cap] 26)).heap.size := by simp; omega
  have HX := Lib.hid (Blk.new w 26 #[.int .i64 2, .bool b0, .int .i64 n, .float .f64 f, .string s, .slice A l.length cap])
  go_enter Try.func27, Try.ntmps27
  go_wp2_with fail
  refine (wb_any _ (kby 2) HH.out (kby_eq _) (by omega) hB1).mono ?_
  rintro e w1 ⟨rfl, hH1, hb1, hF1⟩
  have X1 := hF1 _ _ _ (by decide) (by simp; omega) HX.out
  have HH1 := Lib.hid hH1; have HB1 := Lib.hid (HB.out.trans hb1); have HF1 := Lib.hid (HF.out.trans hF1)
  have hs1 := hb1.size
  simp only [World.size_alloc] at hs1
  clear hH1 hb1 hF1
  have X10 : w1.cell? ⟨w.heap.size, 0, none⟩ = some (.int .i64 2) := (X1.cell 0).trans rfl
  have X11 : w1.cell? ⟨w.heap.size, 1, none⟩ = some (.bool b0) := (X1.cell 1).trans rfl
  have X12 : w1.cell? ⟨w.heap.size, 2, none⟩ = some (.int .i64 n) := (X1.cell 2).trans rfl
  have X13 : w1.cell? ⟨w.heap.size, 3, none⟩ = some (.float .f64 f) := (X1.cell 3).trans rfl
  have X14 : w1.cell? ⟨w.heap.size, 4, none⟩ = some (.string s) := (X1.cell 4).trans rfl
  have X15 : w1.cell? ⟨w.heap.size, 5, none⟩ = some (.slice A l.length cap) := (X1.cell 5).trans rfl
  have HX1 := Lib.hid X1; clear X1
  go_wp2_with fail
  refine (eight_any (word n) _).mono ?_
  rintro e w2 ⟨rfl, hb2⟩
  have hs2 := hb2.size
  go_wp2_with fail
  refine (ws_any (B := B) (l := x ++ [kby 2]) (eightS (word n)) (HH1.out.below hb2) (by rw [eight_size]; simp; omega) (by omega)).mono ?_
  rintro e w3 ⟨rfl, hH3, hb3, hF3⟩
  have HH3 := Lib.hid hH3; have HB3 := Lib.hid ((HB1.out.trans (hb2.mono (by omega))).trans hb3); have HF3 := Lib.hid ((HF1.out.trans (Fr.of_below hb2)).trans hF3)
  clear hH3 hb3 hF3
  go_wp2_with fail
  go_end0
  exact ⟨rfl, by have := HH3.out; simpa [eightL] using this, HB3.out, HF3.out⟩

set_option maxRecDepth 100000 in
theorem put_vertex (n : Int) (b0 : Bool) (f : Nat) (s : ByteArray) (l : List T) (v : Value) (B b : Nat) (x : List UInt8) (w : World) (h : Rd w B (.mk 7 b0 n f s l) v) (hB : B ≤ w.heap.size) (hH : Holds B b x w) (hlen : x.length + (bys (.mk 7 b0 n f s l)).length ≤ 140737488355328) :
    Calls Try.prog 27 #[.pointer (some ⟨b, 0, none⟩), v] w fun e w' => e = .returned (.tuple #[]) ∧ Holds B b (x ++ bys (.mk 7 b0 n f s l)) w' ∧ Below B w w' ∧ Fr b w w' := by
  have HE := Lib.hid (show bys (.mk 7 b0 n f s l) = kby 7 :: (eightL (word n)) by rw [bys]; simp)
  rw [HE.out] at hlen ⊢
  have h8 := eightL_len (word n)
  simp only [List.length_cons, h8] at hlen
  have hU : IntKind.u64.wrap n = ((word n : Nat) : Int) := by unfold word; rw [IntKind.wrap_u64]; omega
  have hU2 : n % 18446744073709551616 = ((word n : Nat) : Int) := by unfold word; omega
  have Hh := Lib.hid h
  obtain ⟨A, cap, rfl, hk, hn, hf, hs, hc, hm, hA, hl⟩ := h.open
  have Hn := Lib.hid hn; have Hf := Lib.hid hf; have Hs := Lib.hid hs
  have hm2 := hm.2
  clear hk hn hf hs hc hA hm h
  have hbl := hH.lt
  have HH := Lib.hid (hH.alloc (.cells #[.int .i64 7, .bool b0, .int .i64 n, .float .f64 f, .string s, .slice A l.length cap] 26)); clear hH
  have HB := Lib.hid ((Below.refl B w).alloc hB (.cells #[.int .i64 7, .bool b0, .int .i64 n, .float .f64 f, .string s, .slice A l.length cap] 26))
  have HF := Lib.hid (Fr.alloc b w (.cells #[.int .i64 7, .bool b0, .int .i64 n, .float .f64 f, .string s, .slice A l.length cap] 26))
  have hB1 : B ≤ (w.alloc (.cells #[.int .i64 7, .bool b0, .int .i64 n, .float .f64 f, .string s, .slice A l.length cap] 26)).heap.size := by simp; omega
  have HX := Lib.hid (Blk.new w 26 #[.int .i64 7, .bool b0, .int .i64 n, .float .f64 f, .string s, .slice A l.length cap])
  go_enter Try.func27, Try.ntmps27
  go_wp2_with fail
  refine (wb_any _ (kby 7) HH.out (kby_eq _) (by omega) hB1).mono ?_
  rintro e w1 ⟨rfl, hH1, hb1, hF1⟩
  have X1 := hF1 _ _ _ (by decide) (by simp; omega) HX.out
  have HH1 := Lib.hid hH1; have HB1 := Lib.hid (HB.out.trans hb1); have HF1 := Lib.hid (HF.out.trans hF1)
  have hs1 := hb1.size
  simp only [World.size_alloc] at hs1
  clear hH1 hb1 hF1
  have X10 : w1.cell? ⟨w.heap.size, 0, none⟩ = some (.int .i64 7) := (X1.cell 0).trans rfl
  have X11 : w1.cell? ⟨w.heap.size, 1, none⟩ = some (.bool b0) := (X1.cell 1).trans rfl
  have X12 : w1.cell? ⟨w.heap.size, 2, none⟩ = some (.int .i64 n) := (X1.cell 2).trans rfl
  have X13 : w1.cell? ⟨w.heap.size, 3, none⟩ = some (.float .f64 f) := (X1.cell 3).trans rfl
  have X14 : w1.cell? ⟨w.heap.size, 4, none⟩ = some (.string s) := (X1.cell 4).trans rfl
  have X15 : w1.cell? ⟨w.heap.size, 5, none⟩ = some (.slice A l.length cap) := (X1.cell 5).trans rfl
  have HX1 := Lib.hid X1; clear X1
  go_wp2_with fail
  refine (eight_any (word n) _).mono ?_
  rintro e w2 ⟨rfl, hb2⟩
  have hs2 := hb2.size
  go_wp2_with fail
  refine (ws_any (B := B) (l := x ++ [kby 7]) (eightS (word n)) (HH1.out.below hb2) (by rw [eight_size]; simp; omega) (by omega)).mono ?_
  rintro e w3 ⟨rfl, hH3, hb3, hF3⟩
  have HH3 := Lib.hid hH3; have HB3 := Lib.hid ((HB1.out.trans (hb2.mono (by omega))).trans hb3); have HF3 := Lib.hid ((HF1.out.trans (Fr.of_below hb2)).trans hF3)
  clear hH3 hb3 hF3
  go_wp2_with fail
  go_end0
  exact ⟨rfl, by have := HH3.out; simpa [eightL] using this, HB3.out, HF3.out⟩

set_option maxRecDepth 100000 in
theorem put_edge (n : Int) (b0 : Bool) (f : Nat) (s : ByteArray) (l : List T) (v : Value) (B b : Nat) (x : List UInt8) (w : World) (h : Rd w B (.mk 8 b0 n f s l) v) (hB : B ≤ w.heap.size) (hH : Holds B b x w) (hlen : x.length + (bys (.mk 8 b0 n f s l)).length ≤ 140737488355328) :
    Calls Try.prog 27 #[.pointer (some ⟨b, 0, none⟩), v] w fun e w' => e = .returned (.tuple #[]) ∧ Holds B b (x ++ bys (.mk 8 b0 n f s l)) w' ∧ Below B w w' ∧ Fr b w w' := by
  have HE := Lib.hid (show bys (.mk 8 b0 n f s l) = kby 8 :: (eightL (word n)) by rw [bys]; simp)
  rw [HE.out] at hlen ⊢
  have h8 := eightL_len (word n)
  simp only [List.length_cons, h8] at hlen
  have hU : IntKind.u64.wrap n = ((word n : Nat) : Int) := by unfold word; rw [IntKind.wrap_u64]; omega
  have hU2 : n % 18446744073709551616 = ((word n : Nat) : Int) := by unfold word; omega
  have Hh := Lib.hid h
  obtain ⟨A, cap, rfl, hk, hn, hf, hs, hc, hm, hA, hl⟩ := h.open
  have Hn := Lib.hid hn; have Hf := Lib.hid hf; have Hs := Lib.hid hs
  have hm2 := hm.2
  clear hk hn hf hs hc hA hm h
  have hbl := hH.lt
  have HH := Lib.hid (hH.alloc (.cells #[.int .i64 8, .bool b0, .int .i64 n, .float .f64 f, .string s, .slice A l.length cap] 26)); clear hH
  have HB := Lib.hid ((Below.refl B w).alloc hB (.cells #[.int .i64 8, .bool b0, .int .i64 n, .float .f64 f, .string s, .slice A l.length cap] 26))
  have HF := Lib.hid (Fr.alloc b w (.cells #[.int .i64 8, .bool b0, .int .i64 n, .float .f64 f, .string s, .slice A l.length cap] 26))
  have hB1 : B ≤ (w.alloc (.cells #[.int .i64 8, .bool b0, .int .i64 n, .float .f64 f, .string s, .slice A l.length cap] 26)).heap.size := by simp; omega
  have HX := Lib.hid (Blk.new w 26 #[.int .i64 8, .bool b0, .int .i64 n, .float .f64 f, .string s, .slice A l.length cap])
  go_enter Try.func27, Try.ntmps27
  go_wp2_with fail
  refine (wb_any _ (kby 8) HH.out (kby_eq _) (by omega) hB1).mono ?_
  rintro e w1 ⟨rfl, hH1, hb1, hF1⟩
  have X1 := hF1 _ _ _ (by decide) (by simp; omega) HX.out
  have HH1 := Lib.hid hH1; have HB1 := Lib.hid (HB.out.trans hb1); have HF1 := Lib.hid (HF.out.trans hF1)
  have hs1 := hb1.size
  simp only [World.size_alloc] at hs1
  clear hH1 hb1 hF1
  have X10 : w1.cell? ⟨w.heap.size, 0, none⟩ = some (.int .i64 8) := (X1.cell 0).trans rfl
  have X11 : w1.cell? ⟨w.heap.size, 1, none⟩ = some (.bool b0) := (X1.cell 1).trans rfl
  have X12 : w1.cell? ⟨w.heap.size, 2, none⟩ = some (.int .i64 n) := (X1.cell 2).trans rfl
  have X13 : w1.cell? ⟨w.heap.size, 3, none⟩ = some (.float .f64 f) := (X1.cell 3).trans rfl
  have X14 : w1.cell? ⟨w.heap.size, 4, none⟩ = some (.string s) := (X1.cell 4).trans rfl
  have X15 : w1.cell? ⟨w.heap.size, 5, none⟩ = some (.slice A l.length cap) := (X1.cell 5).trans rfl
  have HX1 := Lib.hid X1; clear X1
  go_wp2_with fail
  refine (eight_any (word n) _).mono ?_
  rintro e w2 ⟨rfl, hb2⟩
  have hs2 := hb2.size
  go_wp2_with fail
  refine (ws_any (B := B) (l := x ++ [kby 8]) (eightS (word n)) (HH1.out.below hb2) (by rw [eight_size]; simp; omega) (by omega)).mono ?_
  rintro e w3 ⟨rfl, hH3, hb3, hF3⟩
  have HH3 := Lib.hid hH3; have HB3 := Lib.hid ((HB1.out.trans (hb2.mono (by omega))).trans hb3); have HF3 := Lib.hid ((HF1.out.trans (Fr.of_below hb2)).trans hF3)
  clear hH3 hb3 hF3
  go_wp2_with fail
  go_end0
  exact ⟨rfl, by have := HH3.out; simpa [eightL] using this, HB3.out, HF3.out⟩

set_option maxRecDepth 100000 in
theorem put_float (n : Int) (b0 : Bool) (f : Nat) (s : ByteArray) (l : List T) (v : Value) (B b : Nat) (x : List UInt8) (w : World) (h : Rd w B (.mk 3 b0 n f s l) v) (hB : B ≤ w.heap.size) (hH : Holds B b x w) (hlen : x.length + (bys (.mk 3 b0 n f s l)).length ≤ 140737488355328) :
    Calls Try.prog 27 #[.pointer (some ⟨b, 0, none⟩), v] w fun e w' => e = .returned (.tuple #[]) ∧ Holds B b (x ++ bys (.mk 3 b0 n f s l)) w' ∧ Below B w w' ∧ Fr b w w' := by
  have HE := Lib.hid (show bys (.mk 3 b0 n f s l) = kby 3 :: (eightL (canonN f)) by rw [bys]; simp)
  rw [HE.out] at hlen ⊢
  have h8 := eightL_len (canonN f)
  simp only [List.length_cons, h8] at hlen
  have hbits := call_bits
  have Hh := Lib.hid h
  obtain ⟨A, cap, rfl, hk, hn, hf, hs, hc, hm, hA, hl⟩ := h.open
  have Hn := Lib.hid hn; have Hf := Lib.hid hf; have Hs := Lib.hid hs
  have hm2 := hm.2
  have hss := hs
  clear hk hn hf hs hc hA hm h
  have hbl := hH.lt
  have HH := Lib.hid (hH.alloc (.cells #[.int .i64 3, .bool b0, .int .i64 n, .float .f64 f, .string s, .slice A l.length cap] 26)); clear hH
  have HB := Lib.hid ((Below.refl B w).alloc hB (.cells #[.int .i64 3, .bool b0, .int .i64 n, .float .f64 f, .string s, .slice A l.length cap] 26))
  have HF := Lib.hid (Fr.alloc b w (.cells #[.int .i64 3, .bool b0, .int .i64 n, .float .f64 f, .string s, .slice A l.length cap] 26))
  have hB1 : B ≤ (w.alloc (.cells #[.int .i64 3, .bool b0, .int .i64 n, .float .f64 f, .string s, .slice A l.length cap] 26)).heap.size := by simp; omega
  have HX := Lib.hid (Blk.new w 26 #[.int .i64 3, .bool b0, .int .i64 n, .float .f64 f, .string s, .slice A l.length cap])
  go_enter Try.func27, Try.ntmps27
  go_wp2_with fail
  refine (wb_any _ (kby 3) HH.out (kby_eq _) (by omega) hB1).mono ?_
  rintro e w1 ⟨rfl, hH1, hb1, hF1⟩
  have X1 := hF1 _ _ _ (by decide) (by simp; omega) HX.out
  have HH1 := Lib.hid hH1; have HB1 := Lib.hid (HB.out.trans hb1); have HF1 := Lib.hid (HF.out.trans hF1)
  have hs1 := hb1.size
  simp only [World.size_alloc] at hs1
  clear hH1 hb1 hF1
  have X10 : w1.cell? ⟨w.heap.size, 0, none⟩ = some (.int .i64 3) := (X1.cell 0).trans rfl
  have X11 : w1.cell? ⟨w.heap.size, 1, none⟩ = some (.bool b0) := (X1.cell 1).trans rfl
  have X12 : w1.cell? ⟨w.heap.size, 2, none⟩ = some (.int .i64 n) := (X1.cell 2).trans rfl
  have X13 : w1.cell? ⟨w.heap.size, 3, none⟩ = some (.float .f64 f) := (X1.cell 3).trans rfl
  have X14 : w1.cell? ⟨w.heap.size, 4, none⟩ = some (.string s) := (X1.cell 4).trans rfl
  have X15 : w1.cell? ⟨w.heap.size, 5, none⟩ = some (.slice A l.length cap) := (X1.cell 5).trans rfl
  have HX1 := Lib.hid X1; clear X1
  go_wp2_with fail
  refine (canon_any f _).mono ?_
  rintro e w2 ⟨rfl, rfl⟩
  go_wp2_with fail
  refine (eight_any (canonN f) _).mono ?_
  rintro e w2 ⟨rfl, hb2⟩
  have hs2 := hb2.size
  go_wp2_with fail
  refine (ws_any (B := B) (l := x ++ [kby 3]) (eightS (canonN f)) (HH1.out.below hb2) (by rw [eight_size]; simp; omega) (by omega)).mono ?_
  rintro e w3 ⟨rfl, hH3, hb3, hF3⟩
  have HH3 := Lib.hid hH3; have HB3 := Lib.hid ((HB1.out.trans (hb2.mono (by omega))).trans hb3); have HF3 := Lib.hid ((HF1.out.trans (Fr.of_below hb2)).trans hF3)
  clear hH3 hb3 hF3
  go_wp2_with fail
  go_end0
  exact ⟨rfl, by have := HH3.out; simpa [eightL] using this, HB3.out, HF3.out⟩

set_option maxRecDepth 100000 in
theorem put_text (n : Int) (b0 : Bool) (f : Nat) (s : ByteArray) (l : List T) (v : Value) (B b : Nat) (x : List UInt8) (w : World) (h : Rd w B (.mk 4 b0 n f s l) v) (hB : B ≤ w.heap.size) (hH : Holds B b x w) (hlen : x.length + (bys (.mk 4 b0 n f s l)).length ≤ 140737488355328) :
    Calls Try.prog 27 #[.pointer (some ⟨b, 0, none⟩), v] w fun e w' => e = .returned (.tuple #[]) ∧ Holds B b (x ++ bys (.mk 4 b0 n f s l)) w' ∧ Below B w w' ∧ Fr b w w' := by
  have HE := Lib.hid (show bys (.mk 4 b0 n f s l) = kby 4 :: ((twoS s.size).data.toList ++ s.data.toList) by rw [bys]; simp)
  rw [HE.out] at hlen ⊢
  have h8 := twoL_len s.size
  have hsd : s.data.toList.length = s.size := rfl
  simp only [List.length_cons, List.length_append, h8, hsd] at hlen
  clear hsd
  have Hh := Lib.hid h
  obtain ⟨A, cap, rfl, hk, hn, hf, hs, hc, hm, hA, hl⟩ := h.open
  have Hn := Lib.hid hn; have Hf := Lib.hid hf; have Hs := Lib.hid hs
  have hm2 := hm.2
  have hss := hs
  clear hk hn hf hs hc hA hm h
  have hbl := hH.lt
  have HH := Lib.hid (hH.alloc (.cells #[.int .i64 4, .bool b0, .int .i64 n, .float .f64 f, .string s, .slice A l.length cap] 26)); clear hH
  have HB := Lib.hid ((Below.refl B w).alloc hB (.cells #[.int .i64 4, .bool b0, .int .i64 n, .float .f64 f, .string s, .slice A l.length cap] 26))
  have HF := Lib.hid (Fr.alloc b w (.cells #[.int .i64 4, .bool b0, .int .i64 n, .float .f64 f, .string s, .slice A l.length cap] 26))
  have hB1 : B ≤ (w.alloc (.cells #[.int .i64 4, .bool b0, .int .i64 n, .float .f64 f, .string s, .slice A l.length cap] 26)).heap.size := by simp; omega
  have HX := Lib.hid (Blk.new w 26 #[.int .i64 4, .bool b0, .int .i64 n, .float .f64 f, .string s, .slice A l.length cap])
  go_enter Try.func27, Try.ntmps27
  go_wp2_with fail
  refine (wb_any _ (kby 4) HH.out (kby_eq _) (by omega) hB1).mono ?_
  rintro e w1 ⟨rfl, hH1, hb1, hF1⟩
  have X1 := hF1 _ _ _ (by decide) (by simp; omega) HX.out
  have HH1 := Lib.hid hH1; have HB1 := Lib.hid (HB.out.trans hb1); have HF1 := Lib.hid (HF.out.trans hF1)
  have hs1 := hb1.size
  simp only [World.size_alloc] at hs1
  clear hH1 hb1 hF1
  have X10 : w1.cell? ⟨w.heap.size, 0, none⟩ = some (.int .i64 4) := (X1.cell 0).trans rfl
  have X11 : w1.cell? ⟨w.heap.size, 1, none⟩ = some (.bool b0) := (X1.cell 1).trans rfl
  have X12 : w1.cell? ⟨w.heap.size, 2, none⟩ = some (.int .i64 n) := (X1.cell 2).trans rfl
  have X13 : w1.cell? ⟨w.heap.size, 3, none⟩ = some (.float .f64 f) := (X1.cell 3).trans rfl
  have X14 : w1.cell? ⟨w.heap.size, 4, none⟩ = some (.string s) := (X1.cell 4).trans rfl
  have X15 : w1.cell? ⟨w.heap.size, 5, none⟩ = some (.slice A l.length cap) := (X1.cell 5).trans rfl
  have HX1 := Lib.hid X1; clear X1
  go_wp2_with fail
  refine (two_any (s.size : Int) _).mono ?_
  rintro e w2 ⟨rfl, hb2⟩
  have hs2 := hb2.size
  have X2 := Fr.of_below (b := b) hb2 _ _ _ (by decide) (by omega) HX1.out
  go_wp2_with fail
  refine (ws_any (B := B) (l := x ++ [kby 4]) (twoS s.size) (HH1.out.below hb2) (by rw [two_size]; simp; omega) (by omega)).mono ?_
  rintro e w3 ⟨rfl, hH3, hb3, hF3⟩
  have X3 := hF3 _ _ _ (by decide) (by omega) X2
  have X34 : w3.cell? ⟨w.heap.size, 4, none⟩ = some (.string s) := (X3.cell 4).trans rfl
  clear X2 X3
  have hs3 := hb3.size
  have HH3 := Lib.hid hH3; have HB3 := Lib.hid ((HB1.out.trans (hb2.mono (by omega))).trans hb3); have HF3 := Lib.hid ((HF1.out.trans (Fr.of_below hb2)).trans hF3)
  clear hH3 hb3 hF3
  go_wp2_with fail
  refine (ws_any (B := B) s HH3.out (by simp only [List.length_append, List.length_singleton, twoL_len]; omega) (by omega)).mono ?_
  rintro e w4 ⟨rfl, hH4, hb4, hF4⟩
  have HH4 := Lib.hid hH4; have HB4 := Lib.hid (HB3.out.trans hb4); have HF4 := Lib.hid (HF3.out.trans hF4)
  clear hH4 hb4 hF4
  go_wp2_with fail
  go_end0
  exact ⟨rfl, by have := HH4.out; simpa using this, HB4.out, HF4.out⟩

set_option maxRecDepth 100000 in
theorem put_list (n : Int) (b0 : Bool) (f : Nat) (s : ByteArray) (l : List T) (v : Value) (B b : Nat) (x : List UInt8) (w : World) (ih : ∀ i (hi : i < l.length), PutAt l[i]) (h : Rd w B (.mk 5 b0 n f s l) v) (hB : B ≤ w.heap.size) (hH : Holds B b x w) (hlen : x.length + (bys (.mk 5 b0 n f s l)).length ≤ 140737488355328) :
    Calls Try.prog 27 #[.pointer (some ⟨b, 0, none⟩), v] w fun e w' => e = .returned (.tuple #[]) ∧ Holds B b (x ++ bys (.mk 5 b0 n f s l)) w' ∧ Below B w w' ∧ Fr b w w' := by
  have HE := Lib.hid (show bys (.mk 5 b0 n f s l) = kby 5 :: ((twoS l.length).data.toList ++ bysL l) by rw [bys]; simp)
  have IH := Lib.hid ih; clear ih
  rw [HE.out] at hlen ⊢
  have h8 := twoL_len l.length
  simp only [List.length_cons, List.length_append, h8] at hlen
  have Hh := Lib.hid h
  obtain ⟨A, cap, rfl, hk, hn, hf, hs, hc, hm, hA, hl⟩ := h.open
  have Hn := Lib.hid hn; have Hf := Lib.hid hf; have Hs := Lib.hid hs
  have hm2 := hm.2
  have hss := hs
  clear hk hn hf hs hc hA hm h
  have hbl := hH.lt
  have HH := Lib.hid (hH.alloc (.cells #[.int .i64 5, .bool b0, .int .i64 n, .float .f64 f, .string s, .slice A l.length cap] 26)); clear hH
  have HB := Lib.hid ((Below.refl B w).alloc hB (.cells #[.int .i64 5, .bool b0, .int .i64 n, .float .f64 f, .string s, .slice A l.length cap] 26))
  have HF := Lib.hid (Fr.alloc b w (.cells #[.int .i64 5, .bool b0, .int .i64 n, .float .f64 f, .string s, .slice A l.length cap] 26))
  have hB1 : B ≤ (w.alloc (.cells #[.int .i64 5, .bool b0, .int .i64 n, .float .f64 f, .string s, .slice A l.length cap] 26)).heap.size := by simp; omega
  have HX := Lib.hid (Blk.new w 26 #[.int .i64 5, .bool b0, .int .i64 n, .float .f64 f, .string s, .slice A l.length cap])
  go_enter Try.func27, Try.ntmps27
  go_wp2_with fail
  refine (wb_any _ (kby 5) HH.out (kby_eq _) (by omega) hB1).mono ?_
  rintro e w1 ⟨rfl, hH1, hb1, hF1⟩
  have X1 := hF1 _ _ _ (by decide) (by simp; omega) HX.out
  have HH1 := Lib.hid hH1; have HB1 := Lib.hid (HB.out.trans hb1); have HF1 := Lib.hid (HF.out.trans hF1)
  have hs1 := hb1.size
  simp only [World.size_alloc] at hs1
  clear hH1 hb1 hF1
  have X10 : w1.cell? ⟨w.heap.size, 0, none⟩ = some (.int .i64 5) := (X1.cell 0).trans rfl
  have X11 : w1.cell? ⟨w.heap.size, 1, none⟩ = some (.bool b0) := (X1.cell 1).trans rfl
  have X12 : w1.cell? ⟨w.heap.size, 2, none⟩ = some (.int .i64 n) := (X1.cell 2).trans rfl
  have X13 : w1.cell? ⟨w.heap.size, 3, none⟩ = some (.float .f64 f) := (X1.cell 3).trans rfl
  have X14 : w1.cell? ⟨w.heap.size, 4, none⟩ = some (.string s) := (X1.cell 4).trans rfl
  have X15 : w1.cell? ⟨w.heap.size, 5, none⟩ = some (.slice A l.length cap) := (X1.cell 5).trans rfl
  have HX1 := Lib.hid X1; clear X1
  go_wp2_with fail
  refine (two_any (l.length : Int) _).mono ?_
  rintro e w2 ⟨rfl, hb2⟩
  have hs2 := hb2.size
  have X2 := Fr.of_below (b := b) hb2 _ _ _ (by decide) (by omega) HX1.out
  go_wp2_with fail
  refine (ws_any (B := B) (l := x ++ [kby 5]) (twoS l.length) (HH1.out.below hb2) (by rw [two_size]; simp; omega) (by omega)).mono ?_
  rintro e w3 ⟨rfl, hH3, hb3, hF3⟩
  have X3 := hF3 _ _ _ (by decide) (by omega) X2
  have X35 : w3.cell? ⟨w.heap.size, 5, none⟩ = some (.slice A l.length cap) := (X3.cell 5).trans rfl
  clear X2 X3
  have hs3 := hb3.size
  have HH3 := Lib.hid hH3; have HB3 := Lib.hid ((HB1.out.trans (hb2.mono (by omega))).trans hb3); have HF3 := Lib.hid ((HF1.out.trans (Fr.of_below hb2)).trans hF3)
  clear hH3 hb3 hF3
  go_wp2_with fail
  go_loopw [64] (fun si wr => ∃ i : Nat, i ≤ l.length ∧ si = .int .i64 i ∧ Holds B b ((x ++ [kby 5] ++ (twoS l.length).data.toList) ++ bysL (l.take i)) wr ∧ Below B w wr ∧ Fr b w wr ∧ w.heap.size ≤ wr.heap.size) (fun si _ => l.length - (intOf si).toNat)
  case atStart => exact ⟨0, by omega, rfl, by have := HH3.out; simpa [bysL] using this, HB3.out, HF3.out, by omega⟩
  case round =>
    obtain ⟨i, hi, rfl, hHr, hbr, hFr, hsr⟩ := hrel
    have HHr := Lib.hid hHr; have HBr := Lib.hid hbr; have HFr := Lib.hid hFr
    by_cases hlt : i < l.length
    · obtain ⟨a, k', b', q0, f', s', q, D, capi, rfl, hab, hx, hrd, e0, e1, e2, e3, e4, e5⟩ := (hl.under hbr (Nat.le_refl _) (Nat.le_refl _)).item hlt
      have Hx := Lib.hid hx; clear hx
      clear hHr hbr hFr
      have IHi := Lib.hid (IH.out i hlt)
      have hle := bysL_len (l := l) (i := i + 1) (by omega)
      have hsn := bysL_snoc hlt
      rw [hsn, List.length_append] at hle
      have Hsn := Lib.hid hsn; clear hsn
      go_wp2_with fail
      refine (IHi.out _ B b _ _ (hrd.under ((Below.refl B wr).alloc (by omega) _) (Nat.le_refl _) (Nat.le_refl _)) (by simp; omega) (HHr.out.alloc _) (by simp only [List.length_append, List.length_singleton, twoL_len]; omega)).mono ?_
      rintro e w4 ⟨rfl, hH4, hb4, hF4⟩
      have hs4 := hb4.size
      simp only [World.size_alloc] at hs4
      have HH4 := Lib.hid hH4; have HB4 := Lib.hid ((HBr.out.alloc (by omega) _).trans hb4); have HF4 := Lib.hid ((HFr.out.trans (Fr.alloc b wr _)).trans hF4)
      clear hH4 hb4 hF4
      go_wp2_with fail
      go_roundw
      case rel => exact ⟨i + 1, by omega, by go_num, by have := HH4.out; rw [Hsn.out]; simpa using this, HB4.out, HF4.out, by omega⟩
      case measure => simp [intOf]; omega
    · clear hHr hbr hFr
      go_wp2_with fail
      go_end0
      exact ⟨rfl, by have := HHr.out; rw [List.take_of_length_le (by omega)] at this; simpa using this, HBr.out, HFr.out⟩

set_option maxRecDepth 100000 in
theorem put_map (n : Int) (b0 : Bool) (f : Nat) (s : ByteArray) (l : List T) (v : Value) (B b : Nat) (x : List UInt8) (w : World) (ih : ∀ i (hi : i < l.length), PutAt l[i]) (h : Rd w B (.mk 6 b0 n f s l) v) (hB : B ≤ w.heap.size) (hH : Holds B b x w) (hlen : x.length + (bys (.mk 6 b0 n f s l)).length ≤ 140737488355328) :
    Calls Try.prog 27 #[.pointer (some ⟨b, 0, none⟩), v] w fun e w' => e = .returned (.tuple #[]) ∧ Holds B b (x ++ bys (.mk 6 b0 n f s l)) w' ∧ Below B w w' ∧ Fr b w w' := by
  have HE := Lib.hid (show bys (.mk 6 b0 n f s l) = kby 6 :: ((twoS l.length).data.toList ++ bysL l) by rw [bys]; simp)
  have IH := Lib.hid ih; clear ih
  rw [HE.out] at hlen ⊢
  have h8 := twoL_len l.length
  simp only [List.length_cons, List.length_append, h8] at hlen
  have Hh := Lib.hid h
  obtain ⟨A, cap, rfl, hk, hn, hf, hs, hc, hm, hA, hl⟩ := h.open
  have Hn := Lib.hid hn; have Hf := Lib.hid hf; have Hs := Lib.hid hs
  have hm2 := hm.2
  have hss := hs
  clear hk hn hf hs hc hA hm h
  have hbl := hH.lt
  have HH := Lib.hid (hH.alloc (.cells #[.int .i64 6, .bool b0, .int .i64 n, .float .f64 f, .string s, .slice A l.length cap] 26)); clear hH
  have HB := Lib.hid ((Below.refl B w).alloc hB (.cells #[.int .i64 6, .bool b0, .int .i64 n, .float .f64 f, .string s, .slice A l.length cap] 26))
  have HF := Lib.hid (Fr.alloc b w (.cells #[.int .i64 6, .bool b0, .int .i64 n, .float .f64 f, .string s, .slice A l.length cap] 26))
  have hB1 : B ≤ (w.alloc (.cells #[.int .i64 6, .bool b0, .int .i64 n, .float .f64 f, .string s, .slice A l.length cap] 26)).heap.size := by simp; omega
  have HX := Lib.hid (Blk.new w 26 #[.int .i64 6, .bool b0, .int .i64 n, .float .f64 f, .string s, .slice A l.length cap])
  go_enter Try.func27, Try.ntmps27
  go_wp2_with fail
  refine (wb_any _ (kby 6) HH.out (kby_eq _) (by omega) hB1).mono ?_
  rintro e w1 ⟨rfl, hH1, hb1, hF1⟩
  have X1 := hF1 _ _ _ (by decide) (by simp; omega) HX.out
  have HH1 := Lib.hid hH1; have HB1 := Lib.hid (HB.out.trans hb1); have HF1 := Lib.hid (HF.out.trans hF1)
  have hs1 := hb1.size
  simp only [World.size_alloc] at hs1
  clear hH1 hb1 hF1
  have X10 : w1.cell? ⟨w.heap.size, 0, none⟩ = some (.int .i64 6) := (X1.cell 0).trans rfl
  have X11 : w1.cell? ⟨w.heap.size, 1, none⟩ = some (.bool b0) := (X1.cell 1).trans rfl
  have X12 : w1.cell? ⟨w.heap.size, 2, none⟩ = some (.int .i64 n) := (X1.cell 2).trans rfl
  have X13 : w1.cell? ⟨w.heap.size, 3, none⟩ = some (.float .f64 f) := (X1.cell 3).trans rfl
  have X14 : w1.cell? ⟨w.heap.size, 4, none⟩ = some (.string s) := (X1.cell 4).trans rfl
  have X15 : w1.cell? ⟨w.heap.size, 5, none⟩ = some (.slice A l.length cap) := (X1.cell 5).trans rfl
  have HX1 := Lib.hid X1; clear X1
  go_wp2_with fail
  refine (two_any (l.length : Int) _).mono ?_
  rintro e w2 ⟨rfl, hb2⟩
  have hs2 := hb2.size
  have X2 := Fr.of_below (b := b) hb2 _ _ _ (by decide) (by omega) HX1.out
  go_wp2_with fail
  refine (ws_any (B := B) (l := x ++ [kby 6]) (twoS l.length) (HH1.out.below hb2) (by rw [two_size]; simp; omega) (by omega)).mono ?_
  rintro e w3 ⟨rfl, hH3, hb3, hF3⟩
  have X3 := hF3 _ _ _ (by decide) (by omega) X2
  have X35 : w3.cell? ⟨w.heap.size, 5, none⟩ = some (.slice A l.length cap) := (X3.cell 5).trans rfl
  clear X2 X3
  have hs3 := hb3.size
  have HH3 := Lib.hid hH3; have HB3 := Lib.hid ((HB1.out.trans (hb2.mono (by omega))).trans hb3); have HF3 := Lib.hid ((HF1.out.trans (Fr.of_below hb2)).trans hF3)
  clear hH3 hb3 hF3
  go_wp2_with fail
  go_loopw [64] (fun si wr => ∃ i : Nat, i ≤ l.length ∧ si = .int .i64 i ∧ Holds B b ((x ++ [kby 6] ++ (twoS l.length).data.toList) ++ bysL (l.take i)) wr ∧ Below B w wr ∧ Fr b w wr ∧ w.heap.size ≤ wr.heap.size) (fun si _ => l.length - (intOf si).toNat)
  case atStart => exact ⟨0, by omega, rfl, by have := HH3.out; simpa [bysL] using this, HB3.out, HF3.out, by omega⟩
  case round =>
    obtain ⟨i, hi, rfl, hHr, hbr, hFr, hsr⟩ := hrel
    have HHr := Lib.hid hHr; have HBr := Lib.hid hbr; have HFr := Lib.hid hFr
    by_cases hlt : i < l.length
    · obtain ⟨a, k', b', q0, f', s', q, D, capi, rfl, hab, hx, hrd, e0, e1, e2, e3, e4, e5⟩ := (hl.under hbr (Nat.le_refl _) (Nat.le_refl _)).item hlt
      have Hx := Lib.hid hx; clear hx
      clear hHr hbr hFr
      have IHi := Lib.hid (IH.out i hlt)
      have hle := bysL_len (l := l) (i := i + 1) (by omega)
      have hsn := bysL_snoc hlt
      rw [hsn, List.length_append] at hle
      have Hsn := Lib.hid hsn; clear hsn
      go_wp2_with fail
      refine (IHi.out _ B b _ _ (hrd.under ((Below.refl B wr).alloc (by omega) _) (Nat.le_refl _) (Nat.le_refl _)) (by simp; omega) (HHr.out.alloc _) (by simp only [List.length_append, List.length_singleton, twoL_len]; omega)).mono ?_
      rintro e w4 ⟨rfl, hH4, hb4, hF4⟩
      have hs4 := hb4.size
      simp only [World.size_alloc] at hs4
      have HH4 := Lib.hid hH4; have HB4 := Lib.hid ((HBr.out.alloc (by omega) _).trans hb4); have HF4 := Lib.hid ((HFr.out.trans (Fr.alloc b wr _)).trans hF4)
      clear hH4 hb4 hF4
      go_wp2_with fail
      go_roundw
      case rel => exact ⟨i + 1, by omega, by go_num, by have := HH4.out; rw [Hsn.out]; simpa using this, HB4.out, HF4.out, by omega⟩
      case measure => simp [intOf]; omega
    · clear hHr hbr hFr
      go_wp2_with fail
      go_end0
      exact ⟨rfl, by have := HHr.out; rw [List.take_of_length_le (by omega)] at this; simpa using this, HBr.out, HFr.out⟩

set_option maxRecDepth 100000 in
theorem put_other (k n : Int) (b0 : Bool) (f : Nat) (s : ByteArray) (l : List T) (v : Value) (B b : Nat) (x : List UInt8) (w : World) (k1 : k ≠ 1) (k2 : k ≠ 2) (k3 : k ≠ 3) (k4 : k ≠ 4) (k5 : k ≠ 5) (k6 : k ≠ 6) (k7 : k ≠ 7) (k8 : k ≠ 8) (h : Rd w B (.mk k b0 n f s l) v) (hB : B ≤ w.heap.size) (hH : Holds B b x w) (hlen : x.length + (bys (.mk k b0 n f s l)).length ≤ 140737488355328) :
    Calls Try.prog 27 #[.pointer (some ⟨b, 0, none⟩), v] w fun e w' => e = .returned (.tuple #[]) ∧ Holds B b (x ++ bys (.mk k b0 n f s l)) w' ∧ Below B w w' ∧ Fr b w w' := by
  have HE := Lib.hid (show bys (.mk k b0 n f s l) = [kby k] by rw [bys, if_neg k1, if_neg (by omega), if_neg k3, if_neg k4, if_neg (by omega)])
  rw [HE.out] at hlen ⊢
  simp only [List.length_cons, List.length_nil] at hlen
  have d1 : (k == 1) = false := by simpa using k1
  have d2 : (k == 2) = false := by simpa using k2
  have d3 : (k == 3) = false := by simpa using k3
  have d4 : (k == 4) = false := by simpa using k4
  have d5 : (k == 5) = false := by simpa using k5
  have d6 : (k == 6) = false := by simpa using k6
  have d7 : (k == 7) = false := by simpa using k7
  have d8 : (k == 8) = false := by simpa using k8
  clear k1 k2 k3 k4 k5 k6 k7 k8
  have Hh := Lib.hid h
  obtain ⟨A, cap, rfl, hk, hn, hf, hs, hc, hm, hA, hl⟩ := h.open
  have Hn := Lib.hid hn; have Hf := Lib.hid hf; have Hs := Lib.hid hs
  have hm2 := hm.2
  have hss := hs
  clear hk hn hf hs hc hA hm h
  have hbl := hH.lt
  have HH := Lib.hid (hH.alloc (.cells #[.int .i64 k, .bool b0, .int .i64 n, .float .f64 f, .string s, .slice A l.length cap] 26)); clear hH
  have HB := Lib.hid ((Below.refl B w).alloc hB (.cells #[.int .i64 k, .bool b0, .int .i64 n, .float .f64 f, .string s, .slice A l.length cap] 26))
  have HF := Lib.hid (Fr.alloc b w (.cells #[.int .i64 k, .bool b0, .int .i64 n, .float .f64 f, .string s, .slice A l.length cap] 26))
  have hB1 : B ≤ (w.alloc (.cells #[.int .i64 k, .bool b0, .int .i64 n, .float .f64 f, .string s, .slice A l.length cap] 26)).heap.size := by simp; omega
  have HX := Lib.hid (Blk.new w 26 #[.int .i64 k, .bool b0, .int .i64 n, .float .f64 f, .string s, .slice A l.length cap])
  go_enter Try.func27, Try.ntmps27
  go_wp2_with fail
  refine (wb_any _ (kby k) HH.out (kby_eq _) (by omega) hB1).mono ?_
  rintro e w1 ⟨rfl, hH1, hb1, hF1⟩
  have X1 := hF1 _ _ _ (by decide) (by simp; omega) HX.out
  have HH1 := Lib.hid hH1; have HB1 := Lib.hid (HB.out.trans hb1); have HF1 := Lib.hid (HF.out.trans hF1)
  have hs1 := hb1.size
  simp only [World.size_alloc] at hs1
  clear hH1 hb1 hF1
  have X10 : w1.cell? ⟨w.heap.size, 0, none⟩ = some (.int .i64 k) := (X1.cell 0).trans rfl
  have X11 : w1.cell? ⟨w.heap.size, 1, none⟩ = some (.bool b0) := (X1.cell 1).trans rfl
  have X12 : w1.cell? ⟨w.heap.size, 2, none⟩ = some (.int .i64 n) := (X1.cell 2).trans rfl
  have X13 : w1.cell? ⟨w.heap.size, 3, none⟩ = some (.float .f64 f) := (X1.cell 3).trans rfl
  have X14 : w1.cell? ⟨w.heap.size, 4, none⟩ = some (.string s) := (X1.cell 4).trans rfl
  have X15 : w1.cell? ⟨w.heap.size, 5, none⟩ = some (.slice A l.length cap) := (X1.cell 5).trans rfl
  have HX1 := Lib.hid X1; clear X1
  go_wp2_with fail
  go_end0
  exact ⟨rfl, HH1.out, HB1.out, HF1.out⟩

theorem put_at (t : T) : PutAt t := by
  induction t using T.ind with | h k b0 n f s l ih => _
  intro v B b x w h hB hH hlen
  by_cases k1 : k = 1
  · subst k1
    cases b0
    · exact put_bool_f n f s l v B b x w h hB hH hlen
    · exact put_bool_t n f s l v B b x w h hB hH hlen
  by_cases k2 : k = 2
  · subst k2; exact put_int n b0 f s l v B b x w h hB hH hlen
  by_cases k3 : k = 3
  · subst k3; exact put_float n b0 f s l v B b x w h hB hH hlen
  by_cases k4 : k = 4
  · subst k4; exact put_text n b0 f s l v B b x w h hB hH hlen
  by_cases k5 : k = 5
  · subst k5; exact put_list n b0 f s l v B b x w ih h hB hH hlen
  by_cases k6 : k = 6
  · subst k6; exact put_map n b0 f s l v B b x w ih h hB hH hlen
  by_cases k7 : k = 7
  · subst k7; exact put_vertex n b0 f s l v B b x w h hB hH hlen
  by_cases k8 : k = 8
  · subst k8; exact put_edge n b0 f s l v B b x w h hB hH hlen
  · exact put_other k n b0 f s l v B b x w k1 k2 k3 k4 k5 k6 k7 k8 h hB hH hlen

end Go.Proofs.Ytaonlbmicjoclaa
