/- Put, PutR -/
import Derived.Test.YtgmjhoppjjjilaaDoorQ43
import Derived.Test.YtgmjhoppjjjilaaDoorQ07
import Derived.Test.YtgmjhoppjjjilaaDoorQ08
import Derived.Test.YtgmjhoppjjjilaaDoorQ17
import Derived.StillTailTactics
import Derived.Deep.RegionWith

/- val.put, val.Put -/
namespace Go.Proofs.YtgmjhoppjjjilaaDoor
open Go.ChangeShapes Go.WideShapes Go.ChangeAt Go.RowKit Go.Fl

/-- a kind's byte -/
def kby (k : Int) : UInt8 := UInt8.ofNat (k % 256).toNat

theorem kby_eq (k : Int) : k % 256 = (kby k).toNat := by
  unfold kby
  rw [UInt8.toNat_ofNat']
  omega

def twoS (m : Nat) : ByteArray := strOfNums [(m : Int) / 256 % 256, (m : Int) % 256]

theorem eight_size (n : Nat) : (eightS n).size = 8 := by unfold eightS; rw [nums_size]; rfl

theorem two_size (n : Nat) : (twoS n).size = 2 := by unfold twoS; rw [nums_size]; rfl

theorem twoS_len (n : Nat) : (twoS n).data.toList.length = 2 := two_size n

/-- an int64 as its word -/
def word (n : Int) : Nat := (n % 18446744073709551616).toNat

mutual
/-- a value's bytes -/
def bys : T → List UInt8
  | .mk k b n f s l => kby k :: (if k = 1 then [if b then 1 else 0] else if k = 2 ∨ k = 7 ∨ k = 8 then eightL (word n) else if k = 3 then eightL (canonN f)
      else if k = 4 then (twoS s.size).data.toList ++ s.data.toList else if k = 5 ∨ k = 6 then (twoS l.length).data.toList ++ bysL l else [])
def bysL : List T → List UInt8
  | [] => []
  | t :: r => bys t ++ bysL r
end

theorem bysL_snoc {l : List T} {i : Nat} (hi : i < l.length) : bysL (l.take (i + 1)) = bysL (l.take i) ++ bys l[i] := by
  induction l generalizing i with
  | nil => exact absurd hi (Nat.not_lt_zero _)
  | cons t r ih =>
    cases i with
    | zero => simp [bysL]
    | succ i =>
      have := ih (i := i) (by simpa using hi)
      simp only [List.take_succ_cons, bysL, List.getElem_cons_succ, List.append_assoc]
      rw [this]

theorem bysL_len {l : List T} {i : Nat} (hi : i ≤ l.length) : (bysL (l.take i)).length ≤ (bysL l).length := by
  induction l generalizing i with
  | nil => simp [bysL]
  | cons t r ih =>
    cases i with
    | zero => simp [bysL]
    | succ i =>
      have := ih (i := i) (by simpa using hi)
      simp only [List.take_succ_cons, bysL, List.length_append]
      omega

theorem bys_tot (t : T) : ((bys t).length : Int) ≤ tot t := by
  induction t using T.ind with | h k b n f s l ih => _
  have hl : ∀ r : List T, (∀ i (hi : i < r.length), ((bys r[i]).length : Int) ≤ tot r[i]) → ((bysL r).length : Int) ≤ totL r := by
    intro r
    induction r with
    | nil => intro _; simp [bysL, totL]
    | cons t r ihr =>
      intro h
      have h0 := h 0 (by simp)
      have h1 := ihr fun i hi => by have := h (i + 1) (by simpa using hi); simpa using this
      simp only [List.getElem_cons_zero] at h0
      rw [bysL, totL, List.length_append]; omega
  have h2 := hl l ih
  have h8 := eightL_len (word n)
  have h8' := eightL_len (canonN f)
  have ht := twoS_len s.size
  have ht' := twoS_len l.length
  have hs : s.data.toList.length = s.size := rfl
  rw [bys, tot, List.length_cons]
  unfold hdT
  by_cases k0 : k = 0
  · subst k0; simp
  by_cases k1 : k = 1
  · subst k1; simp
  by_cases k2 : k = 2 ∨ k = 7 ∨ k = 8
  · rw [if_neg k1, if_pos k2, if_neg k0, if_neg k1, if_neg (by omega), if_neg (by omega), if_neg (by omega)]; omega
  by_cases k3 : k = 3
  · subst k3; simp; omega
  by_cases k4 : k = 4
  · subst k4; simp; simp at ht hs; omega
  by_cases k5 : k = 5 ∨ k = 6
  · rw [if_neg k1, if_neg k2, if_neg k3, if_neg k4, if_pos k5, if_neg k0, if_neg k1, if_neg k4, if_pos k5, if_pos k5, List.length_append]; omega
  · rw [if_neg k1, if_neg k2, if_neg k3, if_neg k4, if_neg k5, if_neg k0, if_neg k1, if_neg k4, if_neg k5, if_neg k5]; simp

theorem ownsRow_below {w w' : World} {base : Nat} {e : TypeId} {size : Nat} {v : Value} {n : Nat} {xs : List Value} (h : w.ownsRow base e size v n xs) (hb : Below w.heap.size w w') : w'.ownsRow base e size v n xs := by
  obtain ⟨h1, h2⟩ := h
  refine ⟨h1, ?_⟩
  rcases h2 with h2 | ⟨g, cap, cur, hv, hg, hh, r⟩
  · exact .inl h2
  · exact .inr ⟨g, cap, cur, hv, hg, (hb.block _ (Blk.lt (w := w) hh)).trans hh, r⟩

theorem Holds.alloc {B b : Nat} {l : List UInt8} {w : World} (h : Holds B b l w) (o : Obj) : Holds B b l (w.alloc o) := by
  unfold Holds at h ⊢
  rcases h with ⟨hB, v, hb, hown, hne⟩ | ⟨hB, v, hb, hown, hne⟩
  · exact .inl ⟨hB, v, (Blk.lt (w := w) hb |> Below.heap_alloc w o b).trans hb, hown.alloc _, hne⟩
  · exact .inr ⟨hB, v, (Blk.lt (w := w) hb |> Below.heap_alloc w o b).trans hb, hown.alloc _, hne⟩

theorem Holds.lt {B b : Nat} {l : List UInt8} {w : World} (h : Holds B b l w) : b < w.heap.size := by
  unfold Holds at h
  rcases h with h | h
  · exact h.lt
  · exact h.lt

theorem Holds.below {B b : Nat} {l : List UInt8} {w w' : World} (h : Holds B b l w) (hb : Below w.heap.size w w') : Holds B b l w' := by
  unfold Holds at h ⊢
  rcases h with ⟨hB, v, hv, hown, hne⟩ | ⟨hB, v, hv, hown, hne⟩
  · exact .inl ⟨hB, v, (hb.block _ (Blk.lt (w := w) hv)).trans hv, ownsRow_below hown hb, hne⟩
  · exact .inr ⟨hB, v, (hb.block _ (Blk.lt (w := w) hv)).trans hv, ownsRow_below hown hb, hne⟩

end Go.Proofs.YtgmjhoppjjjilaaDoor

/- val.Put; the reference's Put -/
namespace Go.Proofs.YtgmjhoppjjjilaaDoor
open Go.ChangeShapes Go.WideShapes Go.ChangeAt Go.RowKit Go.Fl

/-- what Put answers -/
def putV (t : T) : Value := if chkF t = 0 then .tuple #[.string ⟨(bys t).toArray⟩, .int .i64 0] else .tuple #[.string ⟨#[]⟩, .int .i64 (chkF t)]

theorem chk_tot {t : T} (h : chkF t = 0) : tot t ≤ 60000 := by
  unfold chkF at h
  by_cases h6 : 60000 < tot t
  · rw [if_pos h6] at h; exact absurd h (by decide)
  · omega

/-- bytes as a text -/
def bstr (l : List UInt8) : ByteArray := ⟨l.toArray⟩

theorem bstr_add (x y : List UInt8) : bstr x ++ bstr y = bstr (x ++ y) := by unfold bstr; apply ByteArray.ext; simp

theorem bstr_of (s : ByteArray) : bstr s.data.toList = s := rfl

theorem bstr_size (x : List UInt8) : (bstr x).size = x.length := by unfold bstr; simp [ByteArray.size]

theorem bstr_kind (k : Int) : strOfNums [k % 256] = bstr [kby k] := by
  unfold strOfNums bstr kby; simp

theorem add_run {P : Program} (x y : List UInt8) (h : x.length + y.length ≤ 9223372036854775807) (W : World) : (Op.stringOp .add (bstr x) (bstr y)).run P W = .ok (.string (bstr (x ++ y))) W := by
  rw [run_string_add_sum W _ _ (by rw [bstr_size, bstr_size]; exact h), bstr_add]

theorem rtwoS_any (m : Nat) (w : World) (h1 : (m : Int) ≤ 9223372036854775807) :
    Calls Tryd.prog 18 #[.int .i64 m] w fun e w' => e = .returned (.string (twoS m)) ∧ Below w.heap.size w w' := rtwo_any m w (by omega) h1

/-- the reference's Put at one tree -/
def RPutAt (t : T) : Prop := ∀ (v : Value) (w : World), Rd w w.heap.size t v → (bys t).length ≤ 140737488355328 →
    Calls Tryd.prog 6 #[v] w fun e w' => e = .returned (.string (bstr (bys t))) ∧ Below w.heap.size w w'

set_option maxRecDepth 100000 in
theorem rput_bool_t (n : Int) (f : Nat) (s : ByteArray) (l : List T) (v : Value) (w : World) (h : Rd w w.heap.size (.mk 1 true n f s l) v) :
    Calls Tryd.prog 6 #[v] w fun e w' => e = .returned (.string (bstr (bys (.mk 1 true n f s l)))) ∧ Below w.heap.size w w' := by
  have HE := Lib.hid (show bys (.mk 1 true n f s l) = kby 1 :: ([1]) by rw [bys]; simp)
  rw [HE.out]
  obtain ⟨A, cap, rfl, hk, hn, hf, hs, hc, hm, hA, hl⟩ := h.open
  have Hn := Lib.hid hn; have Hf := Lib.hid hf
  have hm2 := hm.2
  clear hk hn hf hc hA hm h
  have hbox := (Below.refl w.heap.size w).alloc (Nat.le_refl _) (.cells #[.int .i64 1, .bool true, .int .i64 n, .float .f64 f, .string s, .slice A l.length cap] 25)
  have hcv := conv_cells (P := Tryd.prog) 47 5 9 Tryd.underlying47 Tryd.underlying5 Tryd.underlying9 (w.alloc (.cells #[.int .i64 1, .bool true, .int .i64 n, .float .f64 f, .string s, .slice A l.length cap] 25)) 5 [(1 : Int)] 1
  simp only [List.length_cons, List.length_nil, List.map_cons, List.map_nil, Nat.zero_add, World.size_alloc] at hcv
  rw [show strOfNums [(1 : Int)] = bstr [kby 1] from rfl] at hcv
  have hb2 := hbox.alloc hbox.size (.cells #[.int .u8 (1 : Int)] 5)
  have hadd := add_run (P := Tryd.prog) [kby 1] [1] (by simp)
  rw [show bstr [(1 : UInt8)] = ⟨#[1]⟩ from rfl] at hadd
  simp only [List.cons_append, List.nil_append] at hadd
  go_enter Tryd.func6, Tryd.ntmps6
  go_wp2_with fail
  go_ret
  exact ⟨rfl, hb2⟩

set_option maxRecDepth 100000 in
theorem rput_bool_f (n : Int) (f : Nat) (s : ByteArray) (l : List T) (v : Value) (w : World) (h : Rd w w.heap.size (.mk 1 false n f s l) v) :
    Calls Tryd.prog 6 #[v] w fun e w' => e = .returned (.string (bstr (bys (.mk 1 false n f s l)))) ∧ Below w.heap.size w w' := by
  have HE := Lib.hid (show bys (.mk 1 false n f s l) = kby 1 :: ([0]) by rw [bys]; simp)
  rw [HE.out]
  obtain ⟨A, cap, rfl, hk, hn, hf, hs, hc, hm, hA, hl⟩ := h.open
  have Hn := Lib.hid hn; have Hf := Lib.hid hf
  have hm2 := hm.2
  clear hk hn hf hc hA hm h
  have hbox := (Below.refl w.heap.size w).alloc (Nat.le_refl _) (.cells #[.int .i64 1, .bool false, .int .i64 n, .float .f64 f, .string s, .slice A l.length cap] 25)
  have hcv := conv_cells (P := Tryd.prog) 47 5 9 Tryd.underlying47 Tryd.underlying5 Tryd.underlying9 (w.alloc (.cells #[.int .i64 1, .bool false, .int .i64 n, .float .f64 f, .string s, .slice A l.length cap] 25)) 5 [(1 : Int)] 1
  simp only [List.length_cons, List.length_nil, List.map_cons, List.map_nil, Nat.zero_add, World.size_alloc] at hcv
  rw [show strOfNums [(1 : Int)] = bstr [kby 1] from rfl] at hcv
  have hb2 := hbox.alloc hbox.size (.cells #[.int .u8 (1 : Int)] 5)
  have hadd := add_run (P := Tryd.prog) [kby 1] [0] (by simp)
  rw [show bstr [(0 : UInt8)] = ⟨#[0]⟩ from rfl] at hadd
  simp only [List.cons_append, List.nil_append] at hadd
  go_enter Tryd.func6, Tryd.ntmps6
  go_wp2_with fail
  go_ret
  exact ⟨rfl, hb2⟩

set_option maxRecDepth 100000 in
theorem rput_int (n : Int) (b0 : Bool) (f : Nat) (s : ByteArray) (l : List T) (v : Value) (w : World) (h : Rd w w.heap.size (.mk 2 b0 n f s l) v) :
    Calls Tryd.prog 6 #[v] w fun e w' => e = .returned (.string (bstr (bys (.mk 2 b0 n f s l)))) ∧ Below w.heap.size w w' := by
  have HE := Lib.hid (show bys (.mk 2 b0 n f s l) = kby 2 :: (eightL (word n)) by rw [bys]; simp)
  rw [HE.out]
  have hU : IntKind.u64.wrap n = ((word n : Nat) : Int) := by unfold word; rw [IntKind.wrap_u64]; omega
  have hU2 : n % 18446744073709551616 = ((word n : Nat) : Int) := by unfold word; omega
  obtain ⟨A, cap, rfl, hk, hn, hf, hs, hc, hm, hA, hl⟩ := h.open
  have Hn := Lib.hid hn; have Hf := Lib.hid hf
  have hm2 := hm.2
  clear hk hn hf hc hA hm h
  have hbox := (Below.refl w.heap.size w).alloc (Nat.le_refl _) (.cells #[.int .i64 2, .bool b0, .int .i64 n, .float .f64 f, .string s, .slice A l.length cap] 25)
  have hcv := conv_cells (P := Tryd.prog) 47 5 9 Tryd.underlying47 Tryd.underlying5 Tryd.underlying9 (w.alloc (.cells #[.int .i64 2, .bool b0, .int .i64 n, .float .f64 f, .string s, .slice A l.length cap] 25)) 5 [(2 : Int)] 1
  simp only [List.length_cons, List.length_nil, List.map_cons, List.map_nil, Nat.zero_add, World.size_alloc] at hcv
  rw [show strOfNums [(2 : Int)] = bstr [kby 2] from rfl] at hcv
  have hb2 := hbox.alloc hbox.size (.cells #[.int .u8 (2 : Int)] 5)
  have hadd := add_run (P := Tryd.prog) [kby 2] (eightL (word n)) (by rw [eightL_len]; simp)
  rw [show bstr (eightL (word n)) = eightS (word n) from rfl] at hadd
  simp only [List.cons_append, List.nil_append] at hadd
  have hwl := Lib.hid (show word n < 18446744073709551616 by unfold word; omega)
  go_enter Tryd.func6, Tryd.ntmps6
  go_wp2_with fail
  refine (reight_any (word n) _ hwl.out).mono ?_
  rintro e w1 ⟨rfl, hb3⟩
  go_wp2_with fail
  go_ret
  exact ⟨rfl, hb2.trans (hb3.mono hb2.size)⟩

set_option maxRecDepth 100000 in
theorem rput_vertex (n : Int) (b0 : Bool) (f : Nat) (s : ByteArray) (l : List T) (v : Value) (w : World) (h : Rd w w.heap.size (.mk 7 b0 n f s l) v) :
    Calls Tryd.prog 6 #[v] w fun e w' => e = .returned (.string (bstr (bys (.mk 7 b0 n f s l)))) ∧ Below w.heap.size w w' := by
  have HE := Lib.hid (show bys (.mk 7 b0 n f s l) = kby 7 :: (eightL (word n)) by rw [bys]; simp)
  rw [HE.out]
  have hU : IntKind.u64.wrap n = ((word n : Nat) : Int) := by unfold word; rw [IntKind.wrap_u64]; omega
  have hU2 : n % 18446744073709551616 = ((word n : Nat) : Int) := by unfold word; omega
  obtain ⟨A, cap, rfl, hk, hn, hf, hs, hc, hm, hA, hl⟩ := h.open
  have Hn := Lib.hid hn; have Hf := Lib.hid hf
  have hm2 := hm.2
  clear hk hn hf hc hA hm h
  have hbox := (Below.refl w.heap.size w).alloc (Nat.le_refl _) (.cells #[.int .i64 7, .bool b0, .int .i64 n, .float .f64 f, .string s, .slice A l.length cap] 25)
  have hcv := conv_cells (P := Tryd.prog) 47 5 9 Tryd.underlying47 Tryd.underlying5 Tryd.underlying9 (w.alloc (.cells #[.int .i64 7, .bool b0, .int .i64 n, .float .f64 f, .string s, .slice A l.length cap] 25)) 5 [(7 : Int)] 1
  simp only [List.length_cons, List.length_nil, List.map_cons, List.map_nil, Nat.zero_add, World.size_alloc] at hcv
  rw [show strOfNums [(7 : Int)] = bstr [kby 7] from rfl] at hcv
  have hb2 := hbox.alloc hbox.size (.cells #[.int .u8 (7 : Int)] 5)
  have hadd := add_run (P := Tryd.prog) [kby 7] (eightL (word n)) (by rw [eightL_len]; simp)
  rw [show bstr (eightL (word n)) = eightS (word n) from rfl] at hadd
  simp only [List.cons_append, List.nil_append] at hadd
  have hwl := Lib.hid (show word n < 18446744073709551616 by unfold word; omega)
  go_enter Tryd.func6, Tryd.ntmps6
  go_wp2_with fail
  refine (reight_any (word n) _ hwl.out).mono ?_
  rintro e w1 ⟨rfl, hb3⟩
  go_wp2_with fail
  go_ret
  exact ⟨rfl, hb2.trans (hb3.mono hb2.size)⟩

set_option maxRecDepth 100000 in
theorem rput_edge (n : Int) (b0 : Bool) (f : Nat) (s : ByteArray) (l : List T) (v : Value) (w : World) (h : Rd w w.heap.size (.mk 8 b0 n f s l) v) :
    Calls Tryd.prog 6 #[v] w fun e w' => e = .returned (.string (bstr (bys (.mk 8 b0 n f s l)))) ∧ Below w.heap.size w w' := by
  have HE := Lib.hid (show bys (.mk 8 b0 n f s l) = kby 8 :: (eightL (word n)) by rw [bys]; simp)
  rw [HE.out]
  have hU : IntKind.u64.wrap n = ((word n : Nat) : Int) := by unfold word; rw [IntKind.wrap_u64]; omega
  have hU2 : n % 18446744073709551616 = ((word n : Nat) : Int) := by unfold word; omega
  obtain ⟨A, cap, rfl, hk, hn, hf, hs, hc, hm, hA, hl⟩ := h.open
  have Hn := Lib.hid hn; have Hf := Lib.hid hf
  have hm2 := hm.2
  clear hk hn hf hc hA hm h
  have hbox := (Below.refl w.heap.size w).alloc (Nat.le_refl _) (.cells #[.int .i64 8, .bool b0, .int .i64 n, .float .f64 f, .string s, .slice A l.length cap] 25)
  have hcv := conv_cells (P := Tryd.prog) 47 5 9 Tryd.underlying47 Tryd.underlying5 Tryd.underlying9 (w.alloc (.cells #[.int .i64 8, .bool b0, .int .i64 n, .float .f64 f, .string s, .slice A l.length cap] 25)) 5 [(8 : Int)] 1
  simp only [List.length_cons, List.length_nil, List.map_cons, List.map_nil, Nat.zero_add, World.size_alloc] at hcv
  rw [show strOfNums [(8 : Int)] = bstr [kby 8] from rfl] at hcv
  have hb2 := hbox.alloc hbox.size (.cells #[.int .u8 (8 : Int)] 5)
  have hadd := add_run (P := Tryd.prog) [kby 8] (eightL (word n)) (by rw [eightL_len]; simp)
  rw [show bstr (eightL (word n)) = eightS (word n) from rfl] at hadd
  simp only [List.cons_append, List.nil_append] at hadd
  have hwl := Lib.hid (show word n < 18446744073709551616 by unfold word; omega)
  go_enter Tryd.func6, Tryd.ntmps6
  go_wp2_with fail
  refine (reight_any (word n) _ hwl.out).mono ?_
  rintro e w1 ⟨rfl, hb3⟩
  go_wp2_with fail
  go_ret
  exact ⟨rfl, hb2.trans (hb3.mono hb2.size)⟩

set_option maxRecDepth 100000 in
theorem rput_float (n : Int) (b0 : Bool) (f : Nat) (s : ByteArray) (l : List T) (v : Value) (w : World) (h : Rd w w.heap.size (.mk 3 b0 n f s l) v) :
    Calls Tryd.prog 6 #[v] w fun e w' => e = .returned (.string (bstr (bys (.mk 3 b0 n f s l)))) ∧ Below w.heap.size w w' := by
  have HE := Lib.hid (show bys (.mk 3 b0 n f s l) = kby 3 :: (eightL (canonN f)) by rw [bys]; simp)
  rw [HE.out]
  obtain ⟨A, cap, rfl, hk, hn, hf, hs, hc, hm, hA, hl⟩ := h.open
  have Hn := Lib.hid hn; have Hf := Lib.hid hf
  have hm2 := hm.2
  clear hk hn hf hc hA hm h
  have hbox := (Below.refl w.heap.size w).alloc (Nat.le_refl _) (.cells #[.int .i64 3, .bool b0, .int .i64 n, .float .f64 f, .string s, .slice A l.length cap] 25)
  have hcv := conv_cells (P := Tryd.prog) 47 5 9 Tryd.underlying47 Tryd.underlying5 Tryd.underlying9 (w.alloc (.cells #[.int .i64 3, .bool b0, .int .i64 n, .float .f64 f, .string s, .slice A l.length cap] 25)) 5 [(3 : Int)] 1
  simp only [List.length_cons, List.length_nil, List.map_cons, List.map_nil, Nat.zero_add, World.size_alloc] at hcv
  rw [show strOfNums [(3 : Int)] = bstr [kby 3] from rfl] at hcv
  have hb2 := hbox.alloc hbox.size (.cells #[.int .u8 (3 : Int)] 5)
  have hadd := add_run (P := Tryd.prog) [kby 3] (eightL (canonN f)) (by rw [eightL_len]; simp)
  rw [show bstr (eightL (canonN f)) = eightS (canonN f) from rfl] at hadd
  simp only [List.cons_append, List.nil_append] at hadd
  go_enter Tryd.func6, Tryd.ntmps6
  go_wp2_with fail
  refine (rcanon_any f _).mono ?_
  rintro e w1 ⟨rfl, rfl⟩
  go_wp2_with fail
  refine (reight_any (canonN f) _ (canonN_lt f Hf.out)).mono ?_
  rintro e w1 ⟨rfl, hb3⟩
  go_wp2_with fail
  go_ret
  exact ⟨rfl, hb2.trans (hb3.mono hb2.size)⟩

set_option maxRecDepth 100000 in
theorem rput_other (k n : Int) (b0 : Bool) (f : Nat) (s : ByteArray) (l : List T) (v : Value) (w : World) (k1 : k ≠ 1) (k2 : k ≠ 2) (k3 : k ≠ 3) (k4 : k ≠ 4) (k5 : k ≠ 5) (k6 : k ≠ 6) (k7 : k ≠ 7) (k8 : k ≠ 8) (h : Rd w w.heap.size (.mk k b0 n f s l) v) :
    Calls Tryd.prog 6 #[v] w fun e w' => e = .returned (.string (bstr (bys (.mk k b0 n f s l)))) ∧ Below w.heap.size w w' := by
  have HE := Lib.hid (show bys (.mk k b0 n f s l) = [kby k] by rw [bys, if_neg k1, if_neg (by omega), if_neg k3, if_neg k4, if_neg (by omega)])
  rw [HE.out]
  have d1 : (k == 1) = false := by simpa using k1
  have d2 : (k == 2) = false := by simpa using k2
  have d3 : (k == 3) = false := by simpa using k3
  have d4 : (k == 4) = false := by simpa using k4
  have d5 : (k == 5) = false := by simpa using k5
  have d6 : (k == 6) = false := by simpa using k6
  have d7 : (k == 7) = false := by simpa using k7
  have d8 : (k == 8) = false := by simpa using k8
  clear k1 k2 k3 k4 k5 k6 k7 k8
  obtain ⟨A, cap, rfl, hk, hn, hf, hs, hc, hm, hA, hl⟩ := h.open
  have Hn := Lib.hid hn; have Hf := Lib.hid hf
  have hm2 := hm.2
  clear hk hn hf hc hA hm h
  have hbox := (Below.refl w.heap.size w).alloc (Nat.le_refl _) (.cells #[.int .i64 k, .bool b0, .int .i64 n, .float .f64 f, .string s, .slice A l.length cap] 25)
  have hcv := conv_cells (P := Tryd.prog) 47 5 9 Tryd.underlying47 Tryd.underlying5 Tryd.underlying9 (w.alloc (.cells #[.int .i64 k, .bool b0, .int .i64 n, .float .f64 f, .string s, .slice A l.length cap] 25)) 5 [(k % 256)] 1
  simp only [List.length_cons, List.length_nil, List.map_cons, List.map_nil, Nat.zero_add, World.size_alloc] at hcv
  rw [show strOfNums [(k % 256)] = bstr [kby k] from bstr_kind k] at hcv
  have hb2 := hbox.alloc hbox.size (.cells #[.int .u8 (k % 256)] 5)
  go_enter Tryd.func6, Tryd.ntmps6
  go_wp2_with fail
  go_ret
  exact ⟨rfl, hb2⟩

set_option maxHeartbeats 2000000 in
set_option maxRecDepth 100000 in
theorem rput_text (n : Int) (b0 : Bool) (f : Nat) (s : ByteArray) (l : List T) (v : Value) (w : World) (h : Rd w w.heap.size (.mk 4 b0 n f s l) v) :
    Calls Tryd.prog 6 #[v] w fun e w' => e = .returned (.string (bstr (bys (.mk 4 b0 n f s l)))) ∧ Below w.heap.size w w' := by
  have HE := Lib.hid (show bys (.mk 4 b0 n f s l) = kby 4 :: ((twoS s.size).data.toList ++ s.data.toList) by rw [bys]; simp)
  rw [HE.out]
  obtain ⟨A, cap, rfl, hk, hn, hf, hs, hc, hm, hA, hl⟩ := h.open
  have Hn := Lib.hid hn; have Hf := Lib.hid hf
  have hm2 := hm.2
  clear hk hn hf hc hA hm h
  have hbox := (Below.refl w.heap.size w).alloc (Nat.le_refl _) (.cells #[.int .i64 4, .bool b0, .int .i64 n, .float .f64 f, .string s, .slice A l.length cap] 25)
  have hcv := conv_cells (P := Tryd.prog) 47 5 9 Tryd.underlying47 Tryd.underlying5 Tryd.underlying9 (w.alloc (.cells #[.int .i64 4, .bool b0, .int .i64 n, .float .f64 f, .string s, .slice A l.length cap] 25)) 5 [(4 : Int)] 1
  simp only [List.length_cons, List.length_nil, List.map_cons, List.map_nil, Nat.zero_add, World.size_alloc] at hcv
  rw [show strOfNums [(4 : Int)] = bstr [kby 4] from rfl] at hcv
  have hb2 := hbox.alloc hbox.size (.cells #[.int .u8 (4 : Int)] 5)
  have h8 := twoS_len s.size
  have hsd : s.data.toList.length = s.size := rfl
  have hadd := add_run (P := Tryd.prog) [kby 4] (twoS s.size).data.toList (by rw [h8]; simp)
  rw [show bstr (twoS s.size).data.toList = twoS s.size from rfl] at hadd
  have hadd2 := add_run (P := Tryd.prog) ([kby 4] ++ (twoS s.size).data.toList) s.data.toList (by rw [List.length_append, h8, hsd]; simp; omega)
  rw [show bstr s.data.toList = s from rfl] at hadd2
  simp only [List.cons_append, List.nil_append] at hadd hadd2
  have hs' := hs
  clear h8 hsd
  go_enter Tryd.func6, Tryd.ntmps6
  go_wp2_with fail
  have hz1 : (s.size : Int) ≤ 9223372036854775807 := by omega
  clear hs hs'
  go_region_with ((go_at_call 18; refine (rtwoS_any s.size _ hz1).mono ?_; rintro e w1 ⟨rfl, hb3⟩; have hc4 := hb3.cell (p := ⟨w.heap.size, 4, none⟩) (by simp; omega)))
  all_goals
    go_wp2_with fail
    go_ret
    exact ⟨rfl, (hb2.drew).trans (hb3.mono (by simp; omega))⟩

set_option maxRecDepth 100000 in
theorem rput_list (n : Int) (b0 : Bool) (f : Nat) (s : ByteArray) (l : List T) (v : Value) (w : World) (ih : ∀ i (hi : i < l.length), RPutAt l[i]) (h : Rd w w.heap.size (.mk 5 b0 n f s l) v) (hlen : (bys (.mk 5 b0 n f s l)).length ≤ 140737488355328) :
    Calls Tryd.prog 6 #[v] w fun e w' => e = .returned (.string (bstr (bys (.mk 5 b0 n f s l)))) ∧ Below w.heap.size w w' := by
  have HE := Lib.hid (show bys (.mk 5 b0 n f s l) = kby 5 :: ((twoS l.length).data.toList ++ bysL l) by rw [bys]; simp)
  rw [HE.out] at hlen ⊢
  have IH := Lib.hid ih; clear ih
  obtain ⟨A, cap, rfl, hk, hn, hf, hs, hc, hm, hA, hl⟩ := h.open
  have Hn := Lib.hid hn; have Hf := Lib.hid hf
  have hm2 := hm.2
  clear hk hn hf hc hA hm h
  have hbox := (Below.refl w.heap.size w).alloc (Nat.le_refl _) (.cells #[.int .i64 5, .bool b0, .int .i64 n, .float .f64 f, .string s, .slice A l.length cap] 25)
  have hcv := conv_cells (P := Tryd.prog) 47 5 9 Tryd.underlying47 Tryd.underlying5 Tryd.underlying9 (w.alloc (.cells #[.int .i64 5, .bool b0, .int .i64 n, .float .f64 f, .string s, .slice A l.length cap] 25)) 5 [(5 : Int)] 1
  simp only [List.length_cons, List.length_nil, List.map_cons, List.map_nil, Nat.zero_add, World.size_alloc] at hcv
  rw [show strOfNums [(5 : Int)] = bstr [kby 5] from rfl] at hcv
  have hb2 := hbox.alloc hbox.size (.cells #[.int .u8 (5 : Int)] 5)
  have h8 := twoS_len l.length
  have Hlen := Lib.hid hlen
  simp only [List.length_cons, List.length_append, h8] at hlen
  have hadd := add_run (P := Tryd.prog) [kby 5] (twoS l.length).data.toList (by rw [h8]; simp)
  rw [show bstr (twoS l.length).data.toList = twoS l.length from rfl] at hadd
  simp only [List.cons_append, List.nil_append] at hadd
  have HX := Lib.hid (Blk.new w 25 #[.int .i64 5, .bool b0, .int .i64 n, .float .f64 f, .string s, .slice A l.length cap])
  go_enter Tryd.func6, Tryd.ntmps6
  go_wp2_with fail
  refine (rtwoS_any l.length _ (by omega)).mono ?_
  rintro e w1 ⟨rfl, hb3⟩
  have hb4 := hb2.trans (hb3.mono hb2.size)
  have hb3' : Below (w.heap.size + 1) (w.alloc (.cells #[.int .i64 5, .bool b0, .int .i64 n, .float .f64 f, .string s, .slice A l.length cap] 25)) w1 := ((Below.refl _ _).alloc (by simp) _).trans (hb3.mono (by simp))
  clear hb3
  have hcell5 := hb3'.cell (p := ⟨w.heap.size, 5, none⟩) (by simp)
  go_wp2_with fail
  clear hcell5
  go_loopw [3, 4] (fun ss si wr => ∃ (i : Nat) (x : List UInt8), i ≤ l.length ∧ ss = .string (bstr x) ∧ si = .int .i64 i ∧ Hid (x = kby 5 :: ((twoS l.length).data.toList ++ bysL (l.take i))) ∧ Below (w.heap.size + 1) (w.alloc (.cells #[.int .i64 5, .bool b0, .int .i64 n, .float .f64 f, .string s, .slice A l.length cap] 25)) wr) (fun _ si _ => l.length - (intOf si).toNat)
  case atStart => exact ⟨0, _, by omega, rfl, rfl, (by show _ = _; simp [bysL]), hb3'⟩
  case round =>
    obtain ⟨i, x, hi, rfl, rfl, HXX, hbr⟩ := hrel
    have hb := bel1 hbr
    have hz1 : w.heap.size + 1 ≤ wr.heap.size := by have := hbr.size; simpa using this
    have hcell5 := hbr.cell (p := ⟨w.heap.size, 5, none⟩) (by simp)
    by_cases hlt : i < l.length
    · obtain ⟨a, k', b', q0, f', s', q, D, capi, rfl, hab, hx, hrd, e0, e1, e2, e3, e4, e5⟩ := (hl.on hb).item hlt
      have Hx := Lib.hid hx; clear hx
      have IHi := Lib.hid (IH.out i hlt)
      have hle := bysL_len (l := l) (i := i + 1) (by omega)
      have hsn := bysL_snoc hlt
      rw [hsn, List.length_append] at hle
      have Hsn := Lib.hid hsn; clear hsn
      have hxl : x.length = 3 + (bysL (l.take i)).length := by rw [HXX.out, List.length_cons, List.length_append, twoS_len]; omega
      have hadd3 := add_run (P := Tryd.prog) x (bys l[i]) (by omega)
      have hll : (bys l[i]).length ≤ 140737488355328 := by omega
      have Hxl := Lib.hid hxl; clear hxl
      have HX2 : Hid (x ++ bys l[i] = kby 5 :: ((twoS l.length).data.toList ++ bysL (l.take (i + 1)))) := by
        show _ = _; rw [HXX.out, Hsn.out]; simp
      go_wp2_with fail
      refine (IHi.out _ _ hrd hll).mono ?_
      rintro e w2 ⟨rfl, hb5⟩
      have hb6 := hbr.trans (hb5.mono hz1)
      clear hcell5
      go_wp2_with fail
      go_roundw
      case rel => exact ⟨i + 1, _, by omega, rfl, by go_num, HX2, hb6⟩
      case measure => simp [intOf]; omega
    · have HX2 : Hid (x = kby 5 :: ((twoS l.length).data.toList ++ bysL l)) := by
        show _ = _; rw [HXX.out, List.take_of_length_le (by omega)]
      go_wp2_with fail
      go_ret
      exact ⟨by rw [← HX2.out]; rfl, hb⟩

set_option maxRecDepth 100000 in
theorem rput_map (n : Int) (b0 : Bool) (f : Nat) (s : ByteArray) (l : List T) (v : Value) (w : World) (ih : ∀ i (hi : i < l.length), RPutAt l[i]) (h : Rd w w.heap.size (.mk 6 b0 n f s l) v) (hlen : (bys (.mk 6 b0 n f s l)).length ≤ 140737488355328) :
    Calls Tryd.prog 6 #[v] w fun e w' => e = .returned (.string (bstr (bys (.mk 6 b0 n f s l)))) ∧ Below w.heap.size w w' := by
  have HE := Lib.hid (show bys (.mk 6 b0 n f s l) = kby 6 :: ((twoS l.length).data.toList ++ bysL l) by rw [bys]; simp)
  rw [HE.out] at hlen ⊢
  have IH := Lib.hid ih; clear ih
  obtain ⟨A, cap, rfl, hk, hn, hf, hs, hc, hm, hA, hl⟩ := h.open
  have Hn := Lib.hid hn; have Hf := Lib.hid hf
  have hm2 := hm.2
  clear hk hn hf hc hA hm h
  have hbox := (Below.refl w.heap.size w).alloc (Nat.le_refl _) (.cells #[.int .i64 6, .bool b0, .int .i64 n, .float .f64 f, .string s, .slice A l.length cap] 25)
  have hcv := conv_cells (P := Tryd.prog) 47 5 9 Tryd.underlying47 Tryd.underlying5 Tryd.underlying9 (w.alloc (.cells #[.int .i64 6, .bool b0, .int .i64 n, .float .f64 f, .string s, .slice A l.length cap] 25)) 5 [(6 : Int)] 1
  simp only [List.length_cons, List.length_nil, List.map_cons, List.map_nil, Nat.zero_add, World.size_alloc] at hcv
  rw [show strOfNums [(6 : Int)] = bstr [kby 6] from rfl] at hcv
  have hb2 := hbox.alloc hbox.size (.cells #[.int .u8 (6 : Int)] 5)
  have h8 := twoS_len l.length
  have Hlen := Lib.hid hlen
  simp only [List.length_cons, List.length_append, h8] at hlen
  have hadd := add_run (P := Tryd.prog) [kby 6] (twoS l.length).data.toList (by rw [h8]; simp)
  rw [show bstr (twoS l.length).data.toList = twoS l.length from rfl] at hadd
  simp only [List.cons_append, List.nil_append] at hadd
  have HX := Lib.hid (Blk.new w 25 #[.int .i64 6, .bool b0, .int .i64 n, .float .f64 f, .string s, .slice A l.length cap])
  go_enter Tryd.func6, Tryd.ntmps6
  go_wp2_with fail
  refine (rtwoS_any l.length _ (by omega)).mono ?_
  rintro e w1 ⟨rfl, hb3⟩
  have hb4 := hb2.trans (hb3.mono hb2.size)
  have hb3' : Below (w.heap.size + 1) (w.alloc (.cells #[.int .i64 6, .bool b0, .int .i64 n, .float .f64 f, .string s, .slice A l.length cap] 25)) w1 := ((Below.refl _ _).alloc (by simp) _).trans (hb3.mono (by simp))
  clear hb3
  have hcell5 := hb3'.cell (p := ⟨w.heap.size, 5, none⟩) (by simp)
  go_wp2_with fail
  clear hcell5
  go_loopw [3, 4] (fun ss si wr => ∃ (i : Nat) (x : List UInt8), i ≤ l.length ∧ ss = .string (bstr x) ∧ si = .int .i64 i ∧ Hid (x = kby 6 :: ((twoS l.length).data.toList ++ bysL (l.take i))) ∧ Below (w.heap.size + 1) (w.alloc (.cells #[.int .i64 6, .bool b0, .int .i64 n, .float .f64 f, .string s, .slice A l.length cap] 25)) wr) (fun _ si _ => l.length - (intOf si).toNat)
  case atStart => exact ⟨0, _, by omega, rfl, rfl, (by show _ = _; simp [bysL]), hb3'⟩
  case round =>
    obtain ⟨i, x, hi, rfl, rfl, HXX, hbr⟩ := hrel
    have hb := bel1 hbr
    have hz1 : w.heap.size + 1 ≤ wr.heap.size := by have := hbr.size; simpa using this
    have hcell5 := hbr.cell (p := ⟨w.heap.size, 5, none⟩) (by simp)
    by_cases hlt : i < l.length
    · obtain ⟨a, k', b', q0, f', s', q, D, capi, rfl, hab, hx, hrd, e0, e1, e2, e3, e4, e5⟩ := (hl.on hb).item hlt
      have Hx := Lib.hid hx; clear hx
      have IHi := Lib.hid (IH.out i hlt)
      have hle := bysL_len (l := l) (i := i + 1) (by omega)
      have hsn := bysL_snoc hlt
      rw [hsn, List.length_append] at hle
      have Hsn := Lib.hid hsn; clear hsn
      have hxl : x.length = 3 + (bysL (l.take i)).length := by rw [HXX.out, List.length_cons, List.length_append, twoS_len]; omega
      have hadd3 := add_run (P := Tryd.prog) x (bys l[i]) (by omega)
      have hll : (bys l[i]).length ≤ 140737488355328 := by omega
      have Hxl := Lib.hid hxl; clear hxl
      have HX2 : Hid (x ++ bys l[i] = kby 6 :: ((twoS l.length).data.toList ++ bysL (l.take (i + 1)))) := by
        show _ = _; rw [HXX.out, Hsn.out]; simp
      go_wp2_with fail
      refine (IHi.out _ _ hrd hll).mono ?_
      rintro e w2 ⟨rfl, hb5⟩
      have hb6 := hbr.trans (hb5.mono hz1)
      clear hcell5
      go_wp2_with fail
      go_roundw
      case rel => exact ⟨i + 1, _, by omega, rfl, by go_num, HX2, hb6⟩
      case measure => simp [intOf]; omega
    · have HX2 : Hid (x = kby 6 :: ((twoS l.length).data.toList ++ bysL l)) := by
        show _ = _; rw [HXX.out, List.take_of_length_le (by omega)]
      go_wp2_with fail
      go_ret
      exact ⟨by rw [← HX2.out]; rfl, hb⟩

theorem rput_at (t : T) : RPutAt t := by
  induction t using T.ind with | h k b0 n f s l ih => _
  intro v w h hlen
  by_cases k1 : k = 1
  · subst k1
    cases b0
    · exact rput_bool_f n f s l v w h
    · exact rput_bool_t n f s l v w h
  by_cases k2 : k = 2
  · subst k2; exact rput_int n b0 f s l v w h
  by_cases k3 : k = 3
  · subst k3; exact rput_float n b0 f s l v w h
  by_cases k4 : k = 4
  · subst k4; exact rput_text n b0 f s l v w h
  by_cases k5 : k = 5
  · subst k5; exact rput_list n b0 f s l v w ih h hlen
  by_cases k6 : k = 6
  · subst k6; exact rput_map n b0 f s l v w ih h hlen
  by_cases k7 : k = 7
  · subst k7; exact rput_vertex n b0 f s l v w h
  by_cases k8 : k = 8
  · subst k8; exact rput_edge n b0 f s l v w h
  · exact rput_other k n b0 f s l v w k1 k2 k3 k4 k5 k6 k7 k8 h

end Go.Proofs.YtgmjhoppjjjilaaDoor
