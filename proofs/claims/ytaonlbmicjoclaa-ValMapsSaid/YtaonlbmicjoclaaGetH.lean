/- val.get at a leaf, and at a list, as trees -/
import Derived.Test.YtaonlbmicjoclaaChkM
import Derived.Test.YtaonlbmicjoclaaGetB
import Derived.Test.YtaonlbmicjoclaaGetC
import Derived.Test.YtaonlbmicjoclaaGetF
import Derived.Test.YtaonlbmicjoclaaGetG
import Derived.Test.YtaonlbmicjoclaaGetP
namespace Go.Proofs.Ytaonlbmicjoclaa
open Go.ChangeShapes Go.WideShapes Go.ChangeAt Go.RowKit Go.Fl

/-- what get answers at a leaf, as a tree -/
theorem leaf_from {k : Int} {b : Bool} {n : Int} {f : Nat} {s : ByteArray} {t : T} {S : ByteArray} {d : Int} {w : World} {sz : Nat} (ht : cnT t = .mk k b n f s []) (hk : is64 k = true) (hn : is64 n = true) (hf : f < 18446744073709551616) (hs : s.size ≤ 140737488351232) (hlen : (bys t).length = sz)
    (h : Calls Try.prog 30 #[.string S, .int .i64 d] w fun e w' => ∃ (p : Option Addr) (c : Nat) (w2 : World), e = .returned (.tuple #[.agg #[.int .i64 k, .bool b, .int .i64 n, .float .f64 f, .string s, .slice p 0 c], .int .i64 (sz : Nat), .int .i64 0]) ∧ (p = none ∧ c = 0) ∧ Below w.heap.size w w' ∧ (∀ q : Addr, q.block ≠ w.heap.size → w'.cell? q = w2.cell? q) ∧ w'.heap.size = w2.heap.size) :
    Calls Try.prog 30 #[.string S, .int .i64 d] w fun e w' => ∃ v', e = .returned (.tuple #[v', .int .i64 ((bys t).length : Nat), .int .i64 0]) ∧ RdX w' w.heap.size w'.heap.size (cnT t) v' ∧ Below w.heap.size w w' := by
  refine h.mono ?_
  rintro e w' ⟨p, c, w2, rfl, ⟨rfl, rfl⟩, hb, -, -⟩
  exact ⟨_, by rw [hlen], by rw [ht]; exact RdX.leaf w' _ _ k b n f s hk hn hf hs, hb⟩

/-- a contract of a leaf's reader, as get calls it -/
theorem leaf_call {F : FuncId} {args : Array Value} {w : World} {o : Obj} {k : Int} {b : Bool} {n : Int} {f : Nat} {s : ByteArray} {sz : Nat} {z : Int} (hz : z = (sz : Nat))
    (h : Calls Try.prog F args (w.alloc o) fun e w' => e = .returned (.tuple #[valV k b n f s, .int .i64 z, .int .i64 0]) ∧ Below (w.alloc o).heap.size (w.alloc o) w') :
    Calls Try.prog F args (w.alloc o) fun e w' => ∃ p c, e = .returned (.tuple #[.agg #[.int .i64 k, .bool b, .int .i64 n, .float .f64 f, .string s, .slice p 0 c], .int .i64 (sz : Nat), .int .i64 0]) ∧ (p = none ∧ c = 0) ∧ Below (w.heap.size + 1) (w.alloc o) w' := by
  refine h.mono ?_
  rintro e w' ⟨rfl, hb⟩
  exact ⟨none, 0, by rw [hz]; rfl, ⟨rfl, rfl⟩, by simpa using hb⟩

theorem canon0 : canonN 0 = 0 := by decide

/-- the first byte -/
theorem head_at {x : List UInt8} {k : Int} {S : ByteArray} {r : List UInt8} (hx : x = kby k :: r) (hk0 : 0 ≤ k) (hk : k ≤ 8) (hS : bst x = S) : ∃ g0 : 0 < S.size, ((S[0]'g0).toNat : Int) = k := by
  obtain ⟨g, e⟩ := bst_get hS (i := 0) (u := kby k) (by rw [hx]; rfl)
  exact ⟨g, by rw [e, ← kby_eq]; omega⟩

theorem empty_of {s : ByteArray} (h : s.toList = []) : s = ⟨#[]⟩ := by
  have e : s.toList = s.data.toList := Lib.toList_data s
  rw [e] at h
  apply ByteArray.ext
  simpa using h

/-- at a leaf -/
theorem get_leaf (k : Int) (b : Bool) (n : Int) (f : Nat) (s : ByteArray) (l : List T) (hn : is64 n = true) (hf : f < 18446744073709551616) (h5 : k ≠ 5) (h6 : k ≠ 6) : GetAt (.mk k b n f s l) := by
  intro d rest S w hc hS hl
  obtain ⟨hd, hsh, hs, -, -, -⟩ := chk_parts hc
  obtain ⟨k0, k8, sb, sn, sn1, sf, ss, sl⟩ := shp_parts hsh
  obtain rfl : l = [] := by
    rcases l with _ | ⟨t, r⟩
    · rfl
    · have := sl (by simp); omega
  have hd' : ((d : Nat) : Int) ≤ 13 := by omega
  have hsz : S.size = (bys (.mk k b n f s [])).length + rest.length := by rw [← hS, bst_size, List.length_append]
  have hbys := bys.eq_1 k b n f s []
  obtain ⟨g0, hk⟩ := head_at (k := k) (S := S) (x := bys (.mk k b n f s []) ++ rest) (by rw [hbys]; rfl) k0 k8 hS
  have hcn : cnT (.mk k b n f s []) = .mk k b n (canonN f) s [] := by rw [cnT, cnL]
  have hk64 : is64 k = true := is64_yes (by omega) (by omega)
  have hs6 : s.size ≤ 140737488351232 := by omega
  by_cases e0 : k = 0
  · subst e0
    obtain rfl : b = false := by cases b <;> simp_all
    obtain rfl : n = 0 := by false_or_by_contra; have := sn ‹_›; omega
    obtain rfl : f = 0 := by false_or_by_contra; have := sf ‹_›; omega
    obtain rfl : s = ⟨#[]⟩ := empty_of (by false_or_by_contra; have := ss ‹_›; omega)
    rw [canon0] at hcn
    refine leaf_from (sz := 1) hcn hk64 hn hf hs6 (by rw [hbys]; rfl) (get_thr_0 S d w false 0 0 ⟨#[]⟩ 0 1 (fun p c _ => p = none ∧ c = 0) hd' g0 (by omega) rfl ?_)
    refine (vnone_any _).mono ?_
    rintro e w' ⟨rfl, hb⟩
    exact ⟨none, 0, rfl, ⟨rfl, rfl⟩, by simpa using hb⟩
  by_cases e1 : k = 1
  · subst e1
    obtain rfl : n = 0 := by false_or_by_contra; have := sn ‹_›; omega
    obtain rfl : f = 0 := by false_or_by_contra; have := sf ‹_›; omega
    obtain rfl : s = ⟨#[]⟩ := empty_of (by false_or_by_contra; have := ss ‹_›; omega)
    rw [canon0] at hcn
    have hlen : (bys (.mk 1 b 0 0 ⟨#[]⟩ [])).length = 2 := by rw [hbys]; rfl
    refine leaf_from (sz := 2) hcn hk64 hn hf hs6 hlen (get_thr_1 S d w b 0 0 ⟨#[]⟩ 0 2 (fun p c _ => p = none ∧ c = 0) hd' g0 (by omega) (leaf_call (z := 2) (by decide) ?_))
    cases b
    · exact getBool_f rest S _ (by omega) (by rw [← hS, hbys]; rfl)
    · exact getBool_t rest S _ (by omega) (by rw [← hS, hbys]; rfl)
  by_cases e2 : k = 2
  · subst e2
    obtain rfl : b = false := by cases b <;> simp_all
    obtain rfl : f = 0 := by false_or_by_contra; have := sf ‹_›; omega
    obtain rfl : s = ⟨#[]⟩ := empty_of (by false_or_by_contra; have := ss ‹_›; omega)
    rw [canon0] at hcn
    have hb' : bys (.mk 2 false n 0 ⟨#[]⟩ []) = kby 2 :: eightL (word n) := by rw [hbys]; rfl
    have hlen : (bys (.mk 2 false n 0 ⟨#[]⟩ [])).length = 9 := by rw [hb', List.length_cons, eightL_len]
    refine leaf_from (sz := 9) hcn hk64 hn hf hs6 hlen (get_thr_2 S d w false n 0 ⟨#[]⟩ 0 9 (fun p c _ => p = none ∧ c = 0) hd' g0 (by omega) (leaf_call (z := 9) (by decide) ?_))
    exact getNumber_int n rest S _ (by omega) hn (by rw [← hS, hb']; rfl)
  by_cases e3 : k = 3
  · subst e3
    obtain rfl : b = false := by cases b <;> simp_all
    obtain rfl : n = 0 := by false_or_by_contra; have := sn ‹_›; omega
    obtain rfl : s = ⟨#[]⟩ := empty_of (by false_or_by_contra; have := ss ‹_›; omega)
    have hb' : bys (.mk 3 false 0 f ⟨#[]⟩ []) = kby 3 :: eightL (canonN f) := by rw [hbys]; rfl
    have hlen : (bys (.mk 3 false 0 f ⟨#[]⟩ [])).length = 9 := by rw [hb', List.length_cons, eightL_len]
    refine leaf_from (sz := 9) hcn hk64 hn (canonN_lt f hf) hs6 hlen (get_thr_3 S d w false 0 (canonN f) ⟨#[]⟩ 0 9 (fun p c _ => p = none ∧ c = 0) hd' g0 (by omega) (leaf_call (z := 9) (by decide) ?_))
    exact getNumber_float f rest S _ (by omega) hf (by rw [← hS, hb']; rfl)
  by_cases e4 : k = 4
  · subst e4
    obtain rfl : b = false := by cases b <;> simp_all
    obtain rfl : n = 0 := by false_or_by_contra; have := sn ‹_›; omega
    obtain rfl : f = 0 := by false_or_by_contra; have := sf ‹_›; omega
    rw [canon0] at hcn
    have hb' : bys (.mk 4 false 0 0 s []) = kby 4 :: ((twoS s.size).data.toList ++ s.data.toList) := by rw [hbys]; rfl
    have hsd : s.data.toList.length = s.size := rfl
    have hlen : (bys (.mk 4 false 0 0 s [])).length = 3 + s.size := by rw [hb', List.length_cons, List.length_append, twoL_len, hsd]; omega
    refine leaf_from (sz := 3 + s.size) hcn hk64 hn hf hs6 hlen (get_thr_4 S d w false 0 0 s 0 (3 + s.size) (fun p c _ => p = none ∧ c = 0) hd' g0 (by omega) (leaf_call rfl ?_))
    exact getText_any s rest S _ hs (by omega) (by rw [← hS, hb', List.cons_append, List.append_assoc])
  have e78 : k = 7 ∨ k = 8 := by omega
  obtain rfl : b = false := by cases b; rfl; have := sb rfl; omega
  obtain rfl : f = 0 := by false_or_by_contra; have := sf ‹_›; omega
  obtain rfl : s = ⟨#[]⟩ := empty_of (by false_or_by_contra; have := ss ‹_›; omega)
  rw [canon0] at hcn
  have hn1 : decide (n < 1) = false := by have := sn1 e78; simp; omega
  rcases e78 with rfl | rfl
  · have hb' : bys (.mk 7 false n 0 ⟨#[]⟩ []) = kby 7 :: eightL (word n) := by rw [hbys]; rfl
    have hlen : (bys (.mk 7 false n 0 ⟨#[]⟩ [])).length = 9 := by rw [hb', List.length_cons, eightL_len]
    refine leaf_from (sz := 9) hcn hk64 hn hf hs6 hlen (get_thr_7 S d w false n 0 ⟨#[]⟩ 0 9 (fun p c _ => p = none ∧ c = 0) hd' g0 (by omega) (leaf_call (z := 9) (by decide) ?_))
    exact getNumber_vertex n rest S _ (by omega) hn hn1 (by rw [← hS, hb']; rfl)
  · have hb' : bys (.mk 8 false n 0 ⟨#[]⟩ []) = kby 8 :: eightL (word n) := by rw [hbys]; rfl
    have hlen : (bys (.mk 8 false n 0 ⟨#[]⟩ [])).length = 9 := by rw [hb', List.length_cons, eightL_len]
    refine leaf_from (sz := 9) hcn hk64 hn hf hs6 hlen (get_thr_8 S d w false n 0 ⟨#[]⟩ 0 9 (fun p c _ => p = none ∧ c = 0) hd' g0 (by omega) (leaf_call (z := 9) (by decide) ?_))
    exact getNumber_edge n rest S _ (by omega) hn hn1 (by rw [← hS, hb']; rfl)

/-- at a list -/
theorem get_list (n : Int) (b : Bool) (f : Nat) (s : ByteArray) (l : List T) (ih : ∀ i (hi : i < l.length), GetAt l[i]) : GetAt (.mk 5 b n f s l) := by
  intro d rest S w hc hS hl
  obtain ⟨hd, hsh, hs, hlen, hL, -⟩ := chk_parts hc
  obtain ⟨k0, k8, sb, sn, sn1, sf, ss, sl⟩ := shp_parts hsh
  have hd' : ((d : Nat) : Int) ≤ 13 := by omega
  have hbys := bys.eq_1 5 b n f s l
  obtain ⟨g0, hk⟩ := head_at (k := 5) (S := S) (x := bys (.mk 5 b n f s l) ++ rest) (by rw [hbys]; rfl) k0 k8 hS
  have hcn : cnT (.mk 5 b n f s l) = .mk 5 b n (canonN f) s (l.map cnT) := by rw [cnT, cnL_map]
  obtain rfl : b = false := by cases b <;> simp_all
  obtain rfl : n = 0 := by false_or_by_contra; have := sn ‹_›; omega
  obtain rfl : f = 0 := by false_or_by_contra; have := sf ‹_›; omega
  obtain rfl : s = ⟨#[]⟩ := empty_of (by false_or_by_contra; have := ss ‹_›; omega)
  rw [canon0] at hcn
  have hb' : bys (.mk 5 false 0 0 ⟨#[]⟩ l) = kby 5 :: ((twoS l.length).data.toList ++ bysL l) := by rw [hbys]; rfl
  have hbl : (bys (.mk 5 false 0 0 ⟨#[]⟩ l)).length = 3 + (bysL l).length := by rw [hb', List.length_cons, List.length_append, twoL_len]; omega
  refine (get_thr_5 S d w false 0 0 ⟨#[]⟩ l.length (3 + (bysL l).length) (fun p c w2 => l.length ≤ c ∧ c ≤ 9223372036854775807 ∧ (p = none → c = 0) ∧ RdXL w2 (w.heap.size + 1) w2.heap.size (l.map cnT) p) hd' g0 (by omega) ?_).mono ?_
  · refine (getParts_5 l d ih hd (chkL_all hL) hlen rest S _ (by rw [← hS, hb', List.cons_append, List.append_assoc]) hl).mono ?_
    rintro e w' ⟨p, c, rfl, h1, hb⟩
    exact ⟨p, c, rfl, by simpa using h1, by simpa using hb⟩
  · rintro e w' ⟨p, c, w2, rfl, ⟨h1, h2, h3, h4⟩, hb, hq, hz⟩
    refine ⟨_, by rw [hbl], ?_, hb⟩
    rw [hcn]
    have := RdX.of (w := w') (L := w.heap.size) (B := w'.heap.size) (k := 5) (b := false) (n := 0) (f := 0) (s := ⟨#[]⟩) (l := l.map cnT) p c (by decide) (by decide) (by decide) (by decide) (by simpa using h1) ⟨h2, by rw [List.length_map]; omega⟩ h3
      (h4.keep (fun q hq1 _ => hq q (by omega)) (by omega) (by omega))
    simpa using this

end Go.Proofs.Ytaonlbmicjoclaa
