/- val.Get, at any tree that may be -/
import Derived.Test.YtaonlbmicjoclaaGetH
import Derived.Test.YtaonlbmicjoclaaGetQ
import Derived.Test.YtaonlbmicjoclaaPutR
namespace Go.Proofs.Ytaonlbmicjoclaa
open Go.ChangeShapes Go.WideShapes Go.ChangeAt Go.RowKit Go.Fl

/-- at a map -/
theorem get_map (n : Int) (b : Bool) (f : Nat) (s : ByteArray) (l : List T) (ih : ∀ i (hi : i < l.length), GetAt l[i]) : GetAt (.mk 6 b n f s l) := by
  intro d rest S w hc hS hl
  obtain ⟨hd, hsh, hs, hlen, hL, hris⟩ := chk_parts hc
  obtain ⟨k0, k8, sb, sn, sn1, sf, ss, sl⟩ := shp_parts hsh
  have hd' : ((d : Nat) : Int) ≤ 13 := by omega
  have hbys := bys.eq_1 6 b n f s l
  obtain ⟨g0, hk⟩ := head_at (k := 6) (S := S) (x := bys (.mk 6 b n f s l) ++ rest) (by rw [hbys]; rfl) k0 k8 hS
  have hcn : cnT (.mk 6 b n f s l) = .mk 6 b n (canonN f) s (l.map cnT) := by rw [cnT, cnL_map]
  obtain rfl : b = false := by cases b <;> simp_all
  obtain rfl : n = 0 := by false_or_by_contra; have := sn ‹_›; omega
  obtain rfl : f = 0 := by false_or_by_contra; have := sf ‹_›; omega
  obtain rfl : s = ⟨#[]⟩ := empty_of (by false_or_by_contra; have := ss ‹_›; omega)
  rw [canon0] at hcn
  have hb' : bys (.mk 6 false 0 0 ⟨#[]⟩ l) = kby 6 :: ((twoS l.length).data.toList ++ bysL l) := by rw [hbys]; rfl
  have hbl : (bys (.mk 6 false 0 0 ⟨#[]⟩ l)).length = 3 + (bysL l).length := by rw [hb', List.length_cons, List.length_append, twoL_len]; omega
  refine (get_thr_6 S d w false 0 0 ⟨#[]⟩ l.length (3 + (bysL l).length) (fun p c w2 => l.length ≤ c ∧ c ≤ 9223372036854775807 ∧ (p = none → c = 0) ∧ RdXL w2 (w.heap.size + 1) w2.heap.size (l.map cnT) p) hd' g0 (by omega) ?_).mono ?_
  · refine (getParts_6 l d ih hd (chkL_all hL) hlen (hris rfl) rest S _ (by rw [← hS, hb', List.cons_append, List.append_assoc]) hl).mono ?_
    rintro e w' ⟨p, c, rfl, h1, hb⟩
    exact ⟨p, c, rfl, by simpa using h1, by simpa using hb⟩
  · rintro e w' ⟨p, c, w2, rfl, ⟨h1, h2, h3, h4⟩, hb, hq, hz⟩
    refine ⟨_, by rw [hbl], ?_, hb⟩
    rw [hcn]
    have := RdX.of (w := w') (L := w.heap.size) (B := w'.heap.size) (k := 6) (b := false) (n := 0) (f := 0) (s := ⟨#[]⟩) (l := l.map cnT) p c (by decide) (by decide) (by decide) (by decide) (by simpa using h1) ⟨h2, by rw [List.length_map]; omega⟩ h3
      (h4.keep (fun q hq1 _ => hq q (by omega)) (by omega) (by omega))
    simpa using this

theorem get_at (t : T) : (∃ w B v, Rd w B t v) → GetAt t := by
  induction t using T.ind with | h k b n f s l ih => _
  rintro ⟨w, B, v, h⟩
  obtain ⟨A, cap, rfl, hk, hn, hf, hs, hc, hm, hA, hl⟩ := h.open
  have ih' : ∀ i (hi : i < l.length), GetAt l[i] := fun i hi => by obtain ⟨a, u, -, -, -, hu⟩ := hl i hi; exact ih i hi ⟨w, B, u, hu⟩
  by_cases h5 : k = 5
  · subst h5; exact get_list n b f s l ih'
  by_cases h6 : k = 6
  · subst h6; exact get_map n b f s l ih'
  · exact get_leaf k b n f s l hn hf h5 h6

theorem chkF_parts {t : T} (h : chkF t = 0) : tot t ≤ 60000 ∧ chkT t 1 = 0 := by
  have ht := chk_tot h
  unfold chkF at h
  rw [if_neg (by omega)] at h
  exact ⟨ht, h⟩

set_option maxRecDepth 100000 in
theorem vget_any {t : T} (ht : ∃ w B v, Rd w B t v) (hc : chkF t = 0) (rest : List UInt8) (S : ByteArray) (w : World) (hS : bst (bys t ++ rest) = S) (hl : S.size ≤ 140737488351000) :
    Calls Try.prog 14 #[.string S] w fun e w' => ∃ v', e = .returned (.tuple #[v', .int .i64 ((bys t).length : Nat), .int .i64 0]) ∧ RdX w' w.heap.size w'.heap.size (cnT t) v' ∧ Below w.heap.size w w' := by
  obtain ⟨htot, hchk⟩ := chkF_parts hc
  have hbt := bys_tot t
  have hget : ∀ w : World, Calls Try.prog 30 #[.string S, .int .i64 1] w fun e w' => ∃ v', e = .returned (.tuple #[v', .int .i64 ((bys t).length : Nat), .int .i64 0]) ∧ RdX w' w.heap.size w'.heap.size (cnT t) v' ∧ Below w.heap.size w w' :=
    fun w => get_at t ht 1 rest S w hchk hS hl
  obtain ⟨k, b, n, f, s, q, hk⟩ : ∃ k b n f s q, cnT t = .mk k b n f s q := by rcases t with ⟨k, b, n, f, s, q⟩; exact ⟨_, _, _, _, _, _, by rw [cnT]⟩
  obtain ⟨m, hm⟩ : ∃ m, (bys t).length = m := ⟨_, rfl⟩
  rw [hk] at hget ⊢
  rw [hm] at hget hbt ⊢
  have hm6 : m ≤ 60000 := by omega
  have Hget := Lib.hid hget
  clear hget hk hm hbt htot hchk hc hS ht hl
  go_enter Try.func14, Try.ntmps14
  go_wp2_with fail
  refine (Hget.out _).mono ?_
  rintro e w1 ⟨v', rfl, hv, hb1⟩
  obtain ⟨A, cap, rfl, -⟩ := hv.open
  have hb2 := (Below.refl w.heap.size w).alloc (Nat.le_refl _) (.cells #[.int .i64 0, .bool false, .int .i64 0, .float .f64 0, .string ⟨#[]⟩, .slice none 0 0] 26)
  have hbox : Blk w1 w.heap.size 26 #[.int .i64 0, .bool false, .int .i64 0, .float .f64 0, .string ⟨#[]⟩, .slice none 0 0] := Blk.below (Blk.new w _ _) hb1 (by simp)
  have hs1 := hb1.size
  simp only [World.size_alloc] at hs1
  have hbw := (hb2.trans (hb1.mono hb2.size)).alloc (by omega) (.cells #[.int .i64 k, .bool b, .int .i64 n, .float .f64 f, .string s, .slice A q.length cap] 26)
  have hbox' : Blk (w1.alloc (.cells #[.int .i64 k, .bool b, .int .i64 n, .float .f64 f, .string s, .slice A q.length cap] 26)) w.heap.size 26 _ := hbox.below ((Below.refl w1.heap.size w1).alloc (Nat.le_refl _) _) hbox.lt
  have Hfin := Lib.hid (set6_load hbox' (by simp) (.int .i64 k) (.bool b) (.int .i64 n) (.float .f64 f) (.string s) (.slice A q.length cap))
  have hv2 := Lib.hid hv
  have d0 := (hbox'.cell 0).trans (show _ = some (.int .i64 0) from rfl)
  have d1 := (hbox'.cell 1).trans (show _ = some (.bool false) from rfl)
  have d2 := (hbox'.cell 2).trans (show _ = some (.int .i64 0) from rfl)
  have d3 := (hbox'.cell 3).trans (show _ = some (.float .f64 0) from rfl)
  have d4 := (hbox'.cell 4).trans (show _ = some (.string ⟨#[]⟩) from rfl)
  have d5 := (hbox'.cell 5).trans (show _ = some (.slice none 0 0) from rfl)
  have zd0 := hbox'.frozen 0
  have zd1 := hbox'.frozen 1
  have zd2 := hbox'.frozen 2
  have zd3 := hbox'.frozen 3
  have zd4 := hbox'.frozen 4
  have zd5 := hbox'.frozen 5
  clear hbox hbox' hv hb1
  go_wp2_with fail
  have hbe := set6_below hbw (g := w.heap.size) (by simp) (o := 0) (.int .i64 k) (.bool b) (.int .i64 n) (.float .f64 f) (.string s) (.slice A q.length cap)
  obtain ⟨f0, f1, f2, f3, f4, f5⟩ := Hfin.out
  refine bodyPost_ret (v := .tuple #[.agg #[.int .i64 k, .bool b, .int .i64 n, .float .f64 f, .string s, .slice A q.length cap], .int .i64 (m : Nat), .int .i64 0]) (by simp [results, Try.results14, go_sem, f0, f1, f2, f3, f4, f5]) rfl ⟨_, rfl, ?_, hbe⟩
  refine hv2.out.keep (fun p hp1 hp2 => ?_) (by simp) (by simp [World.setCell])
  simp only [World.size_alloc] at hp1
  refine (World.cell?_of_block (set6_far (.int .i64 k) (.bool b) (.int .i64 n) (.float .f64 f) (.string s) (.slice A q.length cap) (by omega))).trans ?_
  exact ((Below.refl w1.heap.size w1).alloc (Nat.le_refl _) _).cell hp2

end Go.Proofs.Ytaonlbmicjoclaa
