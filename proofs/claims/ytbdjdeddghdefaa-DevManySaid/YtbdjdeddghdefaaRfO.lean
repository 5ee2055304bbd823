/- both.same (written by tools/laws03s.py) -/
import Derived.Test.YtbdjdeddghdefaaRfN
import Derived.Deep.QuietTactic
import Derived.BigQuiet
namespace Go.Proofs.Ytbdjdeddghdefaa
open Go.ChangeShapes Go.WideShapes Go.ChangeAt Go.RowKit

section
variable {n : Nat} {a w : World} {B S M : Nat} {d : Dv} {v : Value} {F : List Fal}

theorem quiet_same {P : Program} {f : FuncId} {args : Array Value} {w : World} {n : Nat} {v : Value}
    (h : Calls P f args (w.drewN n) fun e w' => e = .returned v ∧ w.drewN n = w') : Calls P f args (w.drewN n) fun e w'' => e = .returned v ∧ ∃ m, w'' = w.drewN m :=
  h.mono fun _ _ ⟨he, hm⟩ => ⟨he, n, hm.symm⟩

theorem same_meas (l j : Int) (h : j ≤ l) : (l + 1 - (j + 1)).toNat < (l + 1 - j).toNat := by omega

set_option maxHeartbeats 4000000 in
set_option maxRecDepth 100000 in
theorem same_any (h : Two n a w B S M d v d F) : Calls Try.prog 14 #[bothV B v] w fun ex w' => ex = .returned (.bool true) ∧ Two n a w' B S M d v d F ∧ Only (dev3 B S M) w w' := by
  obtain ⟨A, c, L, e, C, f, rfl⟩ := h.ref.open_
  have hle : d.sure.length ≤ 65536 := h.fit.sure
  obtain ⟨n0, hn0⟩ : ∃ q, d.sure.length = q := ⟨_, rfl⟩
  obtain ⟨n1, hn1⟩ : ∃ q, d.loose.length = q := ⟨_, rfl⟩
  obtain ⟨n3, hn3⟩ : ∃ q, F.length = q := ⟨_, rfl⟩
  obtain ⟨st, hst⟩ : ∃ q, d.steps = q := ⟨_, rfl⟩
  obtain ⟨o, ho⟩ : ∃ q, d.off = q := ⟨_, rfl⟩
  have b1 := (Below.refl w.heap.size w).alloc (Nat.le_refl _) (.cells #[.pointer (some ⟨B, 0, none⟩), .slice A n0 c, .slice L n1 e, .int .i64 st, .slice C n3 f, .bool o] 34)
  have hrow := heap_alloc_last w (.cells #[.pointer (some ⟨B, 0, none⟩), .slice A n0 c, .slice L n1 e, .int .i64 st, .slice C n3 f, .bool o] 34)
  rw [hn0, hn1, hn3, hst, ho] at h ⊢
  rw [hn0] at hle
  have h1 := h.on b1
  have hof : Only (dev3 B S M) w (w.alloc (.cells #[.pointer (some ⟨B, 0, none⟩), .slice A n0 c, .slice L n1 e, .int .i64 st, .slice C n3 f, .bool o] 34)) := Only.of_below b1
  have HO := fun k => Lib.hid (two_off (h1.on (rf_drewN (w.alloc (.cells #[.pointer (some ⟨B, 0, none⟩), .slice A n0 c, .slice L n1 e, .int .i64 st, .slice C n3 f, .bool o] 34)) k)))
  have HS := fun k => Lib.hid (two_steps (h1.on (rf_drewN (w.alloc (.cells #[.pointer (some ⟨B, 0, none⟩), .slice A n0 c, .slice L n1 e, .int .i64 st, .slice C n3 f, .bool o] 34)) k)))
  have HL := fun k => Lib.hid (two_loose (h1.on (rf_drewN (w.alloc (.cells #[.pointer (some ⟨B, 0, none⟩), .slice A n0 c, .slice L n1 e, .int .i64 st, .slice C n3 f, .bool o] 34)) k)))
  have HN := fun k => Lib.hid (two_len (h1.on (rf_drewN (w.alloc (.cells #[.pointer (some ⟨B, 0, none⟩), .slice A n0 c, .slice L n1 e, .int .i64 st, .slice C n3 f, .bool o] 34)) k)))
  rw [ho] at HO; rw [hst] at HS; rw [hn1] at HL; rw [hn0] at HN
  have H1 := Lib.hid h1; have HF := Lib.hid hof; have HR := Lib.hid hrow; have HLE := Lib.hid hle
  clear h b1 hrow h1 hof hle hn1 hn3 hst ho
  have HN0 := Lib.hid hn0
  clear hn0
  show Calls _ _ #[.agg #[.pointer (some ⟨B, 0, none⟩), .slice A n0 c, .slice L n1 e, .int .i64 st, .slice C n3 f, .bool o]] _ _
  go_enter Try.func14, Try.ntmps14
  go_upto_region 1 with fail
  generalize (w.alloc (.cells #[.pointer (some ⟨B, 0, none⟩), .slice A n0 c, .slice L n1 e, .int .i64 st, .slice C n3 f, .bool o] 34)) = W at HO HS HL HN H1 HF HR ⊢
  have hr := HR.out
  have p0 : W.cell? ⟨w.heap.size, 0, none⟩ = some (.pointer (some ⟨B, 0, none⟩)) := by rw [cell_of_row _ _ _ _ _ _ hr]; rfl
  have p1 : W.cell? ⟨w.heap.size, 1, none⟩ = some (.slice A n0 c) := by rw [cell_of_row _ _ _ _ _ _ hr]; rfl
  have p2 : W.cell? ⟨w.heap.size, 2, none⟩ = some (.slice L n1 e) := by rw [cell_of_row _ _ _ _ _ _ hr]; rfl
  have p3 : W.cell? ⟨w.heap.size, 3, none⟩ = some (.int .i64 st) := by rw [cell_of_row _ _ _ _ _ _ hr]; rfl
  have p4 : W.cell? ⟨w.heap.size, 4, none⟩ = some (.slice C n3 f) := by rw [cell_of_row _ _ _ _ _ _ hr]; rfl
  have p5 : W.cell? ⟨w.heap.size, 5, none⟩ = some (.bool o) := by rw [cell_of_row _ _ _ _ _ _ hr]; rfl
  have l1 : ∀ ty W', (Builtin.len_ #[28] ty #[.slice L n1 e]).run Try.prog W' = .ok (.int .i64 (n1 : Int)) W' := fun ty W' => by simp [Builtin.len_, goInt]
  have g1 : (o != o) = false := by simp
  have g2 : (st != st) = false := by simp
  have g3 : ((n1 : Int) != (n1 : Int)) = false := by simp
  have g4 : ((n0 : Int) != (n0 : Int)) = false := by simp
  clear hr
  go_quiet (first
    | (go_at_call 38; exact quiet_same (HO _).out)
    | (go_at_call 27; exact quiet_same (HS _).out)
    | (go_at_call 39; exact quiet_same (HL _).out)
    | (go_at_call 40; exact quiet_same (HN _).out))
  have H2 := Lib.hid (H1.out.on (rf_drewN W nq))
  have HF2 := Lib.hid (HF.out.trans (Only.of_below (rf_drewN W nq)))
  have HR2 : Hid ((W.drewN nq).heap[w.heap.size]? = some (.cells #[.pointer (some ⟨B, 0, none⟩), .slice A n0 c, .slice L n1 e, .int .i64 st, .slice C n3 f, .bool o] 34 (0, 0))) := HR.out
  generalize W.drewN nq = W2 at H2 HF2 HR2 ⊢
  clear HO HS HL HN H1 HF HR p0 p1 p2 p3 p4 p5 l1 g1 g2 g3 g4
  go_wp2_with fail
  go_loopw [3] (fun s3 wr => ∃ j : Int, -1 ≤ j ∧ j ≤ (n0 : Int) + 1 ∧ s3 = .int .i64 j ∧ Hid (Two n a wr B S M d (.agg #[.slice A n0 c, .slice L n1 e, .int .i64 st, .slice C n3 f, .bool o]) d F) ∧ Hid (Only (dev3 B S M) w wr) ∧ Hid (wr.heap[w.heap.size]? = some (.cells #[.pointer (some ⟨B, 0, none⟩), .slice A n0 c, .slice L n1 e, .int .i64 st, .slice C n3 f, .bool o] 34 (0, 0)))) (fun s3 _ => ((n0 : Int) + 1 - intOf s3).toNat)
  case atStart => exact ⟨-1, by omega, by omega, rfl, H2, HF2, HR2⟩
  case round =>
    clear H2 HF2 HR2
    obtain ⟨j, hj0, hj1, rfl, HT, HW, HB⟩ := hrel
    have hr := HB.out
    have p0 : wr.cell? ⟨w.heap.size, 0, none⟩ = some (.pointer (some ⟨B, 0, none⟩)) := by rw [cell_of_row _ _ _ _ _ _ hr]; rfl
    have p1 : wr.cell? ⟨w.heap.size, 1, none⟩ = some (.slice A n0 c) := by rw [cell_of_row _ _ _ _ _ _ hr]; rfl
    have p2 : wr.cell? ⟨w.heap.size, 2, none⟩ = some (.slice L n1 e) := by rw [cell_of_row _ _ _ _ _ _ hr]; rfl
    have p3 : wr.cell? ⟨w.heap.size, 3, none⟩ = some (.int .i64 st) := by rw [cell_of_row _ _ _ _ _ _ hr]; rfl
    have p4 : wr.cell? ⟨w.heap.size, 4, none⟩ = some (.slice C n3 f) := by rw [cell_of_row _ _ _ _ _ _ hr]; rfl
    have p5 : wr.cell? ⟨w.heap.size, 5, none⟩ = some (.bool o) := by rw [cell_of_row _ _ _ _ _ _ hr]; rfl
    clear hr
    by_cases hj : j ≤ (n0 : Int)
    · obtain ⟨⟨s, z⟩, hsz⟩ : ∃ q, readD d j = q := ⟨_, rfl⟩
      have c1 := two_read HT.out j
      have HC2 : Hid (∀ w1, Two n a w1 B S M d (.agg #[.slice A n0 c, .slice L n1 e, .int .i64 st, .slice C n3 f, .bool o]) d F → Calls Try.prog 41 #[(.agg #[.slice A n0 c, .slice L n1 e, .int .i64 st, .slice C n3 f, .bool o]), .int .i64 j] w1 fun ex w' => ex = .returned (.tuple #[.string ⟨s.toArray⟩, .int .i64 z]) ∧ Two n a w' B S M d (.agg #[.slice A n0 c, .slice L n1 e, .int .i64 st, .slice C n3 f, .bool o]) d F ∧ Only (dev3 B S M) w1 w') := Lib.hid fun w1 h1 => by
        have := two_rfread h1 j
        rw [hsz] at this
        exact this
      rw [hsz] at c1
      obtain ⟨Sx, hS⟩ : ∃ q : ByteArray, ⟨s.toArray⟩ = q := ⟨_, rfl⟩
      rw [hS] at c1 HC2
      have hs : wrap64 (j + 1) = j + 1 := wrap64_id (by rw [is64_iff]; have := HLE.out; omega)
      have HM := Lib.hid (same_meas (n0 : Int) j hj)
      obtain ⟨j', hj'⟩ : ∃ q, j + 1 = q := ⟨_, rfl⟩
      rw [hj'] at hs HM
      have HJ := Lib.hid hj'
      have HJ0 := Lib.hid hj0; have HJH := Lib.hid hj
      have g1 : (z != z) = false := by simp
      clear hj' hS hsz hj0 hj1
      go_wp2_with fail
      refine c1.mono ?_
      rintro e1 w1 ⟨rfl, h1, ho1⟩
      have hr1 := HT.out.keep ho1 HB.out (by decide) (by decide)
      have q0 : w1.cell? ⟨w.heap.size, 0, none⟩ = some (.pointer (some ⟨B, 0, none⟩)) := by rw [cell_of_row _ _ _ _ _ _ hr1]; rfl
      have q1 : w1.cell? ⟨w.heap.size, 1, none⟩ = some (.slice A n0 c) := by rw [cell_of_row _ _ _ _ _ _ hr1]; rfl
      have q2 : w1.cell? ⟨w.heap.size, 2, none⟩ = some (.slice L n1 e) := by rw [cell_of_row _ _ _ _ _ _ hr1]; rfl
      have q3 : w1.cell? ⟨w.heap.size, 3, none⟩ = some (.int .i64 st) := by rw [cell_of_row _ _ _ _ _ _ hr1]; rfl
      have q4 : w1.cell? ⟨w.heap.size, 4, none⟩ = some (.slice C n3 f) := by rw [cell_of_row _ _ _ _ _ _ hr1]; rfl
      have q5 : w1.cell? ⟨w.heap.size, 5, none⟩ = some (.bool o) := by rw [cell_of_row _ _ _ _ _ _ hr1]; rfl
      clear c1
      have HR1 := Lib.hid hr1
      clear hr1
      go_wp2_with fail
      refine (HC2.out w1 h1).mono ?_
      rintro e2 w2 ⟨rfl, h2, ho2⟩
      have HR2 := Lib.hid (h1.keep ho2 HR1.out (by decide) (by decide))
      have HT2 := Lib.hid h2
      have HW2 := Lib.hid ((HW.out.trans ho1).trans ho2)
      clear p0 p1 p2 p3 p4 p5 q0 q1 q2 q3 q4 q5 HC2 h1 h2 ho1 ho2 HR1
      go_wp2_with fail
      rw [HJ.out, hs]
      exact ⟨⟨j', by have := HJ.out; have := HJ0.out; omega, by have := HJ.out; have := HJH.out; omega, rfl, HT2, HW2, HR2⟩, HM.out⟩
    · go_wp2_with fail
      go_ret
      exact ⟨rfl, HT.out, HW.out⟩
end

end Go.Proofs.Ytbdjdeddghdefaa
