/- awake of layer 4; LogSectors -/
import Derived.Test.YtaoaidjbpfdgmaaLogN
import Derived.Laws.BitsLemmas
namespace Go.Proofs.Ytaoaidjbpfdgmaa
open Go.ChangeShapes Go.WideShapes Go.ChangeAt Go.RowKit

theorem i64_and65535 (n : Int) : ∃ r : Nat, r ≤ 65535 ∧ bits .and .i64 n 65535 = r := by
  have h3 : (BitVec.ofInt 64 65535).toNat = 2 ^ 16 - 1 := by decide
  have key : (BitVec.ofInt 64 n &&& BitVec.ofInt 64 65535).toNat = (n % ((2 ^ 64 : Nat) : Int)).toNat % 2 ^ 16 := by
    rw [BitVec.toNat_and, BitVec.toNat_ofInt, h3, Nat.and_two_pow_sub_one_eq_mod]
  refine ⟨(n % ((2 ^ 64 : Nat) : Int)).toNat % 2 ^ 16, by omega, ?_⟩
  show IntKind.i64.wrap ((BitVec.ofInt 64 n &&& BitVec.ofInt 64 65535).toNat : Nat) = _
  rw [key, IntKind.wrap_i64]
  omega

/-- what a row of texts gives a walk -/
theorem Texts.form {w : World} {base : Nat} {v : Value} {l : List Sec} (h : Texts w base v l) :
    ∃ A cap, v = .slice A l.length cap ∧ l.length ≤ cap ∧ (l ≠ [] → ∃ g, A = some ⟨g, 0, none⟩ ∧ base ≤ g ∧ ∀ (i : Nat) s, l[i]? = some s → w.cell? ⟨g, i, none⟩ = some (.string ⟨s.toArray⟩)) := by
  rcases h.2 with ⟨rfl, h0⟩ | ⟨g, cap, cur, rfl, hb, hg, hc, -, -, ht⟩
  · refine ⟨none, 0, by rw [h0], by omega, fun hl => absurd (List.length_eq_zero_iff.1 h0) hl⟩
  · refine ⟨_, _, rfl, hc, fun _ => ⟨g, rfl, hb, fun i s hs => ?_⟩⟩
    rw [cell_of_row _ _ _ _ _ _ hg, ← Array.getElem?_toList]
    have h1 : (l.map strV)[i]? = some (strV s) := by rw [List.getElem?_map, hs]; rfl
    rw [← ht, List.getElem?_take] at h1
    split at h1
    · exact h1
    · cases h1

theorem calm_new (k : Nat) : Calm (newD k) := ⟨rfl, rfl⟩

theorem con_new (k : Nat) : conL (newD k) = List.replicate k zer := flushP_nil _

theorem new_len (k : Nat) : (newD k).sure.length = k := List.length_replicate

theorem again_same {d : Dv} (h : d.off = false) (hl : d.loose = []) (keep : Nat) (torn : Int) : ({ crashD d keep torn with off := false } : Dv) = d := by
  obtain ⟨a, b, c, e, f⟩ := d
  simp only at h hl
  subst h hl
  rfl

theorem open_new {k : Nat} {g : Lg} (hto : g.to_ ≤ k) : openG (newD k) g = ([], g) := by
  refine openG_none (stands_zer rfl (by rw [new_len]; exact hto) fun h => ?_)
  rw [con_new, List.getD_eq_getElem?_getD, List.getElem?_replicate, if_pos (by omega)]
  rfl

def entryT : Sec := [101, 110, 116, 114, 121]

theorem aw4 : ∃ d1, addG (newD 8) ⟨1, 8, 1, 5⟩ entryT = (d1, ⟨1, 8, 2, 6⟩, 0) ∧ d1.sure.length = 8 ∧ ({ crashD d1 0 0 with off := false } : Dv) = d1 ∧ d1.off = false ∧ openG d1 ⟨1, 8, 1, 5⟩ = ([entryT], ⟨1, 8, 2, 6⟩) := by
  obtain ⟨d1, e1, c1, g1, k1, f1⟩ := calm_add (d := newD 8) (calm_new 8) (g := ⟨1, 8, 1, 5⟩) (s := entryT) (by decide) (by decide) (by decide)
  rw [new_len] at g1
  refine ⟨d1, e1, g1, again_same c1.2 k1 _ _, c1.2, ?_⟩
  refine open_chain c1.2 (l := [entryT]) (g := ⟨1, 8, 1, 5⟩) (e := 2) (by rw [g1]; exact Nat.le_refl _) ⟨fun i hi => ?_, rfl⟩ (by decide) (by decide) (by decide) (by intro s hs; rw [List.mem_singleton] at hs; subst hs; decide) ?_
  · have hi0 : i = 0 := by
      have : sectN entryT.length = 1 := rfl
      omega
    subst hi0
    exact f1 1
  · refine stands_zer c1.2 (by rw [g1]; exact Nat.le_refl _) fun _ => ?_
    exact f1 2

set_option maxRecDepth 100000 in
set_option maxHeartbeats 1000000 in
theorem awake4 (w : World) : Calls Try.prog 16 #[] w fun e w' => e = .returned (.bool true) ∧ Below w.heap.size w w' := by
  have hN := nk_new (n := fun k => w.heap.size ≤ k) (a := w) w 8 (by decide) (Only.refl _ _) (fun k hk => hk)
  rw [show ((8 : Nat) : Int) = 8 from rfl] at hN
  obtain ⟨d1, e1, g1, k1, o1, q1⟩ := aw4
  have E1 := Lib.hid e1; have K1 := Lib.hid k1; have Q1 := Lib.hid q1
  clear e1 k1 q1
  go_enter Try.func16, Try.ntmps16
  go_wp2_with fail
  refine hN.mono ?_
  rintro e w0 ⟨rfl, h⟩
  clear hN
  go_wp2_with fail
  have hc := open_any h rfl 1 8 (by decide) (by rw [new_len]; decide) 5 (by decide) (by decide) h.below.size
  rw [open_new (by decide)] at hc
  refine hc.mono ?_
  clear h hc; rintro e w1 ⟨v1, rfl, h⟩
  obtain ⟨A1, p1, rfl, -, -⟩ := h.texts.form
  have h := h.ld
  generalize w0.heap.size = G at h ⊢
  go_wp2_with fail
  have hc := add_any h entryT (by decide)
  rw [E1.out] at hc
  refine hc.mono ?_
  clear h hc; rintro e w2 ⟨rfl, h⟩
  have h := h.now
  go_wp2_with fail
  refine (nk_crash h (keep := 0) (by decide) 0).mono ?_
  clear h; rintro e w3 ⟨rfl, h⟩
  go_wp2_with fail
  refine (nk_up h).mono ?_
  clear h; rintro e w4 ⟨rfl, h⟩
  rw [K1.out] at h
  go_wp2_with fail
  have hc := open_any h o1 1 8 (by decide) (by rw [g1]; decide) 5 (by decide) (by decide) h.below.size
  rw [Q1.out] at hc
  refine hc.mono ?_
  clear h hc; rintro e w5 ⟨v2, rfl, h⟩
  obtain ⟨A2, p2, rfl, -, hx⟩ := h.texts.form
  obtain ⟨g2, rfl, -, hy⟩ := hx (by simp)
  have hz := hy 0 entryT rfl
  have HB : Hid (Below w.heap.size w w5) := Lib.hid (h.ld.now.below.below (Nat.le_refl _) (fun k hk => hk))
  unfold entryT at hz
  clear h hx hy
  go_wp2_with fail
  go_ret
  exact ⟨rfl, HB.out⟩

set_option maxRecDepth 100000 in
theorem lsec_walk (n : Int) (w : World) : Calls Try.prog 8 #[.int .i64 n] w fun e w' => e = .returned (.bool true) ∧ Below w.heap.size w w' := by
  obtain ⟨r, hr, er⟩ := i64_and65535 n
  have HA := Lib.hid (awake4 w)
  have HS := Lib.hid (fun W => sect_any r (by omega) W)
  have HR := Lib.hid (fun W => refsect_any r (by omega) W)
  have hz := fun W => sect_any 0 (by omega) W
  rw [show ((sectN 0 : Nat) : Int) = 1 from rfl] at hz
  have HZ := Lib.hid hz
  clear hz hr
  generalize sectN r = q at HS HR
  go_enter Try.func8, Try.ntmps8
  go_wp2_with (first
    | (go_at_call 16; (with_reducible refine HA.out.mono ?_); rintro e w1 ⟨rfl, hb⟩)
    | (go_at_call 21; first | ((with_reducible refine (HS.out _).mono ?_); rintro e w2 ⟨rfl, rfl⟩) | (refine (HZ.out _).mono ?_; rintro e w2 ⟨rfl, rfl⟩))
    | (go_at_call 19; (with_reducible refine (HR.out _).mono ?_); rintro e w2 ⟨rfl, rfl⟩)
    | fail)
  go_ret
  exact ⟨rfl, hb⟩

end Go.Proofs.Ytaoaidjbpfdgmaa
