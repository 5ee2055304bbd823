/- SpN -/
import Derived.Test.YtgmjhoppjjjilaaDoorQ14

/- the document's words: digit, letter, Quoted (written by tools/laws13n.py) -/
namespace Go.Proofs.YtgmjhoppjjjilaaDoor
open Go.ChangeShapes Go.WideShapes Go.ChangeAt Go.RowKit Go.Fl
open Go.Shelf

/-- a text between quotes, from a on; acc: what was said ahead -/
def qGo : Nat → List UInt8 → List UInt8 → Nat → Option (List UInt8 × Nat)
  | 0, _, _, _ => none
  | fu + 1, l, acc, a =>
    match l.drop a with
    | [] => none
    | c :: r =>
      if c = 39 then some (acc, a + 1)
      else match bytO (c :: r) with
        | none => none
        | some (b, n) => qGo fu l (acc ++ [b]) (a + n)

def quoO (l : List UInt8) : Option (List UInt8 × Nat) :=
  match l with
  | [] => none
  | c :: _ => if c = 39 then qGo l.length l [] 1 else none

def quoV : Option (List UInt8 × Nat) → Value
  | none => .tuple #[.string ⟨#[]⟩, .int .i64 0]
  | some (t, n) => .tuple #[.string (ofL t), .int .i64 (n : Nat)]

theorem qGo_none {fu : Nat} {l acc : List UInt8} {a : Nat} (h : l.length ≤ a) : qGo fu l acc a = none := by
  cases fu with
  | zero => rfl
  | succ fu => rw [qGo, List.drop_eq_nil_of_le h]

theorem qGo_end {fu : Nat} {l acc r : List UInt8} {a : Nat} (h : l.drop a = 39 :: r) : qGo (fu + 1) l acc a = some (acc, a + 1) := by
  rw [qGo, h]
  rfl

theorem qGo_bad {fu : Nat} {l acc r : List UInt8} {a : Nat} {c : UInt8} (h : l.drop a = c :: r) (hc : c ≠ 39) (hb : bytO (c :: r) = none) : qGo fu l acc a = none := by
  cases fu with
  | zero => rfl
  | succ fu =>
    rw [qGo, h]
    show (if c = 39 then some (acc, a + 1) else match bytO (c :: r) with | none => none | some (b, n) => qGo fu l (acc ++ [b]) (a + n)) = none
    rw [if_neg hc, hb]

theorem qGo_go {fu : Nat} {l acc r : List UInt8} {a n : Nat} {c b : UInt8} (h : l.drop a = c :: r) (hc : c ≠ 39) (hb : bytO (c :: r) = some (b, n)) : qGo (fu + 1) l acc a = qGo fu l (acc ++ [b]) (a + n) := by
  rw [qGo, h]
  show (if c = 39 then some (acc, a + 1) else match bytO (c :: r) with | none => none | some (b, n) => qGo fu l (acc ++ [b]) (a + n)) = _
  rw [if_neg hc, hb]

/-- what a digit says; 16: it is none -/
def hexD (c : UInt8) : Nat := (hexI c).getD 16

theorem rdig_any (c : UInt8) (w : World) : Calls Tryd.prog 60 #[.int .u8 (c.toNat : Nat)] w fun e w' => e = .returned (.int .i64 (hexD c : Nat)) ∧ w = w' := by
  have hlt := c.toNat_lt
  by_cases h1 : 48 ≤ c.toNat ∧ c.toNat ≤ 57
  · have e1 : (48 : Int) ≤ (c.toNat : Int) := by omega
    have e2 : (c.toNat : Int) ≤ 57 := by omega
    have HE : Hid ((c.toNat : Int) - 48 = (hexD c : Int)) := Lib.hid (by
      unfold hexD hexI
      rw [if_pos h1]
      show _ = ((c.toNat - 48 : Nat) : Int)
      omega)
    clear h1
    go_enter Tryd.func60, Tryd.ntmps60
    go_wp2_with fail
    go_ret
    exact ⟨ret_int HE.out, rfl⟩
  · by_cases h2 : 97 ≤ c.toNat ∧ c.toNat ≤ 102
    · have e1 : (57 : Int) < (c.toNat : Int) := by omega
      have e2 : (97 : Int) ≤ (c.toNat : Int) := by omega
      have e3 : (c.toNat : Int) ≤ 102 := by omega
      have HE : Hid ((c.toNat : Int) - 97 + 10 = (hexD c : Int)) := Lib.hid (by
        unfold hexD hexI
        rw [if_neg h1, if_pos h2]
        show _ = ((c.toNat - 87 : Nat) : Int)
        omega)
      clear h1 h2
      go_enter Tryd.func60, Tryd.ntmps60
      go_wp2_with fail
      go_ret
      exact ⟨ret_int HE.out, rfl⟩
    · have HE : Hid ((16 : Int) = (hexD c : Int)) := Lib.hid (by
        unfold hexD hexI
        rw [if_neg h1, if_neg h2]
        rfl)
      by_cases h3 : 48 ≤ c.toNat
      · have e1 : (48 : Int) ≤ (c.toNat : Int) := by omega
        have e2 : (57 : Int) < (c.toNat : Int) := by omega
        by_cases h4 : 97 ≤ c.toNat
        · have e3 : (97 : Int) ≤ (c.toNat : Int) := by omega
          have e4 : (102 : Int) < (c.toNat : Int) := by omega
          clear h1 h2 h3 h4
          go_enter Tryd.func60, Tryd.ntmps60
          go_wp2_with fail
          go_ret
          exact ⟨ret_int HE.out, rfl⟩
        · have e3 : (c.toNat : Int) < 97 := by omega
          clear h1 h2 h3 h4
          go_enter Tryd.func60, Tryd.ntmps60
          go_wp2_with fail
          go_ret
          exact ⟨ret_int HE.out, rfl⟩
      · have e1 : (c.toNat : Int) < 48 := by omega
        have e3 : (c.toNat : Int) < 97 := by omega
        clear h1 h2 h3
        go_enter Tryd.func60, Tryd.ntmps60
        go_wp2_with fail
        go_ret
        exact ⟨ret_int HE.out, rfl⟩

theorem ret_bool {a b : Bool} (h : a = b) : Ending.returned (.bool a) = .returned (.bool b) := by rw [h]


theorem rlet_any (c : UInt8) (w : World) : Calls Tryd.prog 63 #[.int .u8 (c.toNat : Nat)] w fun e w' => e = .returned (.bool (namB c)) ∧ w = w' := by
  have hlt := c.toNat_lt
  by_cases h0 : c.toNat ≤ 47
  · have q0 : ((c.toNat : Int) == 95) = false := by rw [beq_eq_false_iff_ne]; omega
    have q1 : decide ((97 : Int) ≤ (c.toNat : Int)) = false := by rw [decide_eq_false_iff_not]; omega
    have q2 : decide ((c.toNat : Int) ≤ 122) = true := by rw [decide_eq_true_eq]; omega
    have q3 : decide ((65 : Int) ≤ (c.toNat : Int)) = false := by rw [decide_eq_false_iff_not]; omega
    have q4 : decide ((c.toNat : Int) ≤ 90) = true := by rw [decide_eq_true_eq]; omega
    have q5 : decide ((48 : Int) ≤ (c.toNat : Int)) = false := by rw [decide_eq_false_iff_not]; omega
    have q6 : decide ((c.toNat : Int) ≤ 57) = true := by rw [decide_eq_true_eq]; omega
    have HE : Hid (false = namB c) := Lib.hid (by
      unfold namB letB digB
      symm
      simp only [Bool.or_eq_false_iff, Bool.and_eq_false_iff, decide_eq_false_iff_not]; omega)
    clear hlt h0
    go_enter Tryd.func63, Tryd.ntmps63
    go_wp2_with fail
    go_ret
    exact ⟨ret_bool HE.out, rfl⟩
  · skip
    by_cases h1 : c.toNat ≤ 57
    · have q0 : ((c.toNat : Int) == 95) = false := by rw [beq_eq_false_iff_ne]; omega
      have q1 : decide ((97 : Int) ≤ (c.toNat : Int)) = false := by rw [decide_eq_false_iff_not]; omega
      have q2 : decide ((c.toNat : Int) ≤ 122) = true := by rw [decide_eq_true_eq]; omega
      have q3 : decide ((65 : Int) ≤ (c.toNat : Int)) = false := by rw [decide_eq_false_iff_not]; omega
      have q4 : decide ((c.toNat : Int) ≤ 90) = true := by rw [decide_eq_true_eq]; omega
      have q5 : decide ((48 : Int) ≤ (c.toNat : Int)) = true := by rw [decide_eq_true_eq]; omega
      have q6 : decide ((c.toNat : Int) ≤ 57) = true := by rw [decide_eq_true_eq]; omega
      have HE : Hid (true = namB c) := Lib.hid (by
        unfold namB letB digB
        symm
        simp only [Bool.or_eq_true, Bool.and_eq_true, decide_eq_true_eq]; omega)
      clear hlt h0 h1
      go_enter Tryd.func63, Tryd.ntmps63
      go_wp2_with fail
      go_ret
      exact ⟨ret_bool HE.out, rfl⟩
    · skip
      by_cases h2 : c.toNat ≤ 64
      · have q0 : ((c.toNat : Int) == 95) = false := by rw [beq_eq_false_iff_ne]; omega
        have q1 : decide ((97 : Int) ≤ (c.toNat : Int)) = false := by rw [decide_eq_false_iff_not]; omega
        have q2 : decide ((c.toNat : Int) ≤ 122) = true := by rw [decide_eq_true_eq]; omega
        have q3 : decide ((65 : Int) ≤ (c.toNat : Int)) = false := by rw [decide_eq_false_iff_not]; omega
        have q4 : decide ((c.toNat : Int) ≤ 90) = true := by rw [decide_eq_true_eq]; omega
        have q5 : decide ((48 : Int) ≤ (c.toNat : Int)) = true := by rw [decide_eq_true_eq]; omega
        have q6 : decide ((c.toNat : Int) ≤ 57) = false := by rw [decide_eq_false_iff_not]; omega
        have HE : Hid (false = namB c) := Lib.hid (by
          unfold namB letB digB
          symm
          simp only [Bool.or_eq_false_iff, Bool.and_eq_false_iff, decide_eq_false_iff_not]; omega)
        clear hlt h0 h1 h2
        go_enter Tryd.func63, Tryd.ntmps63
        go_wp2_with fail
        go_ret
        exact ⟨ret_bool HE.out, rfl⟩
      · skip
        by_cases h3 : c.toNat ≤ 90
        · have q0 : ((c.toNat : Int) == 95) = false := by rw [beq_eq_false_iff_ne]; omega
          have q1 : decide ((97 : Int) ≤ (c.toNat : Int)) = false := by rw [decide_eq_false_iff_not]; omega
          have q2 : decide ((c.toNat : Int) ≤ 122) = true := by rw [decide_eq_true_eq]; omega
          have q3 : decide ((65 : Int) ≤ (c.toNat : Int)) = true := by rw [decide_eq_true_eq]; omega
          have q4 : decide ((c.toNat : Int) ≤ 90) = true := by rw [decide_eq_true_eq]; omega
          have q5 : decide ((48 : Int) ≤ (c.toNat : Int)) = true := by rw [decide_eq_true_eq]; omega
          have q6 : decide ((c.toNat : Int) ≤ 57) = false := by rw [decide_eq_false_iff_not]; omega
          have HE : Hid (true = namB c) := Lib.hid (by
            unfold namB letB digB
            symm
            simp only [Bool.or_eq_true, Bool.and_eq_true, decide_eq_true_eq]; omega)
          clear hlt h0 h1 h2 h3
          go_enter Tryd.func63, Tryd.ntmps63
          go_wp2_with fail
          go_ret
          exact ⟨ret_bool HE.out, rfl⟩
        · skip
          by_cases h4 : c.toNat ≤ 94
          · have q0 : ((c.toNat : Int) == 95) = false := by rw [beq_eq_false_iff_ne]; omega
            have q1 : decide ((97 : Int) ≤ (c.toNat : Int)) = false := by rw [decide_eq_false_iff_not]; omega
            have q2 : decide ((c.toNat : Int) ≤ 122) = true := by rw [decide_eq_true_eq]; omega
            have q3 : decide ((65 : Int) ≤ (c.toNat : Int)) = true := by rw [decide_eq_true_eq]; omega
            have q4 : decide ((c.toNat : Int) ≤ 90) = false := by rw [decide_eq_false_iff_not]; omega
            have q5 : decide ((48 : Int) ≤ (c.toNat : Int)) = true := by rw [decide_eq_true_eq]; omega
            have q6 : decide ((c.toNat : Int) ≤ 57) = false := by rw [decide_eq_false_iff_not]; omega
            have HE : Hid (false = namB c) := Lib.hid (by
              unfold namB letB digB
              symm
              simp only [Bool.or_eq_false_iff, Bool.and_eq_false_iff, decide_eq_false_iff_not]; omega)
            clear hlt h0 h1 h2 h3 h4
            go_enter Tryd.func63, Tryd.ntmps63
            go_wp2_with fail
            go_ret
            exact ⟨ret_bool HE.out, rfl⟩
          · skip
            by_cases h5 : c.toNat ≤ 95
            · have q0 : ((c.toNat : Int) == 95) = true := by rw [beq_iff_eq]; omega
              have q1 : decide ((97 : Int) ≤ (c.toNat : Int)) = false := by rw [decide_eq_false_iff_not]; omega
              have q2 : decide ((c.toNat : Int) ≤ 122) = true := by rw [decide_eq_true_eq]; omega
              have q3 : decide ((65 : Int) ≤ (c.toNat : Int)) = true := by rw [decide_eq_true_eq]; omega
              have q4 : decide ((c.toNat : Int) ≤ 90) = false := by rw [decide_eq_false_iff_not]; omega
              have q5 : decide ((48 : Int) ≤ (c.toNat : Int)) = true := by rw [decide_eq_true_eq]; omega
              have q6 : decide ((c.toNat : Int) ≤ 57) = false := by rw [decide_eq_false_iff_not]; omega
              have HE : Hid (true = namB c) := Lib.hid (by
                unfold namB letB digB
                symm
                simp only [Bool.or_eq_true, Bool.and_eq_true, decide_eq_true_eq]; omega)
              clear hlt h0 h1 h2 h3 h4 h5
              go_enter Tryd.func63, Tryd.ntmps63
              go_wp2_with fail
              go_ret
              exact ⟨ret_bool HE.out, rfl⟩
            · skip
              by_cases h6 : c.toNat ≤ 96
              · have q0 : ((c.toNat : Int) == 95) = false := by rw [beq_eq_false_iff_ne]; omega
                have q1 : decide ((97 : Int) ≤ (c.toNat : Int)) = false := by rw [decide_eq_false_iff_not]; omega
                have q2 : decide ((c.toNat : Int) ≤ 122) = true := by rw [decide_eq_true_eq]; omega
                have q3 : decide ((65 : Int) ≤ (c.toNat : Int)) = true := by rw [decide_eq_true_eq]; omega
                have q4 : decide ((c.toNat : Int) ≤ 90) = false := by rw [decide_eq_false_iff_not]; omega
                have q5 : decide ((48 : Int) ≤ (c.toNat : Int)) = true := by rw [decide_eq_true_eq]; omega
                have q6 : decide ((c.toNat : Int) ≤ 57) = false := by rw [decide_eq_false_iff_not]; omega
                have HE : Hid (false = namB c) := Lib.hid (by
                  unfold namB letB digB
                  symm
                  simp only [Bool.or_eq_false_iff, Bool.and_eq_false_iff, decide_eq_false_iff_not]; omega)
                clear hlt h0 h1 h2 h3 h4 h5 h6
                go_enter Tryd.func63, Tryd.ntmps63
                go_wp2_with fail
                go_ret
                exact ⟨ret_bool HE.out, rfl⟩
              · skip
                by_cases h7 : c.toNat ≤ 122
                · have q0 : ((c.toNat : Int) == 95) = false := by rw [beq_eq_false_iff_ne]; omega
                  have q1 : decide ((97 : Int) ≤ (c.toNat : Int)) = true := by rw [decide_eq_true_eq]; omega
                  have q2 : decide ((c.toNat : Int) ≤ 122) = true := by rw [decide_eq_true_eq]; omega
                  have q3 : decide ((65 : Int) ≤ (c.toNat : Int)) = true := by rw [decide_eq_true_eq]; omega
                  have q4 : decide ((c.toNat : Int) ≤ 90) = false := by rw [decide_eq_false_iff_not]; omega
                  have q5 : decide ((48 : Int) ≤ (c.toNat : Int)) = true := by rw [decide_eq_true_eq]; omega
                  have q6 : decide ((c.toNat : Int) ≤ 57) = false := by rw [decide_eq_false_iff_not]; omega
                  have HE : Hid (true = namB c) := Lib.hid (by
                    unfold namB letB digB
                    symm
                    simp only [Bool.or_eq_true, Bool.and_eq_true, decide_eq_true_eq]; omega)
                  clear hlt h0 h1 h2 h3 h4 h5 h6 h7
                  go_enter Tryd.func63, Tryd.ntmps63
                  go_wp2_with fail
                  go_ret
                  exact ⟨ret_bool HE.out, rfl⟩
                · skip
                  have q0 : ((c.toNat : Int) == 95) = false := by rw [beq_eq_false_iff_ne]; omega
                  have q1 : decide ((97 : Int) ≤ (c.toNat : Int)) = true := by rw [decide_eq_true_eq]; omega
                  have q2 : decide ((c.toNat : Int) ≤ 122) = false := by rw [decide_eq_false_iff_not]; omega
                  have q3 : decide ((65 : Int) ≤ (c.toNat : Int)) = true := by rw [decide_eq_true_eq]; omega
                  have q4 : decide ((c.toNat : Int) ≤ 90) = false := by rw [decide_eq_false_iff_not]; omega
                  have q5 : decide ((48 : Int) ≤ (c.toNat : Int)) = true := by rw [decide_eq_true_eq]; omega
                  have q6 : decide ((c.toNat : Int) ≤ 57) = false := by rw [decide_eq_false_iff_not]; omega
                  have HE : Hid (false = namB c) := Lib.hid (by
                    unfold namB letB digB
                    symm
                    simp only [Bool.or_eq_false_iff, Bool.and_eq_false_iff, decide_eq_false_iff_not]; omega)
                  clear hlt h0 h1 h2 h3 h4 h5 h6 h7
                  go_enter Tryd.func63, Tryd.ntmps63
                  go_wp2_with fail
                  go_ret
                  exact ⟨ret_bool HE.out, rfl⟩

theorem bytO_unpl {c : UInt8} {r : List UInt8} (h : plnB c = false) : bytO (c :: r) = none := by simp [bytO, h]

theorem bytO_one {c : UInt8} {r : List UInt8} (h : plnB c = true) (h2 : c ≠ 92) : bytO (c :: r) = some (c, 1) := by simp [bytO, h, h2]

theorem bytO_two {d : UInt8} {r : List UInt8} (h : d = 39 ∨ d = 92) : bytO (92 :: d :: r) = some (d, 2) := by simp [bytO, pln92, h]

theorem bytO_no {d : UInt8} {r : List UInt8} (h : d ≠ 39) (h' : d ≠ 92) (h2 : d ≠ 120) : bytO (92 :: d :: r) = none := by simp [bytO, pln92, h, h', h2]

theorem bytO_short {d : UInt8} {r : List UInt8} (h : d ≠ 39) (h' : d ≠ 92) (hr : r.length < 2) : bytO (92 :: d :: r) = none := by
  by_cases h2 : d = 120
  · subst h2
    match r, hr with
    | [], _ => simp [bytO, pln92]
    | [x], _ => simp [bytO, pln92]
  · exact bytO_no h h' h2

def hex2 : Option Nat → Option Nat → Option (UInt8 × Nat)
  | some x, some y => some (UInt8.ofNat (16 * x + y), 4)
  | some _, none => none
  | none, _ => none

theorem bytO_hex (x y : UInt8) (r : List UInt8) : bytO (92 :: 120 :: x :: y :: r) = hex2 (hexI x) (hexI y) := by
  simp only [bytO, pln92]
  cases hexI x <;> cases hexI y <;> simp [hex2]

theorem hexI_l16 {c : UInt8} {n : Nat} (h : hexI c = some n) : n < 16 := by
  unfold hexI at h
  split at h
  · cases h; omega
  · split at h
    · cases h; omega
    · cases h

set_option maxHeartbeats 8000000 in
set_option maxRecDepth 100000 in
theorem quo_any (S : ByteArray) (hs : S.size ≤ 3000) (w : World) : Calls Tryd.prog 59 #[.string S] w fun e w' => e = .returned (quoV (quoO S.data.toList)) ∧ Below w.heap.size w w' := by
  by_cases h0 : S.size = 0
  · obtain ⟨h1, h2, h3⟩ := empty_of h0
    have HT : Hid (quoO S.data.toList = none) := Lib.hid (by rw [h3]; rfl)
    clear h0 h3
    go_enter Tryd.func59, Tryd.ntmps59
    go_wp2_with fail
    go_ret2
    exact ⟨by rw [HT.out]; rfl, (Below.refl _ _).alloc (Nat.le_refl _) _⟩
  · replace h0 : 0 < S.size := by omega
    obtain ⟨f1, f2⟩ := full_of h0
    have hS1 := list_one S h0
    by_cases hm : (S[0]'h0) = 39
    rotate_left
    · have e0 : (((S[0]'h0).toNat : Int) != 39) = true := by have := u8_ne (k := 39) hm; rw [bne_iff_ne]; omega
      have HT : Hid (quoO S.data.toList = none) := Lib.hid (by rw [hS1]; exact if_neg hm)
      clear hm hS1
      go_enter Tryd.func59, Tryd.ntmps59
      go_wp2_with fail
      go_ret2
      exact ⟨by rw [HT.out]; rfl, (Below.refl _ _).alloc (Nat.le_refl _) _⟩
    · have e0 : (((S[0]'h0).toNat : Int) != 39) = false := by rw [hm]; rfl
      have HQ : Hid (quoO S.data.toList = qGo S.size S.data.toList [] 1) := Lib.hid (by
        rw [← len_list]
        generalize hl : S.data.toList = l at hS1 ⊢
        rw [hS1]
        show (if (S[0]'h0) = 39 then _ else _) = _
        exact if_pos hm)
      clear hm hS1
      go_enter Tryd.func59, Tryd.ntmps59
      go_wp2_with fail
      go_loopw [4, 5] (fun so si wr => ∃ (i : Nat) (acc : List UInt8) (g cap fu : Nat), so = .slice (some ⟨g, 0, none⟩) acc.length cap ∧ si = .int .i64 i ∧ i ≤ S.size ∧ Hid (acc.length ≤ i ∧ quoO S.data.toList = qGo fu S.data.toList acc i ∧ S.size ≤ i + fu) ∧ Hid (OwnB w.heap.size wr acc g cap ∧ Below w.heap.size w wr)) (fun _ si _ => S.size - (intOf si).toNat)
      case atStart => exact ⟨1, [], w.heap.size, 0, S.size, rfl, rfl, h0, Lib.hid ⟨by simp, HQ.out, by omega⟩, Lib.hid ⟨OwnB.start w, (Below.refl _ _).alloc (Nat.le_refl _) _⟩⟩
      case round =>
        obtain ⟨i, acc, g, cap, fu, rfl, rfl, hiS, Hd, Hw⟩ := hrel
        by_cases hlt : i < S.size
        rotate_left
        · have hlt1 : decide ((i : Int) < (S.size : Int)) = false := by rw [decide_eq_false_iff_not]; omega
          have HT : Hid (quoO S.data.toList = none) := Lib.hid (by rw [Hd.out.2.1]; exact qGo_none (by show S.size ≤ i; omega))
          go_wp2_with fail
          go_ret2
          exact ⟨by rw [HT.out]; rfl, Hw.out.2⟩
        have hlt1 : decide ((i : Int) < (S.size : Int)) = true := by rw [decide_eq_true_eq]; omega
        have hd := list_cut S i hlt
        obtain ⟨fu, rfl⟩ : ∃ q, fu = q + 1 := ⟨fu - 1, by have := Hd.out.2.2; omega⟩
        by_cases hc39 : S[i] = 39
        · have e1 : ((S[i].toNat : Int) == 39) = true := by rw [hc39]; rfl
          have hcv := Hw.out.1.str
          have HT : Hid (quoO S.data.toList = some (acc, i + 1)) := Lib.hid (by rw [Hd.out.2.1]; rw [hc39] at hd; exact qGo_end hd)
          clear hc39 hd
          go_wp2_with fail
          go_ret2
          exact ⟨by rw [HT.out]; rfl, Hw.out.2⟩
        have e1 : ((S[i].toNat : Int) == 39) = false := by have := u8_ne (k := 39) hc39; rw [beq_eq_false_iff_ne]; omega
        cases hp : plnB S[i]
        · have HT : Hid (quoO S.data.toList = none) := Lib.hid (by
            rw [Hd.out.2.1]
            refine qGo_bad hd hc39 ?_
            exact bytO_unpl hp)
          have hp2 : ¬ (32 ≤ S[i].toNat ∧ S[i].toNat ≤ 126) := by
            intro h
            have : plnB S[i] = true := by simpa [plnB] using h
            rw [hp] at this; cases this
          by_cases hl : S[i].toNat < 32
          · have e2 : decide ((S[i].toNat : Int) < 32) = true := by rw [decide_eq_true_eq]; omega
            clear hp hp2 hl hd hc39
            go_wp2_with fail
            go_ret2
            exact ⟨by rw [HT.out]; rfl, Hw.out.2⟩
          · have e2 : decide ((S[i].toNat : Int) < 32) = false := by rw [decide_eq_false_iff_not]; omega
            have e3 : decide (126 < (S[i].toNat : Int)) = true := by rw [decide_eq_true_eq]; omega
            clear hp hp2 hl hd hc39
            go_wp2_with fail
            go_ret2
            exact ⟨by rw [HT.out]; rfl, Hw.out.2⟩
        · by_cases hc92 : S[i] = 92
          rotate_left
          · -- a byte by itself
            obtain ⟨b, hbv⟩ : ∃ b, b = S[i] := ⟨_, rfl⟩
            have hby : bytO (S[i] :: S.data.toList.drop (i + 1)) = some (b, 1) := by rw [bytO_one hp hc92, hbv]
            have hp2 : 32 ≤ S[i].toNat ∧ S[i].toNat ≤ 126 := by simpa [plnB] using hp
            have e2 : decide ((S[i].toNat : Int) < 32) = false := by rw [decide_eq_false_iff_not]; omega
            have e3 : decide (126 < (S[i].toNat : Int)) = false := by rw [decide_eq_false_iff_not]; omega
            have e4 : ((S[i].toNat : Int) != 92) = true := by have := u8_ne (k := 92) hc92; rw [bne_iff_ne]; omega
            obtain ⟨g', cap', w2, hr, hown', hb2⟩ := OwnB.add (Hw.out.1.on ((Below.refl wr.heap.size wr).alloc (Nat.le_refl _) (.cells #[.int .u8 (b.toNat : Nat)] 5))) (by simp; exact Nat.le_trans Hw.out.2.size (by omega)) (by have := Hd.out.1; omega) b ⟨wr.heap.size, 0, none⟩ (by have := (Blk.new wr 5 #[.int .u8 (b.toNat : Nat)]).cell 0; rw [this]; rfl)
            have hrow : (b.toNat : Int) = (S[i].toNat : Int) := by rw [hbv]
            rw [hrow] at hr
            have HR := Lib.hid hr
            have HN : Hid (OwnB w.heap.size w2 (acc ++ [b]) g' cap' ∧ Below w.heap.size w w2) := Lib.hid ⟨hown', (Hw.out.2.alloc Hw.out.2.size _).trans hb2⟩
            have HH : Hid (i + 1 ≤ S.size ∧ (acc ++ [b]).length ≤ i + 1 ∧ quoO S.data.toList = qGo fu S.data.toList (acc ++ [b]) (i + 1) ∧ S.size ≤ i + 1 + fu) := Lib.hid ⟨by omega, by rw [List.length_append, List.length_singleton]; have := Hd.out.1; omega, by rw [Hd.out.2.1]; exact qGo_go hd hc39 hby, by have := Hd.out.2.2; omega⟩
            clear hr hown' hb2 hrow hd hby hbv hp hp2 hc39 hc92
            go_wp2_with (at_builtin; refine Lib.wpList_append_run_sl _ rfl _ _ 47 rfl _ _ rfl rfl HR.out ?_)
            refine ⟨⟨i + 1, acc ++ [b], g', cap', fu, (by first | rfl | simp), (by first | rfl | go_num), by have := HH.out.1; omega, Lib.hid HH.out.2, HN⟩, by have := HH.out.1; simp [intOf]; omega⟩
          · have e2 : decide ((S[i].toNat : Int) < 32) = false := by rw [hc92]; rfl
            have e3 : decide (126 < (S[i].toNat : Int)) = false := by rw [hc92]; rfl
            have e4 : ((S[i].toNat : Int) != 92) = false := by rw [hc92]; rfl
            by_cases hi1 : i + 1 < S.size
            rotate_left
            · have d1 : decide ((i : Int) + 1 < (S.size : Int)) = false := by rw [decide_eq_false_iff_not]; omega
              have d3 : decide ((S.size : Int) ≤ (i : Int) + 3) = true := by rw [decide_eq_true_eq]; omega
              have HT : Hid (quoO S.data.toList = none) := Lib.hid (by
                rw [Hd.out.2.1]
                refine qGo_bad hd hc39 ?_
                rw [list_none S (i + 1) (by omega), hc92]; rfl)
              clear hp hc39 hc92 hd hi1
              go_wp2_with fail
              go_ret2
              exact ⟨by rw [HT.out]; rfl, Hw.out.2⟩
            have d1 : decide ((i : Int) + 1 < (S.size : Int)) = true := by rw [decide_eq_true_eq]; omega
            have i1 : (i : Int) + 1 < (S.size : Int) := by omega
            by_cases hq : S[i + 1] = 39
            · -- a quote
              obtain ⟨b, hbv⟩ : ∃ b, b = S[i + 1] := ⟨_, rfl⟩
              have hby : bytO (S[i] :: S.data.toList.drop (i + 1)) = some (b, 2) := by
                rw [list_cut S (i + 1) hi1, hc92, bytO_two (.inl hq), hbv]
              have e5 : ((S[i + 1].toNat : Int) == 39) = true := by rw [hq]; rfl
              obtain ⟨g', cap', w2, hr, hown', hb2⟩ := OwnB.add (Hw.out.1.on ((Below.refl wr.heap.size wr).alloc (Nat.le_refl _) (.cells #[.int .u8 (b.toNat : Nat)] 5))) (by simp; exact Nat.le_trans Hw.out.2.size (by omega)) (by have := Hd.out.1; omega) b ⟨wr.heap.size, 0, none⟩ (by have := (Blk.new wr 5 #[.int .u8 (b.toNat : Nat)]).cell 0; rw [this]; rfl)
              have hrow : (b.toNat : Int) = (S[i + 1].toNat : Int) := by rw [hbv]
              rw [hrow] at hr
              have HR := Lib.hid hr
              have HN : Hid (OwnB w.heap.size w2 (acc ++ [b]) g' cap' ∧ Below w.heap.size w w2) := Lib.hid ⟨hown', (Hw.out.2.alloc Hw.out.2.size _).trans hb2⟩
              have HH : Hid (i + 2 ≤ S.size ∧ (acc ++ [b]).length ≤ i + 2 ∧ quoO S.data.toList = qGo fu S.data.toList (acc ++ [b]) (i + 2) ∧ S.size ≤ i + 2 + fu) := Lib.hid ⟨by omega, by rw [List.length_append, List.length_singleton]; have := Hd.out.1; omega, by rw [Hd.out.2.1]; exact qGo_go hd hc39 hby, by have := Hd.out.2.2; omega⟩
              clear hr hown' hb2 hrow hd hby hbv hp hc39 hc92 hq
              go_wp2_with (at_builtin; refine Lib.wpList_append_run_sl _ rfl _ _ 47 rfl _ _ rfl rfl HR.out ?_)
              refine ⟨⟨i + 2, acc ++ [b], g', cap', fu, (by first | rfl | simp), (by first | rfl | go_num), by have := HH.out.1; omega, Lib.hid HH.out.2, HN⟩, by have := HH.out.1; simp [intOf]; omega⟩
            by_cases hq2 : S[i + 1] = 92
            · -- a stroke
              obtain ⟨b, hbv⟩ : ∃ b, b = S[i + 1] := ⟨_, rfl⟩
              have hby : bytO (S[i] :: S.data.toList.drop (i + 1)) = some (b, 2) := by
                rw [list_cut S (i + 1) hi1, hc92, bytO_two (.inr hq2), hbv]
              have e5 : ((S[i + 1].toNat : Int) == 39) = false := by rw [hq2]; rfl
              have e6 : ((S[i + 1].toNat : Int) == 92) = true := by rw [hq2]; rfl
              obtain ⟨g', cap', w2, hr, hown', hb2⟩ := OwnB.add (Hw.out.1.on ((Below.refl wr.heap.size wr).alloc (Nat.le_refl _) (.cells #[.int .u8 (b.toNat : Nat)] 5))) (by simp; exact Nat.le_trans Hw.out.2.size (by omega)) (by have := Hd.out.1; omega) b ⟨wr.heap.size, 0, none⟩ (by have := (Blk.new wr 5 #[.int .u8 (b.toNat : Nat)]).cell 0; rw [this]; rfl)
              have hrow : (b.toNat : Int) = (S[i + 1].toNat : Int) := by rw [hbv]
              rw [hrow] at hr
              have HR := Lib.hid hr
              have HN : Hid (OwnB w.heap.size w2 (acc ++ [b]) g' cap' ∧ Below w.heap.size w w2) := Lib.hid ⟨hown', (Hw.out.2.alloc Hw.out.2.size _).trans hb2⟩
              have HH : Hid (i + 2 ≤ S.size ∧ (acc ++ [b]).length ≤ i + 2 ∧ quoO S.data.toList = qGo fu S.data.toList (acc ++ [b]) (i + 2) ∧ S.size ≤ i + 2 + fu) := Lib.hid ⟨by omega, by rw [List.length_append, List.length_singleton]; have := Hd.out.1; omega, by rw [Hd.out.2.1]; exact qGo_go hd hc39 hby, by have := Hd.out.2.2; omega⟩
              clear hr hown' hb2 hrow hd hby hbv hp hc39 hc92 hq hq2
              go_wp2_with (at_builtin; refine Lib.wpList_append_run_sl _ rfl _ _ 47 rfl _ _ rfl rfl HR.out ?_)
              refine ⟨⟨i + 2, acc ++ [b], g', cap', fu, (by first | rfl | simp), (by first | rfl | go_num), by have := HH.out.1; omega, Lib.hid HH.out.2, HN⟩, by have := HH.out.1; simp [intOf]; omega⟩
            have e5 : ((S[i + 1].toNat : Int) == 39) = false := by have := u8_ne (k := 39) hq; rw [beq_eq_false_iff_ne]; omega
            have e6 : ((S[i + 1].toNat : Int) == 92) = false := by have := u8_ne (k := 92) hq2; rw [beq_eq_false_iff_ne]; omega
            by_cases hi3 : i + 3 < S.size
            rotate_left
            · have d3 : decide ((S.size : Int) ≤ (i : Int) + 3) = true := by rw [decide_eq_true_eq]; omega
              have HT : Hid (quoO S.data.toList = none) := Lib.hid (by
                rw [Hd.out.2.1]
                refine qGo_bad hd hc39 ?_
                rw [list_cut S (i + 1) hi1, hc92]; exact bytO_short hq hq2 (by rw [List.length_drop]; show S.size - _ < 2; omega))
              clear hp hc39 hc92 hd hq hq2
              go_wp2_with fail
              go_ret2
              exact ⟨by rw [HT.out]; rfl, Hw.out.2⟩
            have d3 : decide ((S.size : Int) ≤ (i : Int) + 3) = false := by rw [decide_eq_false_iff_not]; omega
            have i2 : (i : Int) + 2 < (S.size : Int) := by omega
            have i3 : (i : Int) + 3 < (S.size : Int) := by omega
            have hi2 : i + 1 + 1 < S.size := by omega
            have hi3' : i + 1 + 1 + 1 < S.size := by omega
            by_cases h120 : S[i + 1] = 120
            rotate_left
            · have e7 : ((S[i + 1].toNat : Int) != 120) = true := by have := u8_ne (k := 120) h120; rw [bne_iff_ne]; omega
              have HT : Hid (quoO S.data.toList = none) := Lib.hid (by
                rw [Hd.out.2.1]
                refine qGo_bad hd hc39 ?_
                rw [list_cut S (i + 1) hi1, hc92]; exact bytO_no hq hq2 h120)
              clear hp hc39 hc92 hd hq hq2 h120
              go_wp2_with fail
              go_ret2
              exact ⟨by rw [HT.out]; rfl, Hw.out.2⟩
            have e7 : ((S[i + 1].toNat : Int) != 120) = false := by rw [h120]; rfl
            have hbx : bytO (S[i] :: S.data.toList.drop (i + 1)) = hex2 (hexI S[i + 2]) (hexI S[i + 3]) := by
              rw [list_cut S (i + 1) hi1, list_cut S (i + 1 + 1) hi2, list_cut S (i + 1 + 1 + 1) hi3', hc92, h120]
              exact bytO_hex _ _ _
            have HX : Hid (∀ W, Calls Tryd.prog 60 #[.int .u8 (S[i + 2].toNat : Int)] W fun e w' => e = .returned (.int .i64 (hexD S[i + 2] : Nat)) ∧ W = w') := Lib.hid (fun W => rdig_any _ W)
            have HY : Hid (∀ W, Calls Tryd.prog 60 #[.int .u8 (S[i + 3].toNat : Int)] W fun e w' => e = .returned (.int .i64 (hexD S[i + 3] : Nat)) ∧ W = w') := Lib.hid (fun W => rdig_any _ W)
            obtain ⟨x, hxe⟩ : ∃ x, hexD S[i + 2] = x := ⟨_, rfl⟩
            obtain ⟨y, hye⟩ : ∃ y, hexD S[i + 3] = y := ⟨_, rfl⟩
            rw [hxe] at HX
            rw [hye] at HY
            have t2w : ((i : Int) + 2).toNat = i + 2 := by omega
            have t3w : ((i : Int) + 3).toNat = i + 3 := by omega
            cases hx : hexI S[i + 2] with
            | none =>
              have dx : decide ((15 : Int) < (x : Int)) = true := by rw [decide_eq_true_eq, ← hxe]; unfold hexD; rw [hx]; decide
              have HT : Hid (quoO S.data.toList = none) := Lib.hid (by
                rw [Hd.out.2.1]
                refine qGo_bad hd hc39 ?_
                rw [hbx, hx]; rfl)
              clear hp hc39 hc92 hd hq hq2 h120 hbx hxe hye hx
              go_wp2_with fail
              (with_reducible refine (HX.out _).mono ?_)
              rintro e w' ⟨rfl, rfl⟩
              go_wp2_with fail
              go_ret2
              exact ⟨by rw [HT.out]; rfl, Hw.out.2⟩
            | some xv =>
              have hxv : xv = x := by rw [← hxe]; unfold hexD; rw [hx]; rfl
              have hx16 : x < 16 := by rw [← hxv]; exact hexI_l16 hx
              have dx : decide ((15 : Int) < (x : Int)) = false := by rw [decide_eq_false_iff_not]; omega
              cases hy : hexI S[i + 3] with
              | none =>
                have dy : decide ((15 : Int) < (y : Int)) = true := by rw [decide_eq_true_eq, ← hye]; unfold hexD; rw [hy]; decide
                have HT : Hid (quoO S.data.toList = none) := Lib.hid (by
                  rw [Hd.out.2.1]
                  refine qGo_bad hd hc39 ?_
                  rw [hbx, hx, hy]; rfl)
                clear hp hc39 hc92 hd hq hq2 h120 hbx hxe hye hx hy hxv hx16
                go_wp2_with fail
                (with_reducible refine (HX.out _).mono ?_)
                rintro e w' ⟨rfl, rfl⟩
                go_wp2_with fail
                (with_reducible refine (HY.out _).mono ?_)
                rintro e w' ⟨rfl, rfl⟩
                go_wp2_with fail
                go_ret2
                exact ⟨by rw [HT.out]; rfl, Hw.out.2⟩
              | some yv =>
                have hyv : yv = y := by rw [← hye]; unfold hexD; rw [hy]; rfl
                have hy16 : y < 16 := by rw [← hyv]; exact hexI_l16 hy
                have dy : decide ((15 : Int) < (y : Int)) = false := by rw [decide_eq_false_iff_not]; omega
                obtain ⟨b, hbv⟩ : ∃ b, b = UInt8.ofNat (16 * x + y) := ⟨_, rfl⟩
                have hby : bytO (S[i] :: S.data.toList.drop (i + 1)) = some (b, 4) := by
                  rw [hbx, hx, hy, hbv, hxv, hyv]
                  rfl
                have hcxy : (b.toNat : Int) = 16 * (x : Int) + (y : Int) := by
                  rw [hbv]
                  have : (UInt8.ofNat (16 * x + y)).toNat = 16 * x + y := by
                    rw [UInt8.toNat_ofNat']; exact Nat.mod_eq_of_lt (by omega)
                  omega
                have hcx : 16 * (x : Int) + (y : Int) ≤ 255 := by omega
                obtain ⟨g', cap', w2, hr0, hown', hb2⟩ := OwnB.add ((Hw.out.1.on ((Below.refl wr.heap.size wr).alloc (Nat.le_refl _) (.cells #[.int .u8 (b.toNat : Nat)] 5))).on (Below.refl _ _).drew) (by show w.heap.size ≤ (wr.alloc (.cells #[.int .u8 (b.toNat : Nat)] 5)).heap.size; simp; exact Nat.le_trans Hw.out.2.size (by omega)) (by have := Hd.out.1; omega) b ⟨wr.heap.size, 0, none⟩ (by have := (Blk.new wr 5 #[.int .u8 (b.toNat : Nat)]).cell 0; exact this.trans rfl)
                rw [hcxy] at hr0
                have hr : ∀ ty, (Builtin.append_ #[47, 47] ty #[.slice (some ⟨g, 0, none⟩) acc.length cap, .slice (some ⟨wr.heap.size, 0, none⟩) 1 1]).run Tryd.prog ((wr.alloc (.cells #[.int .u8 (16 * (x : Int) + (y : Int))] 5)).drew) = .ok (.slice (some ⟨g', 0, none⟩) (acc ++ [b]).length cap') w2 := fun ty => hr0
                have HR := Lib.hid hr
                have HN : Hid (OwnB w.heap.size w2 (acc ++ [b]) g' cap' ∧ Below w.heap.size w w2) := Lib.hid ⟨hown', ((Hw.out.2.alloc Hw.out.2.size _).drew).trans hb2⟩
                have HH : Hid (i + 4 ≤ S.size ∧ (acc ++ [b]).length ≤ i + 4 ∧ quoO S.data.toList = qGo fu S.data.toList (acc ++ [b]) (i + 4) ∧ S.size ≤ i + 4 + fu) := Lib.hid ⟨by omega, by rw [List.length_append, List.length_singleton]; have := Hd.out.1; omega, by rw [Hd.out.2.1]; exact qGo_go hd hc39 hby, by have := Hd.out.2.2; omega⟩
                clear hr hown' hb2 hr0 hd hby hbv hp hc39 hc92 hq hq2 h120 hbx hxe hye hx hy hxv hyv
                have Hcxy := Lib.hid hcxy
                clear hcxy
                have s2w : IntKind.i64.wrap ((i : Int) + 2) = (i : Int) + 2 := IntWalk.i64_in _ (by omega)
                have s3w : IntKind.i64.wrap ((i : Int) + 3) = (i : Int) + 3 := IntWalk.i64_in _ (by omega)
                have s7w : IntKind.i64.wrap ((i : Int) + 4) = (i : Int) + 4 := IntWalk.i64_in _ (by omega)
                have s4w : IntKind.i64.wrap (16 * (x : Int)) = 16 * (x : Int) := IntWalk.i64_in _ (by omega)
                have s5w : IntKind.i64.wrap (16 * (x : Int) + (y : Int)) = 16 * (x : Int) + (y : Int) := IntWalk.i64_in _ (by omega)
                have s6w : IntKind.u8.wrap (16 * (x : Int) + (y : Int)) = 16 * (x : Int) + (y : Int) := by rw [IntKind.wrap_u8]; omega
                go_wp2_with fail
                (with_reducible refine (HX.out _).mono ?_)
                rintro e w' ⟨rfl, rfl⟩
                go_wp2_with fail
                (with_reducible refine (HY.out _).mono ?_)
                rintro e w' ⟨rfl, rfl⟩
                go_upto_region 17 with fail
                have mixed : Tryd.prog.follows Departure.mixedOrders = true := by kernel_rfl
                go_region_law_o (first
                  | (refine step_append_runJ rfl _ _ 47 47 rfl _ _ (by simp [Act.eval]) (by simp [Act.eval]) (HR.out _) ?_)
                  | (go_simp; go_at_call 60; (with_reducible refine (HX.out _).mono ?_); rintro e w1 ⟨rfl, rfl⟩)
                  | (go_simp; go_at_call 60; (with_reducible refine (HY.out _).mono ?_); rintro e w1 ⟨rfl, rfl⟩)
                  | fail)
                all_goals
                  go_simp
                  go_wp2_with fail
                  try clear t2w t3w
                  try clear s2w s3w s4w s5w s6w s7w
                  refine ⟨⟨i + 4, acc ++ [b], g', cap', fu, (by first | rfl | simp), (by first | rfl | go_num), by have := HH.out.1; omega, Lib.hid HH.out.2, HN⟩, by have := HH.out.1; simp [intOf]; omega⟩

end Go.Proofs.YtgmjhoppjjjilaaDoor
