/- key.put, key.Of -/
import Derived.Test.YtigepnhnccfpiaaDoorKeyA
import Derived.Deep.RegionWith
namespace Go.Proofs.YtigepnhnccfpiaaDoor
open Go.ChangeShapes Go.WideShapes Go.ChangeAt Go.RowKit Go.Fl

/-- put at one tree -/
def KPutAt (t : T) : Prop := ∀ (d : Nat) (v : Value) (B b : Nat) (x : List UInt8) (w : World), chkT t d = 0 → Rd w B t v → B ≤ w.heap.size → Mx B w → Holds B b x w → x.length + (keyT t).length ≤ 140737488355328 →
    Calls Tryd.prog 23 #[.pointer (some ⟨b, 0, none⟩), v] w fun e w' => e = .returned (.tuple #[]) ∧ Holds B b (x ++ keyT t) w' ∧ Below B w w' ∧ Fr b w w'

set_option maxRecDepth 100000 in
/-- the parts of a list -/
theorem putParts_any (l : List T) (ih : ∀ i (hi : i < l.length), KPutAt l[i]) (d : Nat) (A : Option Addr) (cap : Nat) (B b : Nat) (x : List UInt8) (w : World) (hd : ∀ i (hi : i < l.length), chkT l[i] d = 0) (hl : RdXL w 0 B l A) (hm2 : l.length ≤ 1954687338211)
    (hB : B ≤ w.heap.size) (hM : Mx B w) (hH : Holds B b x w) (hlen : x.length + (keyL l).length ≤ 140737488355328) :
    Calls Tryd.prog 42 #[.pointer (some ⟨b, 0, none⟩), .slice A l.length cap] w fun e w' => e = .returned (.tuple #[]) ∧ Holds B b (x ++ keyL l) w' ∧ Below B w w' ∧ Fr b w w' := by
  have IH := Lib.hid ih; clear ih
  have HD := Lib.hid hd; clear hd
  have HM := Lib.hid hM; clear hM
  have HH := Lib.hid hH; clear hH
  rw [keyL_eq] at hlen ⊢
  simp only [List.length_append, List.length_cons, List.length_nil] at hlen
  go_enter Tryd.func42, Tryd.ntmps42
  go_wp2_with fail
  go_loopw [8] (fun si wr => ∃ i : Nat, i ≤ l.length ∧ si = .int .i64 i ∧ Holds B b (x ++ keyP (l.take i)) wr ∧ Below B w wr ∧ Fr b w wr ∧ w.heap.size ≤ wr.heap.size) (fun si _ => l.length - (intOf si).toNat)
  case atStart => exact ⟨0, by omega, rfl, by have := HH.out; simpa [keyP] using this, Below.refl _ _, Fr.refl _ _, Nat.le_refl _⟩
  case round =>
    obtain ⟨i, hi, rfl, hHr, hbr, hFr, hsr⟩ := hrel
    have HHr := Lib.hid hHr; have HBr := Lib.hid hbr; have HFr := Lib.hid hFr
    by_cases hlt : i < l.length
    · obtain ⟨a, k', b', q0, f', s', q, D, capi, rfl, hab, hx, hrd, e0, e1, e2, e3, e4, e5⟩ := (hl.under hbr (Nat.le_refl _) (Nat.le_refl _)).item hlt
      have Hx := Lib.hid hx; clear hx
      clear hHr hbr hFr
      have IHi := Lib.hid (IH.out i hlt)
      have HDi := Lib.hid (HD.out i hlt)
      have hle := keyP_len (l := l) (i := i + 1) (by omega)
      have hsn := keyP_snoc hlt
      rw [hsn, List.length_append, List.length_cons] at hle
      have Hsn := Lib.hid hsn; clear hsn
      have hbox := Blk.new wr 25 #[.int .i64 k', .bool b', .int .i64 q0, .float .f64 f', .string s', .slice D q.length capi]
      have HX := Lib.hid hbox; clear hbox
      have hbl := HHr.out.lt
      go_wp2_with fail
      refine (wb_any (B := B) (l := x ++ keyP (l.take i)) _ (1 : UInt8) (HHr.out.alloc _) (by decide) (by rw [List.length_append]; omega) (by simp; omega)).mono ?_
      rintro e w3 ⟨rfl, hH3, hb3, hF3⟩
      have X3 := hF3 _ _ _ (by decide) (by omega) HX.out
      have hs3 := hb3.size
      simp only [World.size_alloc] at hs3
      have X30 : w3.cell? ⟨wr.heap.size, 0, none⟩ = some (.int .i64 k') := (X3.cell 0).trans rfl
      have X31 : w3.cell? ⟨wr.heap.size, 1, none⟩ = some (.bool b') := (X3.cell 1).trans rfl
      have X32 : w3.cell? ⟨wr.heap.size, 2, none⟩ = some (.int .i64 q0) := (X3.cell 2).trans rfl
      have X33 : w3.cell? ⟨wr.heap.size, 3, none⟩ = some (.float .f64 f') := (X3.cell 3).trans rfl
      have X34 : w3.cell? ⟨wr.heap.size, 4, none⟩ = some (.string s') := (X3.cell 4).trans rfl
      have X35 : w3.cell? ⟨wr.heap.size, 5, none⟩ = some (.slice D q.length capi) := (X3.cell 5).trans rfl
      clear X3
      have HH3 := Lib.hid hH3; have HB3' := Lib.hid (((Below.refl B wr).alloc (by omega) _).trans hb3); have HF3 := Lib.hid ((HFr.out.trans (Fr.alloc b wr _)).trans hF3)
      have HB3 := Lib.hid (HBr.out.trans HB3'.out)
      have HRD := Lib.hid (hrd.under HB3'.out (Nat.le_refl _) (Nat.le_refl _))
      clear hH3 hb3 hF3 hrd
      go_wp2_with fail
      refine (IHi.out d _ B b _ _ HDi.out HRD.out (by omega) (HM.out.under HB3.out) HH3.out (by simp only [List.length_append, List.length_cons, List.length_nil]; omega)).mono ?_
      rintro e w4 ⟨rfl, hH4, hb4, hF4⟩
      have hs4 := hb4.size
      have HH4 := Lib.hid hH4; have HB4 := Lib.hid (HB3.out.trans hb4); have HF4 := Lib.hid (HF3.out.trans hF4)
      clear hH4 hb4 hF4
      go_wp2_with fail
      go_roundw
      case rel => exact ⟨i + 1, by omega, by go_num, by have := HH4.out; rw [Hsn.out]; simpa using this, HB4.out, HF4.out, by omega⟩
      case measure => simp [intOf]; omega
    · clear hHr hbr hFr
      have hall : x ++ keyP (l.take i) = x ++ keyP l := by rw [List.take_of_length_le (by omega)]
      have Hall := Lib.hid hall; clear hall
      have hle := keyP_len (l := l) (i := i) (by omega)
      go_wp2_with fail
      refine (wb_any (B := B) (l := x ++ keyP (l.take i)) _ (0 : UInt8) HHr.out (by decide) (by rw [List.length_append]; omega) (by omega)).mono ?_
      rintro e w3 ⟨rfl, hH3, hb3, hF3⟩
      go_wp2_with fail
      go_end0
      exact ⟨rfl, by rw [Hall.out] at hH3; simpa using hH3, HBr.out.trans hb3, HFr.out.trans hF3⟩

set_option maxRecDepth 100000 in
theorem kput_bool_t (n : Int) (f : Nat) (s : ByteArray) (l : List T) (d : Nat) (v : Value) (B b : Nat) (x : List UInt8) (w : World) (hck : chkT (.mk 1 true n f s l) d = 0) (h : Rd w B (.mk 1 true n f s l) v) (hB : B ≤ w.heap.size) (hM : Mx B w) (hH : Holds B b x w) (hlen : x.length + (keyT (.mk 1 true n f s l)).length ≤ 140737488355328) :
    Calls Tryd.prog 23 #[.pointer (some ⟨b, 0, none⟩), v] w fun e w' => e = .returned (.tuple #[]) ∧ Holds B b (x ++ keyT (.mk 1 true n f s l)) w' ∧ Below B w w' ∧ Fr b w w' := by
  obtain ⟨-, hsh, hss, -, hcl, -⟩ := chk_parts hck
  obtain ⟨k0, k8, -⟩ := shp_parts hsh
  clear hck hsh
  have HCL := Lib.hid (chkL_all hcl); clear hcl
  have HE := Lib.hid (show keyT (.mk 1 true n f s l) = kby (rk 1 + 1) :: [if true then 1 else 0] by rw [keyT]; rfl)
  rw [HE.out] at hlen ⊢
  simp only [List.length_cons, List.length_nil] at hlen
  have HM := Lib.hid hM; clear hM
  obtain ⟨A, cap, rfl, hk, hn, hf, hs, hc, hm, hA, hl⟩ := h.open
  have Hn := Lib.hid hn; have Hf := Lib.hid hf; have Hl := Lib.hid hl
  have hm2 := hm.2
  clear hk hn hf hs hc hA hm h hl
  have hbl := hH.lt
  have HH := Lib.hid (hH.alloc (.cells #[.int .i64 1, .bool true, .int .i64 n, .float .f64 f, .string s, .slice A l.length cap] 25)); clear hH
  have HB := Lib.hid ((Below.refl B w).alloc hB (.cells #[.int .i64 1, .bool true, .int .i64 n, .float .f64 f, .string s, .slice A l.length cap] 25))
  have HF := Lib.hid (Fr.alloc b w (.cells #[.int .i64 1, .bool true, .int .i64 n, .float .f64 f, .string s, .slice A l.length cap] 25))
  have hB1 : B ≤ (w.alloc (.cells #[.int .i64 1, .bool true, .int .i64 n, .float .f64 f, .string s, .slice A l.length cap] 25)).heap.size := by simp; omega
  have HX := Lib.hid (Blk.new w 25 #[.int .i64 1, .bool true, .int .i64 n, .float .f64 f, .string s, .slice A l.length cap])
  have Hah := Lib.hid (fun W => ahead_any 1 W k0 k8)
  go_enter Tryd.func23, Tryd.ntmps23
  go_wp2_with fail
  refine (Hah.out _).mono ?_
  rintro e w1 ⟨rfl, rfl⟩
  go_wp2_with fail
  refine (wb_any _ (kby (rk 1 + 1)) HH.out rfl (by omega) hB1).mono ?_
  rintro e w1 ⟨rfl, hH1, hb1, hF1⟩
  have X1 := hF1 _ _ _ (by decide) (by simp; omega) HX.out
  have HH1 := Lib.hid hH1; have HB1 := Lib.hid (HB.out.trans hb1); have HF1 := Lib.hid (HF.out.trans hF1)
  have hs1 := hb1.size
  simp only [World.size_alloc] at hs1
  clear hH1 hb1 hF1
  have X10 : w1.cell? ⟨w.heap.size, 0, none⟩ = some (.int .i64 1) := (X1.cell 0).trans rfl
  have X11 : w1.cell? ⟨w.heap.size, 1, none⟩ = some (.bool true) := (X1.cell 1).trans rfl
  have X12 : w1.cell? ⟨w.heap.size, 2, none⟩ = some (.int .i64 n) := (X1.cell 2).trans rfl
  have X13 : w1.cell? ⟨w.heap.size, 3, none⟩ = some (.float .f64 f) := (X1.cell 3).trans rfl
  have X14 : w1.cell? ⟨w.heap.size, 4, none⟩ = some (.string s) := (X1.cell 4).trans rfl
  have X15 : w1.cell? ⟨w.heap.size, 5, none⟩ = some (.slice A l.length cap) := (X1.cell 5).trans rfl
  have HX1 := Lib.hid X1; clear X1
  go_wp2_with fail
  refine (putBool_any true B b _ _ (by omega) HH1.out (by simp; omega)).mono ?_
  rintro e w2 ⟨rfl, hH2, hb2, hF2⟩
  go_wp2_with fail
  go_end0
  exact ⟨rfl, by simpa using hH2, HB1.out.trans hb2, HF1.out.trans hF2⟩

set_option maxRecDepth 100000 in
theorem kput_bool_f (n : Int) (f : Nat) (s : ByteArray) (l : List T) (d : Nat) (v : Value) (B b : Nat) (x : List UInt8) (w : World) (hck : chkT (.mk 1 false n f s l) d = 0) (h : Rd w B (.mk 1 false n f s l) v) (hB : B ≤ w.heap.size) (hM : Mx B w) (hH : Holds B b x w) (hlen : x.length + (keyT (.mk 1 false n f s l)).length ≤ 140737488355328) :
    Calls Tryd.prog 23 #[.pointer (some ⟨b, 0, none⟩), v] w fun e w' => e = .returned (.tuple #[]) ∧ Holds B b (x ++ keyT (.mk 1 false n f s l)) w' ∧ Below B w w' ∧ Fr b w w' := by
  obtain ⟨-, hsh, hss, -, hcl, -⟩ := chk_parts hck
  obtain ⟨k0, k8, -⟩ := shp_parts hsh
  clear hck hsh
  have HCL := Lib.hid (chkL_all hcl); clear hcl
  have HE := Lib.hid (show keyT (.mk 1 false n f s l) = kby (rk 1 + 1) :: [if false then 1 else 0] by rw [keyT]; rfl)
  rw [HE.out] at hlen ⊢
  simp only [List.length_cons, List.length_nil] at hlen
  have HM := Lib.hid hM; clear hM
  obtain ⟨A, cap, rfl, hk, hn, hf, hs, hc, hm, hA, hl⟩ := h.open
  have Hn := Lib.hid hn; have Hf := Lib.hid hf; have Hl := Lib.hid hl
  have hm2 := hm.2
  clear hk hn hf hs hc hA hm h hl
  have hbl := hH.lt
  have HH := Lib.hid (hH.alloc (.cells #[.int .i64 1, .bool false, .int .i64 n, .float .f64 f, .string s, .slice A l.length cap] 25)); clear hH
  have HB := Lib.hid ((Below.refl B w).alloc hB (.cells #[.int .i64 1, .bool false, .int .i64 n, .float .f64 f, .string s, .slice A l.length cap] 25))
  have HF := Lib.hid (Fr.alloc b w (.cells #[.int .i64 1, .bool false, .int .i64 n, .float .f64 f, .string s, .slice A l.length cap] 25))
  have hB1 : B ≤ (w.alloc (.cells #[.int .i64 1, .bool false, .int .i64 n, .float .f64 f, .string s, .slice A l.length cap] 25)).heap.size := by simp; omega
  have HX := Lib.hid (Blk.new w 25 #[.int .i64 1, .bool false, .int .i64 n, .float .f64 f, .string s, .slice A l.length cap])
  have Hah := Lib.hid (fun W => ahead_any 1 W k0 k8)
  go_enter Tryd.func23, Tryd.ntmps23
  go_wp2_with fail
  refine (Hah.out _).mono ?_
  rintro e w1 ⟨rfl, rfl⟩
  go_wp2_with fail
  refine (wb_any _ (kby (rk 1 + 1)) HH.out rfl (by omega) hB1).mono ?_
  rintro e w1 ⟨rfl, hH1, hb1, hF1⟩
  have X1 := hF1 _ _ _ (by decide) (by simp; omega) HX.out
  have HH1 := Lib.hid hH1; have HB1 := Lib.hid (HB.out.trans hb1); have HF1 := Lib.hid (HF.out.trans hF1)
  have hs1 := hb1.size
  simp only [World.size_alloc] at hs1
  clear hH1 hb1 hF1
  have X10 : w1.cell? ⟨w.heap.size, 0, none⟩ = some (.int .i64 1) := (X1.cell 0).trans rfl
  have X11 : w1.cell? ⟨w.heap.size, 1, none⟩ = some (.bool false) := (X1.cell 1).trans rfl
  have X12 : w1.cell? ⟨w.heap.size, 2, none⟩ = some (.int .i64 n) := (X1.cell 2).trans rfl
  have X13 : w1.cell? ⟨w.heap.size, 3, none⟩ = some (.float .f64 f) := (X1.cell 3).trans rfl
  have X14 : w1.cell? ⟨w.heap.size, 4, none⟩ = some (.string s) := (X1.cell 4).trans rfl
  have X15 : w1.cell? ⟨w.heap.size, 5, none⟩ = some (.slice A l.length cap) := (X1.cell 5).trans rfl
  have HX1 := Lib.hid X1; clear X1
  go_wp2_with fail
  refine (putBool_any false B b _ _ (by omega) HH1.out (by simp; omega)).mono ?_
  rintro e w2 ⟨rfl, hH2, hb2, hF2⟩
  go_wp2_with fail
  go_end0
  exact ⟨rfl, by simpa using hH2, HB1.out.trans hb2, HF1.out.trans hF2⟩

set_option maxHeartbeats 4000000 in
set_option maxRecDepth 100000 in
theorem kput_int (n : Int) (b0 : Bool) (f : Nat) (s : ByteArray) (l : List T) (d : Nat) (v : Value) (B b : Nat) (x : List UInt8) (w : World) (hck : chkT (.mk 2 b0 n f s l) d = 0) (h : Rd w B (.mk 2 b0 n f s l) v) (hB : B ≤ w.heap.size) (hM : Mx B w) (hH : Holds B b x w) (hlen : x.length + (keyT (.mk 2 b0 n f s l)).length ≤ 140737488355328) :
    Calls Tryd.prog 23 #[.pointer (some ⟨b, 0, none⟩), v] w fun e w' => e = .returned (.tuple #[]) ∧ Holds B b (x ++ keyT (.mk 2 b0 n f s l)) w' ∧ Below B w w' ∧ Fr b w w' := by
  obtain ⟨-, hsh, hss, -, hcl, -⟩ := chk_parts hck
  obtain ⟨k0, k8, -⟩ := shp_parts hsh
  clear hck hsh
  have HCL := Lib.hid (chkL_all hcl); clear hcl
  have HE := Lib.hid (show keyT (.mk 2 b0 n f s l) = kby (rk 2 + 1) :: numKey (fw (flo n)) (n - flo n).toNat 2 by rw [keyT]; rfl)
  rw [HE.out] at hlen ⊢
  have hnk := numKey_len (fw (flo n)) (n - flo n).toNat 2
  simp only [List.length_cons, hnk] at hlen
  have HM := Lib.hid hM; clear hM
  obtain ⟨A, cap, rfl, hk, hn, hf, hs, hc, hm, hA, hl⟩ := h.open
  have Hn := Lib.hid hn; have Hf := Lib.hid hf; have Hl := Lib.hid hl
  have hm2 := hm.2
  clear hk hn hf hs hc hA hm h hl
  have hbl := hH.lt
  have HH := Lib.hid (hH.alloc (.cells #[.int .i64 2, .bool b0, .int .i64 n, .float .f64 f, .string s, .slice A l.length cap] 25)); clear hH
  have HB := Lib.hid ((Below.refl B w).alloc hB (.cells #[.int .i64 2, .bool b0, .int .i64 n, .float .f64 f, .string s, .slice A l.length cap] 25))
  have HF := Lib.hid (Fr.alloc b w (.cells #[.int .i64 2, .bool b0, .int .i64 n, .float .f64 f, .string s, .slice A l.length cap] 25))
  have hB1 : B ≤ (w.alloc (.cells #[.int .i64 2, .bool b0, .int .i64 n, .float .f64 f, .string s, .slice A l.length cap] 25)).heap.size := by simp; omega
  have HX := Lib.hid (Blk.new w 25 #[.int .i64 2, .bool b0, .int .i64 n, .float .f64 f, .string s, .slice A l.length cap])
  have Hah := Lib.hid (fun W => ahead_any 2 W k0 k8)
  go_enter Tryd.func23, Tryd.ntmps23
  go_wp2_with fail
  refine (Hah.out _).mono ?_
  rintro e w1 ⟨rfl, rfl⟩
  go_wp2_with fail
  refine (wb_any _ (kby (rk 2 + 1)) HH.out rfl (by omega) hB1).mono ?_
  rintro e w1 ⟨rfl, hH1, hb1, hF1⟩
  have X1 := hF1 _ _ _ (by decide) (by simp; omega) HX.out
  have HH1 := Lib.hid hH1; have HB1 := Lib.hid (HB.out.trans hb1); have HF1 := Lib.hid (HF.out.trans hF1)
  have hs1 := hb1.size
  simp only [World.size_alloc] at hs1
  clear hH1 hb1 hF1
  have X10 : w1.cell? ⟨w.heap.size, 0, none⟩ = some (.int .i64 2) := (X1.cell 0).trans rfl
  have X11 : w1.cell? ⟨w.heap.size, 1, none⟩ = some (.bool b0) := (X1.cell 1).trans rfl
  have X12 : w1.cell? ⟨w.heap.size, 2, none⟩ = some (.int .i64 n) := (X1.cell 2).trans rfl
  have X13 : w1.cell? ⟨w.heap.size, 3, none⟩ = some (.float .f64 f) := (X1.cell 3).trans rfl
  have X14 : w1.cell? ⟨w.heap.size, 4, none⟩ = some (.string s) := (X1.cell 4).trans rfl
  have X15 : w1.cell? ⟨w.heap.size, 5, none⟩ = some (.slice A l.length cap) := (X1.cell 5).trans rfl
  have HX1 := Lib.hid X1; clear X1
  obtain ⟨n1, n2⟩ := is64_iff.1 Hn.out
  have on := over_range n1 n2
  have HFW := Lib.hid (fw_facts (flo_fit n1 n2)).1
  have HO := Lib.hid on
  clear n1 n2 on hnk
  go_wp2_with fail
  go_region_with (first
    | (go_at_call 40; refine (split_any n _ Hn.out).mono ?_; rintro e w2 ⟨rfl, hb2⟩; have hb2' : Below w1.heap.size w1 w2 := (Below.refl _ _).drew.trans (hb2.mono (by simp)); have hc20 := hb2'.cell (p := ⟨w.heap.size, 0, none⟩) (by simp; omega); have HB2 := Lib.hid hb2'; clear hb2 hb2'; unfold partV)
    | (go_at_call 39; refine (putNumber_any (fw (flo n)) (n - flo n) 2 B b (x ++ [kby (rk 2 + 1)]) _ HFW.out HO.out.1 (by have := HO.out.2; omega) (by decide) (by decide) (by have := HB2.out.size; omega) (HH1.out.below HB2.out) (by simp; omega)).mono ?_; rintro e w3 ⟨rfl, hH3, hb3, hF3⟩; have HH3 := Lib.hid hH3; have HB3 := Lib.hid ((HB1.out.trans (HB2.out.mono (by omega))).trans hb3); have HF3 := Lib.hid ((HF1.out.trans (Fr.of_below HB2.out)).trans hF3); clear hH3 hb3 hF3))
  all_goals
    go_wp2_with fail
    go_end0
    exact ⟨rfl, by have := HH3.out; rw [show kby 2 = (2 : UInt8) from rfl] at this; simpa using this, HB3.out, HF3.out⟩

set_option maxRecDepth 100000 in
theorem kput_float (n : Int) (b0 : Bool) (f : Nat) (s : ByteArray) (l : List T) (d : Nat) (v : Value) (B b : Nat) (x : List UInt8) (w : World) (hck : chkT (.mk 3 b0 n f s l) d = 0) (h : Rd w B (.mk 3 b0 n f s l) v) (hB : B ≤ w.heap.size) (hM : Mx B w) (hH : Holds B b x w) (hlen : x.length + (keyT (.mk 3 b0 n f s l)).length ≤ 140737488355328) :
    Calls Tryd.prog 23 #[.pointer (some ⟨b, 0, none⟩), v] w fun e w' => e = .returned (.tuple #[]) ∧ Holds B b (x ++ keyT (.mk 3 b0 n f s l)) w' ∧ Below B w w' ∧ Fr b w w' := by
  obtain ⟨-, hsh, hss, -, hcl, -⟩ := chk_parts hck
  obtain ⟨k0, k8, -⟩ := shp_parts hsh
  clear hck hsh
  have HCL := Lib.hid (chkL_all hcl); clear hcl
  have HE := Lib.hid (show keyT (.mk 3 b0 n f s l) = kby (rk 3 + 1) :: numKey f 0 3 by rw [keyT]; rfl)
  rw [HE.out] at hlen ⊢
  have hnk := numKey_len f 0 3
  simp only [List.length_cons, hnk] at hlen
  have HM := Lib.hid hM; clear hM
  obtain ⟨A, cap, rfl, hk, hn, hf, hs, hc, hm, hA, hl⟩ := h.open
  have Hn := Lib.hid hn; have Hf := Lib.hid hf; have Hl := Lib.hid hl
  have hm2 := hm.2
  clear hk hn hf hs hc hA hm h hl
  have hbl := hH.lt
  have HH := Lib.hid (hH.alloc (.cells #[.int .i64 3, .bool b0, .int .i64 n, .float .f64 f, .string s, .slice A l.length cap] 25)); clear hH
  have HB := Lib.hid ((Below.refl B w).alloc hB (.cells #[.int .i64 3, .bool b0, .int .i64 n, .float .f64 f, .string s, .slice A l.length cap] 25))
  have HF := Lib.hid (Fr.alloc b w (.cells #[.int .i64 3, .bool b0, .int .i64 n, .float .f64 f, .string s, .slice A l.length cap] 25))
  have hB1 : B ≤ (w.alloc (.cells #[.int .i64 3, .bool b0, .int .i64 n, .float .f64 f, .string s, .slice A l.length cap] 25)).heap.size := by simp; omega
  have HX := Lib.hid (Blk.new w 25 #[.int .i64 3, .bool b0, .int .i64 n, .float .f64 f, .string s, .slice A l.length cap])
  have Hah := Lib.hid (fun W => ahead_any 3 W k0 k8)
  go_enter Tryd.func23, Tryd.ntmps23
  go_wp2_with fail
  refine (Hah.out _).mono ?_
  rintro e w1 ⟨rfl, rfl⟩
  go_wp2_with fail
  refine (wb_any _ (kby (rk 3 + 1)) HH.out rfl (by omega) hB1).mono ?_
  rintro e w1 ⟨rfl, hH1, hb1, hF1⟩
  have X1 := hF1 _ _ _ (by decide) (by simp; omega) HX.out
  have HH1 := Lib.hid hH1; have HB1 := Lib.hid (HB.out.trans hb1); have HF1 := Lib.hid (HF.out.trans hF1)
  have hs1 := hb1.size
  simp only [World.size_alloc] at hs1
  clear hH1 hb1 hF1
  have X10 : w1.cell? ⟨w.heap.size, 0, none⟩ = some (.int .i64 3) := (X1.cell 0).trans rfl
  have X11 : w1.cell? ⟨w.heap.size, 1, none⟩ = some (.bool b0) := (X1.cell 1).trans rfl
  have X12 : w1.cell? ⟨w.heap.size, 2, none⟩ = some (.int .i64 n) := (X1.cell 2).trans rfl
  have X13 : w1.cell? ⟨w.heap.size, 3, none⟩ = some (.float .f64 f) := (X1.cell 3).trans rfl
  have X14 : w1.cell? ⟨w.heap.size, 4, none⟩ = some (.string s) := (X1.cell 4).trans rfl
  have X15 : w1.cell? ⟨w.heap.size, 5, none⟩ = some (.slice A l.length cap) := (X1.cell 5).trans rfl
  have HX1 := Lib.hid X1; clear X1
  clear hnk
  go_wp2_with fail
  refine (putNumber_any f 0 3 B b (x ++ [kby (rk 3 + 1)]) _ Hf.out (by decide) (by decide) (by decide) (by decide) (by omega) HH1.out (by simp; omega)).mono ?_
  rintro e w2 ⟨rfl, hH2, hb2, hF2⟩
  rw [show kby 3 = (3 : UInt8) from rfl] at hH2
  go_wp2_with fail
  go_end0
  exact ⟨rfl, by simpa using hH2, HB1.out.trans hb2, HF1.out.trans hF2⟩

set_option maxRecDepth 100000 in
theorem kput_text (n : Int) (b0 : Bool) (f : Nat) (s : ByteArray) (l : List T) (d : Nat) (v : Value) (B b : Nat) (x : List UInt8) (w : World) (hck : chkT (.mk 4 b0 n f s l) d = 0) (h : Rd w B (.mk 4 b0 n f s l) v) (hB : B ≤ w.heap.size) (hM : Mx B w) (hH : Holds B b x w) (hlen : x.length + (keyT (.mk 4 b0 n f s l)).length ≤ 140737488355328) :
    Calls Tryd.prog 23 #[.pointer (some ⟨b, 0, none⟩), v] w fun e w' => e = .returned (.tuple #[]) ∧ Holds B b (x ++ keyT (.mk 4 b0 n f s l)) w' ∧ Below B w w' ∧ Fr b w w' := by
  obtain ⟨-, hsh, hss, -, hcl, -⟩ := chk_parts hck
  obtain ⟨k0, k8, -⟩ := shp_parts hsh
  clear hck hsh
  have HCL := Lib.hid (chkL_all hcl); clear hcl
  have HE := Lib.hid (show keyT (.mk 4 b0 n f s l) = kby (rk 4 + 1) :: nameL s.data.toList by rw [keyT]; rfl)
  rw [HE.out] at hlen ⊢
  have hes := esc_size s
  have hnl : (nameL s.data.toList).length = (escL s.data.toList).length + 2 := by unfold nameL; simp
  simp only [List.length_cons, hnl] at hlen
  have HM := Lib.hid hM; clear hM
  obtain ⟨A, cap, rfl, hk, hn, hf, hs, hc, hm, hA, hl⟩ := h.open
  have Hn := Lib.hid hn; have Hf := Lib.hid hf; have Hl := Lib.hid hl
  have hm2 := hm.2
  clear hk hn hf hs hc hA hm h hl
  have hbl := hH.lt
  have HH := Lib.hid (hH.alloc (.cells #[.int .i64 4, .bool b0, .int .i64 n, .float .f64 f, .string s, .slice A l.length cap] 25)); clear hH
  have HB := Lib.hid ((Below.refl B w).alloc hB (.cells #[.int .i64 4, .bool b0, .int .i64 n, .float .f64 f, .string s, .slice A l.length cap] 25))
  have HF := Lib.hid (Fr.alloc b w (.cells #[.int .i64 4, .bool b0, .int .i64 n, .float .f64 f, .string s, .slice A l.length cap] 25))
  have hB1 : B ≤ (w.alloc (.cells #[.int .i64 4, .bool b0, .int .i64 n, .float .f64 f, .string s, .slice A l.length cap] 25)).heap.size := by simp; omega
  have HX := Lib.hid (Blk.new w 25 #[.int .i64 4, .bool b0, .int .i64 n, .float .f64 f, .string s, .slice A l.length cap])
  have Hah := Lib.hid (fun W => ahead_any 4 W k0 k8)
  go_enter Tryd.func23, Tryd.ntmps23
  go_wp2_with fail
  refine (Hah.out _).mono ?_
  rintro e w1 ⟨rfl, rfl⟩
  go_wp2_with fail
  refine (wb_any _ (kby (rk 4 + 1)) HH.out rfl (by omega) hB1).mono ?_
  rintro e w1 ⟨rfl, hH1, hb1, hF1⟩
  have X1 := hF1 _ _ _ (by decide) (by simp; omega) HX.out
  have HH1 := Lib.hid hH1; have HB1 := Lib.hid (HB.out.trans hb1); have HF1 := Lib.hid (HF.out.trans hF1)
  have hs1 := hb1.size
  simp only [World.size_alloc] at hs1
  clear hH1 hb1 hF1
  have X10 : w1.cell? ⟨w.heap.size, 0, none⟩ = some (.int .i64 4) := (X1.cell 0).trans rfl
  have X11 : w1.cell? ⟨w.heap.size, 1, none⟩ = some (.bool b0) := (X1.cell 1).trans rfl
  have X12 : w1.cell? ⟨w.heap.size, 2, none⟩ = some (.int .i64 n) := (X1.cell 2).trans rfl
  have X13 : w1.cell? ⟨w.heap.size, 3, none⟩ = some (.float .f64 f) := (X1.cell 3).trans rfl
  have X14 : w1.cell? ⟨w.heap.size, 4, none⟩ = some (.string s) := (X1.cell 4).trans rfl
  have X15 : w1.cell? ⟨w.heap.size, 5, none⟩ = some (.slice A l.length cap) := (X1.cell 5).trans rfl
  have HX1 := Lib.hid X1; clear X1
  go_wp2_with fail
  refine (name_any s _ (by omega) ((HM.out.under HB1.out).up (by omega))).mono ?_
  rintro e w2 ⟨rfl, hb2⟩
  have hs2 := hb2.size
  go_wp2_with fail
  refine (ws_any (B := B) (l := x ++ [kby (rk 4 + 1)]) (bstr (nameL s.data.toList)) (HH1.out.below hb2) (by rw [bstr_size, hnl]; simp; omega) (by omega)).mono ?_
  rintro e w3 ⟨rfl, hH3, hb3, hF3⟩
  have HH3 := Lib.hid hH3; have HB3 := Lib.hid ((HB1.out.trans (hb2.mono (by omega))).trans hb3); have HF3 := Lib.hid ((HF1.out.trans (Fr.of_below hb2)).trans hF3)
  clear hH3 hb3 hF3
  go_wp2_with fail
  go_end0
  exact ⟨rfl, by have := HH3.out; simpa [bstr] using this, HB3.out, HF3.out⟩

set_option maxRecDepth 100000 in
theorem kput_list (n : Int) (b0 : Bool) (f : Nat) (s : ByteArray) (l : List T) (d : Nat) (v : Value) (B b : Nat) (x : List UInt8) (w : World) (ih : ∀ i (hi : i < l.length), KPutAt l[i]) (hck : chkT (.mk 5 b0 n f s l) d = 0) (h : Rd w B (.mk 5 b0 n f s l) v) (hB : B ≤ w.heap.size) (hM : Mx B w) (hH : Holds B b x w) (hlen : x.length + (keyT (.mk 5 b0 n f s l)).length ≤ 140737488355328) :
    Calls Tryd.prog 23 #[.pointer (some ⟨b, 0, none⟩), v] w fun e w' => e = .returned (.tuple #[]) ∧ Holds B b (x ++ keyT (.mk 5 b0 n f s l)) w' ∧ Below B w w' ∧ Fr b w w' := by
  obtain ⟨-, hsh, hss, -, hcl, -⟩ := chk_parts hck
  obtain ⟨k0, k8, -⟩ := shp_parts hsh
  clear hck hsh
  have HCL := Lib.hid (chkL_all hcl); clear hcl
  have HE := Lib.hid (show keyT (.mk 5 b0 n f s l) = kby (rk 5 + 1) :: keyL l by rw [keyT]; rfl)
  rw [HE.out] at hlen ⊢
  simp only [List.length_cons] at hlen
  have IH := Lib.hid ih; clear ih
  have HM := Lib.hid hM; clear hM
  obtain ⟨A, cap, rfl, hk, hn, hf, hs, hc, hm, hA, hl⟩ := h.open
  have Hn := Lib.hid hn; have Hf := Lib.hid hf; have Hl := Lib.hid hl
  have hm2 := hm.2
  clear hk hn hf hs hc hA hm h hl
  have hbl := hH.lt
  have HH := Lib.hid (hH.alloc (.cells #[.int .i64 5, .bool b0, .int .i64 n, .float .f64 f, .string s, .slice A l.length cap] 25)); clear hH
  have HB := Lib.hid ((Below.refl B w).alloc hB (.cells #[.int .i64 5, .bool b0, .int .i64 n, .float .f64 f, .string s, .slice A l.length cap] 25))
  have HF := Lib.hid (Fr.alloc b w (.cells #[.int .i64 5, .bool b0, .int .i64 n, .float .f64 f, .string s, .slice A l.length cap] 25))
  have hB1 : B ≤ (w.alloc (.cells #[.int .i64 5, .bool b0, .int .i64 n, .float .f64 f, .string s, .slice A l.length cap] 25)).heap.size := by simp; omega
  have HX := Lib.hid (Blk.new w 25 #[.int .i64 5, .bool b0, .int .i64 n, .float .f64 f, .string s, .slice A l.length cap])
  have Hah := Lib.hid (fun W => ahead_any 5 W k0 k8)
  go_enter Tryd.func23, Tryd.ntmps23
  go_wp2_with fail
  refine (Hah.out _).mono ?_
  rintro e w1 ⟨rfl, rfl⟩
  go_wp2_with fail
  refine (wb_any _ (kby (rk 5 + 1)) HH.out rfl (by omega) hB1).mono ?_
  rintro e w1 ⟨rfl, hH1, hb1, hF1⟩
  have X1 := hF1 _ _ _ (by decide) (by simp; omega) HX.out
  have HH1 := Lib.hid hH1; have HB1 := Lib.hid (HB.out.trans hb1); have HF1 := Lib.hid (HF.out.trans hF1)
  have hs1 := hb1.size
  simp only [World.size_alloc] at hs1
  clear hH1 hb1 hF1
  have X10 : w1.cell? ⟨w.heap.size, 0, none⟩ = some (.int .i64 5) := (X1.cell 0).trans rfl
  have X11 : w1.cell? ⟨w.heap.size, 1, none⟩ = some (.bool b0) := (X1.cell 1).trans rfl
  have X12 : w1.cell? ⟨w.heap.size, 2, none⟩ = some (.int .i64 n) := (X1.cell 2).trans rfl
  have X13 : w1.cell? ⟨w.heap.size, 3, none⟩ = some (.float .f64 f) := (X1.cell 3).trans rfl
  have X14 : w1.cell? ⟨w.heap.size, 4, none⟩ = some (.string s) := (X1.cell 4).trans rfl
  have X15 : w1.cell? ⟨w.heap.size, 5, none⟩ = some (.slice A l.length cap) := (X1.cell 5).trans rfl
  have HX1 := Lib.hid X1; clear X1
  have HL1 := Lib.hid (RdSL.under Hl.out HB1.out (Nat.le_refl _) (Nat.le_refl _))
  go_wp2_with fail
  refine (putParts_any l IH.out (d + 1) A cap B b (x ++ [kby (rk 5 + 1)]) _ HCL.out HL1.out hm2 (by omega) (HM.out.under HB1.out) HH1.out (by simp; omega)).mono ?_
  rintro e w2 ⟨rfl, hH2, hb2, hF2⟩
  go_wp2_with fail
  go_end0
  exact ⟨rfl, by simpa using hH2, HB1.out.trans hb2, HF1.out.trans hF2⟩

set_option maxRecDepth 100000 in
theorem kput_map (n : Int) (b0 : Bool) (f : Nat) (s : ByteArray) (l : List T) (d : Nat) (v : Value) (B b : Nat) (x : List UInt8) (w : World) (ih : ∀ i (hi : i < l.length), KPutAt l[i]) (hck : chkT (.mk 6 b0 n f s l) d = 0) (h : Rd w B (.mk 6 b0 n f s l) v) (hB : B ≤ w.heap.size) (hM : Mx B w) (hH : Holds B b x w) (hlen : x.length + (keyT (.mk 6 b0 n f s l)).length ≤ 140737488355328) :
    Calls Tryd.prog 23 #[.pointer (some ⟨b, 0, none⟩), v] w fun e w' => e = .returned (.tuple #[]) ∧ Holds B b (x ++ keyT (.mk 6 b0 n f s l)) w' ∧ Below B w w' ∧ Fr b w w' := by
  obtain ⟨-, hsh, hss, -, hcl, -⟩ := chk_parts hck
  obtain ⟨k0, k8, -⟩ := shp_parts hsh
  clear hck hsh
  have HCL := Lib.hid (chkL_all hcl); clear hcl
  have HE := Lib.hid (show keyT (.mk 6 b0 n f s l) = kby (rk 6 + 1) :: keyL l by rw [keyT]; rfl)
  rw [HE.out] at hlen ⊢
  simp only [List.length_cons] at hlen
  have IH := Lib.hid ih; clear ih
  have HM := Lib.hid hM; clear hM
  obtain ⟨A, cap, rfl, hk, hn, hf, hs, hc, hm, hA, hl⟩ := h.open
  have Hn := Lib.hid hn; have Hf := Lib.hid hf; have Hl := Lib.hid hl
  have hm2 := hm.2
  clear hk hn hf hs hc hA hm h hl
  have hbl := hH.lt
  have HH := Lib.hid (hH.alloc (.cells #[.int .i64 6, .bool b0, .int .i64 n, .float .f64 f, .string s, .slice A l.length cap] 25)); clear hH
  have HB := Lib.hid ((Below.refl B w).alloc hB (.cells #[.int .i64 6, .bool b0, .int .i64 n, .float .f64 f, .string s, .slice A l.length cap] 25))
  have HF := Lib.hid (Fr.alloc b w (.cells #[.int .i64 6, .bool b0, .int .i64 n, .float .f64 f, .string s, .slice A l.length cap] 25))
  have hB1 : B ≤ (w.alloc (.cells #[.int .i64 6, .bool b0, .int .i64 n, .float .f64 f, .string s, .slice A l.length cap] 25)).heap.size := by simp; omega
  have HX := Lib.hid (Blk.new w 25 #[.int .i64 6, .bool b0, .int .i64 n, .float .f64 f, .string s, .slice A l.length cap])
  have Hah := Lib.hid (fun W => ahead_any 6 W k0 k8)
  go_enter Tryd.func23, Tryd.ntmps23
  go_wp2_with fail
  refine (Hah.out _).mono ?_
  rintro e w1 ⟨rfl, rfl⟩
  go_wp2_with fail
  refine (wb_any _ (kby (rk 6 + 1)) HH.out rfl (by omega) hB1).mono ?_
  rintro e w1 ⟨rfl, hH1, hb1, hF1⟩
  have X1 := hF1 _ _ _ (by decide) (by simp; omega) HX.out
  have HH1 := Lib.hid hH1; have HB1 := Lib.hid (HB.out.trans hb1); have HF1 := Lib.hid (HF.out.trans hF1)
  have hs1 := hb1.size
  simp only [World.size_alloc] at hs1
  clear hH1 hb1 hF1
  have X10 : w1.cell? ⟨w.heap.size, 0, none⟩ = some (.int .i64 6) := (X1.cell 0).trans rfl
  have X11 : w1.cell? ⟨w.heap.size, 1, none⟩ = some (.bool b0) := (X1.cell 1).trans rfl
  have X12 : w1.cell? ⟨w.heap.size, 2, none⟩ = some (.int .i64 n) := (X1.cell 2).trans rfl
  have X13 : w1.cell? ⟨w.heap.size, 3, none⟩ = some (.float .f64 f) := (X1.cell 3).trans rfl
  have X14 : w1.cell? ⟨w.heap.size, 4, none⟩ = some (.string s) := (X1.cell 4).trans rfl
  have X15 : w1.cell? ⟨w.heap.size, 5, none⟩ = some (.slice A l.length cap) := (X1.cell 5).trans rfl
  have HX1 := Lib.hid X1; clear X1
  have HL1 := Lib.hid (RdSL.under Hl.out HB1.out (Nat.le_refl _) (Nat.le_refl _))
  go_wp2_with fail
  refine (putParts_any l IH.out (d + 1) A cap B b (x ++ [kby (rk 6 + 1)]) _ HCL.out HL1.out hm2 (by omega) (HM.out.under HB1.out) HH1.out (by simp; omega)).mono ?_
  rintro e w2 ⟨rfl, hH2, hb2, hF2⟩
  go_wp2_with fail
  go_end0
  exact ⟨rfl, by simpa using hH2, HB1.out.trans hb2, HF1.out.trans hF2⟩

set_option maxRecDepth 100000 in
theorem kput_vertex (n : Int) (b0 : Bool) (f : Nat) (s : ByteArray) (l : List T) (d : Nat) (v : Value) (B b : Nat) (x : List UInt8) (w : World) (hck : chkT (.mk 7 b0 n f s l) d = 0) (h : Rd w B (.mk 7 b0 n f s l) v) (hB : B ≤ w.heap.size) (hM : Mx B w) (hH : Holds B b x w) (hlen : x.length + (keyT (.mk 7 b0 n f s l)).length ≤ 140737488355328) :
    Calls Tryd.prog 23 #[.pointer (some ⟨b, 0, none⟩), v] w fun e w' => e = .returned (.tuple #[]) ∧ Holds B b (x ++ keyT (.mk 7 b0 n f s l)) w' ∧ Below B w w' ∧ Fr b w w' := by
  obtain ⟨-, hsh, hss, -, hcl, -⟩ := chk_parts hck
  obtain ⟨k0, k8, -⟩ := shp_parts hsh
  clear hck hsh
  have HCL := Lib.hid (chkL_all hcl); clear hcl
  have HE := Lib.hid (show keyT (.mk 7 b0 n f s l) = kby (rk 7 + 1) :: eightL (word n) by rw [keyT]; rfl)
  rw [HE.out] at hlen ⊢
  have h8 := eightL_len (word n)
  simp only [List.length_cons, h8] at hlen
  have HM := Lib.hid hM; clear hM
  obtain ⟨A, cap, rfl, hk, hn, hf, hs, hc, hm, hA, hl⟩ := h.open
  have Hn := Lib.hid hn; have Hf := Lib.hid hf; have Hl := Lib.hid hl
  have hm2 := hm.2
  clear hk hn hf hs hc hA hm h hl
  have hbl := hH.lt
  have HH := Lib.hid (hH.alloc (.cells #[.int .i64 7, .bool b0, .int .i64 n, .float .f64 f, .string s, .slice A l.length cap] 25)); clear hH
  have HB := Lib.hid ((Below.refl B w).alloc hB (.cells #[.int .i64 7, .bool b0, .int .i64 n, .float .f64 f, .string s, .slice A l.length cap] 25))
  have HF := Lib.hid (Fr.alloc b w (.cells #[.int .i64 7, .bool b0, .int .i64 n, .float .f64 f, .string s, .slice A l.length cap] 25))
  have hB1 : B ≤ (w.alloc (.cells #[.int .i64 7, .bool b0, .int .i64 n, .float .f64 f, .string s, .slice A l.length cap] 25)).heap.size := by simp; omega
  have HX := Lib.hid (Blk.new w 25 #[.int .i64 7, .bool b0, .int .i64 n, .float .f64 f, .string s, .slice A l.length cap])
  have Hah := Lib.hid (fun W => ahead_any 7 W k0 k8)
  go_enter Tryd.func23, Tryd.ntmps23
  go_wp2_with fail
  refine (Hah.out _).mono ?_
  rintro e w1 ⟨rfl, rfl⟩
  go_wp2_with fail
  refine (wb_any _ (kby (rk 7 + 1)) HH.out rfl (by omega) hB1).mono ?_
  rintro e w1 ⟨rfl, hH1, hb1, hF1⟩
  have X1 := hF1 _ _ _ (by decide) (by simp; omega) HX.out
  have HH1 := Lib.hid hH1; have HB1 := Lib.hid (HB.out.trans hb1); have HF1 := Lib.hid (HF.out.trans hF1)
  have hs1 := hb1.size
  simp only [World.size_alloc] at hs1
  clear hH1 hb1 hF1
  have X10 : w1.cell? ⟨w.heap.size, 0, none⟩ = some (.int .i64 7) := (X1.cell 0).trans rfl
  have X11 : w1.cell? ⟨w.heap.size, 1, none⟩ = some (.bool b0) := (X1.cell 1).trans rfl
  have X12 : w1.cell? ⟨w.heap.size, 2, none⟩ = some (.int .i64 n) := (X1.cell 2).trans rfl
  have X13 : w1.cell? ⟨w.heap.size, 3, none⟩ = some (.float .f64 f) := (X1.cell 3).trans rfl
  have X14 : w1.cell? ⟨w.heap.size, 4, none⟩ = some (.string s) := (X1.cell 4).trans rfl
  have X15 : w1.cell? ⟨w.heap.size, 5, none⟩ = some (.slice A l.length cap) := (X1.cell 5).trans rfl
  have HX1 := Lib.hid X1; clear X1
  clear h8
  go_wp2_with fail
  refine (id_any n _).mono ?_
  rintro e w2 ⟨rfl, hb2⟩
  have hs2 := hb2.size
  go_wp2_with fail
  refine (ws_any (B := B) (l := x ++ [kby (rk 7 + 1)]) (eightS (word n)) (HH1.out.below hb2) (by rw [eight_size]; simp; omega) (by omega)).mono ?_
  rintro e w3 ⟨rfl, hH3, hb3, hF3⟩
  have HH3 := Lib.hid hH3; have HB3 := Lib.hid ((HB1.out.trans (hb2.mono (by omega))).trans hb3); have HF3 := Lib.hid ((HF1.out.trans (Fr.of_below hb2)).trans hF3)
  clear hH3 hb3 hF3
  go_wp2_with fail
  go_end0
  exact ⟨rfl, by have := HH3.out; simpa [eightL] using this, HB3.out, HF3.out⟩

set_option maxRecDepth 100000 in
theorem kput_edge (n : Int) (b0 : Bool) (f : Nat) (s : ByteArray) (l : List T) (d : Nat) (v : Value) (B b : Nat) (x : List UInt8) (w : World) (hck : chkT (.mk 8 b0 n f s l) d = 0) (h : Rd w B (.mk 8 b0 n f s l) v) (hB : B ≤ w.heap.size) (hM : Mx B w) (hH : Holds B b x w) (hlen : x.length + (keyT (.mk 8 b0 n f s l)).length ≤ 140737488355328) :
    Calls Tryd.prog 23 #[.pointer (some ⟨b, 0, none⟩), v] w fun e w' => e = .returned (.tuple #[]) ∧ Holds B b (x ++ keyT (.mk 8 b0 n f s l)) w' ∧ Below B w w' ∧ Fr b w w' := by
  obtain ⟨-, hsh, hss, -, hcl, -⟩ := chk_parts hck
  obtain ⟨k0, k8, -⟩ := shp_parts hsh
  clear hck hsh
  have HCL := Lib.hid (chkL_all hcl); clear hcl
  have HE := Lib.hid (show keyT (.mk 8 b0 n f s l) = kby (rk 8 + 1) :: eightL (word n) by rw [keyT]; rfl)
  rw [HE.out] at hlen ⊢
  have h8 := eightL_len (word n)
  simp only [List.length_cons, h8] at hlen
  have HM := Lib.hid hM; clear hM
  obtain ⟨A, cap, rfl, hk, hn, hf, hs, hc, hm, hA, hl⟩ := h.open
  have Hn := Lib.hid hn; have Hf := Lib.hid hf; have Hl := Lib.hid hl
  have hm2 := hm.2
  clear hk hn hf hs hc hA hm h hl
  have hbl := hH.lt
  have HH := Lib.hid (hH.alloc (.cells #[.int .i64 8, .bool b0, .int .i64 n, .float .f64 f, .string s, .slice A l.length cap] 25)); clear hH
  have HB := Lib.hid ((Below.refl B w).alloc hB (.cells #[.int .i64 8, .bool b0, .int .i64 n, .float .f64 f, .string s, .slice A l.length cap] 25))
  have HF := Lib.hid (Fr.alloc b w (.cells #[.int .i64 8, .bool b0, .int .i64 n, .float .f64 f, .string s, .slice A l.length cap] 25))
  have hB1 : B ≤ (w.alloc (.cells #[.int .i64 8, .bool b0, .int .i64 n, .float .f64 f, .string s, .slice A l.length cap] 25)).heap.size := by simp; omega
  have HX := Lib.hid (Blk.new w 25 #[.int .i64 8, .bool b0, .int .i64 n, .float .f64 f, .string s, .slice A l.length cap])
  have Hah := Lib.hid (fun W => ahead_any 8 W k0 k8)
  go_enter Tryd.func23, Tryd.ntmps23
  go_wp2_with fail
  refine (Hah.out _).mono ?_
  rintro e w1 ⟨rfl, rfl⟩
  go_wp2_with fail
  refine (wb_any _ (kby (rk 8 + 1)) HH.out rfl (by omega) hB1).mono ?_
  rintro e w1 ⟨rfl, hH1, hb1, hF1⟩
  have X1 := hF1 _ _ _ (by decide) (by simp; omega) HX.out
  have HH1 := Lib.hid hH1; have HB1 := Lib.hid (HB.out.trans hb1); have HF1 := Lib.hid (HF.out.trans hF1)
  have hs1 := hb1.size
  simp only [World.size_alloc] at hs1
  clear hH1 hb1 hF1
  have X10 : w1.cell? ⟨w.heap.size, 0, none⟩ = some (.int .i64 8) := (X1.cell 0).trans rfl
  have X11 : w1.cell? ⟨w.heap.size, 1, none⟩ = some (.bool b0) := (X1.cell 1).trans rfl
  have X12 : w1.cell? ⟨w.heap.size, 2, none⟩ = some (.int .i64 n) := (X1.cell 2).trans rfl
  have X13 : w1.cell? ⟨w.heap.size, 3, none⟩ = some (.float .f64 f) := (X1.cell 3).trans rfl
  have X14 : w1.cell? ⟨w.heap.size, 4, none⟩ = some (.string s) := (X1.cell 4).trans rfl
  have X15 : w1.cell? ⟨w.heap.size, 5, none⟩ = some (.slice A l.length cap) := (X1.cell 5).trans rfl
  have HX1 := Lib.hid X1; clear X1
  clear h8
  go_wp2_with fail
  refine (id_any n _).mono ?_
  rintro e w2 ⟨rfl, hb2⟩
  have hs2 := hb2.size
  go_wp2_with fail
  refine (ws_any (B := B) (l := x ++ [kby (rk 8 + 1)]) (eightS (word n)) (HH1.out.below hb2) (by rw [eight_size]; simp; omega) (by omega)).mono ?_
  rintro e w3 ⟨rfl, hH3, hb3, hF3⟩
  have HH3 := Lib.hid hH3; have HB3 := Lib.hid ((HB1.out.trans (hb2.mono (by omega))).trans hb3); have HF3 := Lib.hid ((HF1.out.trans (Fr.of_below hb2)).trans hF3)
  clear hH3 hb3 hF3
  go_wp2_with fail
  go_end0
  exact ⟨rfl, by have := HH3.out; simpa [eightL] using this, HB3.out, HF3.out⟩

set_option maxRecDepth 100000 in
theorem kput_null (n : Int) (b0 : Bool) (f : Nat) (s : ByteArray) (l : List T) (d : Nat) (v : Value) (B b : Nat) (x : List UInt8) (w : World) (hck : chkT (.mk 0 b0 n f s l) d = 0) (h : Rd w B (.mk 0 b0 n f s l) v) (hB : B ≤ w.heap.size) (hM : Mx B w) (hH : Holds B b x w) (hlen : x.length + (keyT (.mk 0 b0 n f s l)).length ≤ 140737488355328) :
    Calls Tryd.prog 23 #[.pointer (some ⟨b, 0, none⟩), v] w fun e w' => e = .returned (.tuple #[]) ∧ Holds B b (x ++ keyT (.mk 0 b0 n f s l)) w' ∧ Below B w w' ∧ Fr b w w' := by
  obtain ⟨-, hsh, hss, -, hcl, -⟩ := chk_parts hck
  obtain ⟨k0, k8, -⟩ := shp_parts hsh
  clear hck hsh
  have HCL := Lib.hid (chkL_all hcl); clear hcl
  have HE := Lib.hid (show keyT (.mk 0 b0 n f s l) = kby (rk 0 + 1) :: [] by rw [keyT]; rfl)
  rw [HE.out] at hlen ⊢
  simp only [List.length_cons, List.length_nil] at hlen
  have HM := Lib.hid hM; clear hM
  obtain ⟨A, cap, rfl, hk, hn, hf, hs, hc, hm, hA, hl⟩ := h.open
  have Hn := Lib.hid hn; have Hf := Lib.hid hf; have Hl := Lib.hid hl
  have hm2 := hm.2
  clear hk hn hf hs hc hA hm h hl
  have hbl := hH.lt
  have HH := Lib.hid (hH.alloc (.cells #[.int .i64 0, .bool b0, .int .i64 n, .float .f64 f, .string s, .slice A l.length cap] 25)); clear hH
  have HB := Lib.hid ((Below.refl B w).alloc hB (.cells #[.int .i64 0, .bool b0, .int .i64 n, .float .f64 f, .string s, .slice A l.length cap] 25))
  have HF := Lib.hid (Fr.alloc b w (.cells #[.int .i64 0, .bool b0, .int .i64 n, .float .f64 f, .string s, .slice A l.length cap] 25))
  have hB1 : B ≤ (w.alloc (.cells #[.int .i64 0, .bool b0, .int .i64 n, .float .f64 f, .string s, .slice A l.length cap] 25)).heap.size := by simp; omega
  have HX := Lib.hid (Blk.new w 25 #[.int .i64 0, .bool b0, .int .i64 n, .float .f64 f, .string s, .slice A l.length cap])
  have Hah := Lib.hid (fun W => ahead_any 0 W k0 k8)
  go_enter Tryd.func23, Tryd.ntmps23
  go_wp2_with fail
  refine (Hah.out _).mono ?_
  rintro e w1 ⟨rfl, rfl⟩
  go_wp2_with fail
  refine (wb_any _ (kby (rk 0 + 1)) HH.out rfl (by omega) hB1).mono ?_
  rintro e w1 ⟨rfl, hH1, hb1, hF1⟩
  have X1 := hF1 _ _ _ (by decide) (by simp; omega) HX.out
  have HH1 := Lib.hid hH1; have HB1 := Lib.hid (HB.out.trans hb1); have HF1 := Lib.hid (HF.out.trans hF1)
  have hs1 := hb1.size
  simp only [World.size_alloc] at hs1
  clear hH1 hb1 hF1
  have X10 : w1.cell? ⟨w.heap.size, 0, none⟩ = some (.int .i64 0) := (X1.cell 0).trans rfl
  have X11 : w1.cell? ⟨w.heap.size, 1, none⟩ = some (.bool b0) := (X1.cell 1).trans rfl
  have X12 : w1.cell? ⟨w.heap.size, 2, none⟩ = some (.int .i64 n) := (X1.cell 2).trans rfl
  have X13 : w1.cell? ⟨w.heap.size, 3, none⟩ = some (.float .f64 f) := (X1.cell 3).trans rfl
  have X14 : w1.cell? ⟨w.heap.size, 4, none⟩ = some (.string s) := (X1.cell 4).trans rfl
  have X15 : w1.cell? ⟨w.heap.size, 5, none⟩ = some (.slice A l.length cap) := (X1.cell 5).trans rfl
  have HX1 := Lib.hid X1; clear X1
  go_wp2_with fail
  go_end0
  exact ⟨rfl, by have := HH1.out; simpa using this, HB1.out, HF1.out⟩

theorem kput_at (t : T) : KPutAt t := by
  induction t using T.ind with | h k b0 n f s l ih => _
  intro d v B b x w hck h hB hM hH hlen
  obtain ⟨-, hsh, -⟩ := chk_parts hck
  obtain ⟨k0, k8, -⟩ := shp_parts hsh
  by_cases k1 : k = 1
  · subst k1
    cases b0
    · exact kput_bool_f n f s l d v B b x w hck h hB hM hH hlen
    · exact kput_bool_t n f s l d v B b x w hck h hB hM hH hlen
  by_cases k2 : k = 2
  · subst k2; exact kput_int n b0 f s l d v B b x w hck h hB hM hH hlen
  by_cases k3 : k = 3
  · subst k3; exact kput_float n b0 f s l d v B b x w hck h hB hM hH hlen
  by_cases k4 : k = 4
  · subst k4; exact kput_text n b0 f s l d v B b x w hck h hB hM hH hlen
  by_cases k5 : k = 5
  · subst k5; exact kput_list n b0 f s l d v B b x w ih hck h hB hM hH hlen
  by_cases k6 : k = 6
  · subst k6; exact kput_map n b0 f s l d v B b x w ih hck h hB hM hH hlen
  by_cases k7 : k = 7
  · subst k7; exact kput_vertex n b0 f s l d v B b x w hck h hB hM hH hlen
  by_cases k8' : k = 8
  · subst k8'; exact kput_edge n b0 f s l d v B b x w hck h hB hM hH hlen
  obtain rfl : k = 0 := by omega
  exact kput_null n b0 f s l d v B b x w hck h hB hM hH hlen

end Go.Proofs.YtigepnhnccfpiaaDoor
