/- parse: the same predicates, the same steps, by the reference -/
import Derived.Test.YtnehbpfgdeilhaaGreatDoorPaX
import Derived.Test.YtnehbpfgdeilhaaGreatDoorSame
import Derived.Deep.RegionHeld3

namespace Go.Proofs.YtnehbpfgdeilhaaGreatDoor
open Go.ChangeShapes Go.WideShapes Go.ChangeAt Go.RowKit Go.Fl

mutual
theorem smT_self : ∀ t : T, smT t t = true
  | .mk k b n f s l => by
    rw [smT, smL_self l, Bool.and_true]
    unfold hdB
    simp
theorem smL_self : ∀ l : List T, smL l l = true
  | [] => rfl
  | x :: r => by rw [smL, smT_self x, smL_self r]; rfl
end

/-- the same tree on both sides: Same -/
theorem same_self {t : T} {v v' : Value} {w : World} (h : Rd w w.heap.size t v) (h' : Rd w w.heap.size t v') : Calls Tryz.prog 11 #[v, v'] w fun e w' => e = .returned (.bool true) ∧ Below w.heap.size w w' := by
  have := sm_at t t v v' w h h'
  rw [smT_self] at this
  exact this

/-- all blocks -/
abbrev Al (w : World) : Nat → Prop := fun b => 0 ≤ b ∧ b < w.heap.size

theorem Al.on {α : Type} {R : World → (Nat → Prop) → α → Value → Prop} (hK : KeepS R) {w w' : World} {x : α} {v : Value} (h : R w (Al w) x v) (hb : Below w.heap.size w w') : R w' (Al w') x v :=
  hK _ _ _ _ _ _ (fun _ hp => hb.cell hp.2) (fun _ hp => ⟨Nat.zero_le _, Nat.lt_of_lt_of_le hp.2 hb.size⟩) h

/-- a row's slice, and its elements' cells -/
theorem LstS.look {α : Type} {R : World → (Nat → Prop) → α → Value → Prop} {sz : Nat} {w : World} {S : Nat → Prop} {l : List α} {v : Value} (h : LstS R sz w S l v) : ∃ A c, v = .slice A l.length c ∧ l.length ≤ c ∧ c ≤ 9223372036854775807 ∧
    ∀ j (hj : j < l.length), ∃ g u, A = some ⟨g, 0, none⟩ ∧ S g ∧ (∀ k x, u.cells[k]? = some x → w.cell? ⟨g, j * sz + k, none⟩ = some x) ∧ R w S l[j] u := by
  rcases h with ⟨rfl, rfl⟩ | ⟨g, cap, rfl, h1, h2, h3, h5⟩
  · exact ⟨none, 0, rfl, Nat.le_refl _, by decide, fun j hj => absurd hj (Nat.not_lt_zero _)⟩
  · exact ⟨some ⟨g, 0, none⟩, cap, rfl, h1, h2, fun j hj => by obtain ⟨u, h6, h7⟩ := h5 j hj; exact ⟨g, u, rfl, h3, h6, h7⟩⟩

def SpAt (n : Nat) : Prop := ∀ (p : Pd) (v v' : Value) (w : World), RdPN n w (Al w) p v → RdPN n w (Al w) p v' →
  Calls Tryz.prog 12 #[v, v'] w fun e w' => e = .returned (.bool true) ∧ Below w.heap.size w w'

set_option maxHeartbeats 4000000 in
set_option maxRecDepth 100000 in
theorem sp_step (n : Nat) (op : ByteArray) (l : List T) (kids : List Pd) (A A' B B' : Option Addr) (c c' d d' : Nat) (w : World) (hl : LstS RdS 6 w (Al w) l (.slice A l.length c)) (hl' : LstS RdS 6 w (Al w) l (.slice A' l.length c'))
    (hk : LstS (RdPN n) 3 w (Al w) kids (.slice B kids.length d)) (hk' : LstS (RdPN n) 3 w (Al w) kids (.slice B' kids.length d')) (ih : kids ≠ [] → SpAt n) (hm : l.length ≤ 9223372036854775807) (hm2 : kids.length ≤ 9223372036854775807) :
    Calls Tryz.prog 12 #[.agg #[.string op, .slice A l.length c, .slice B kids.length d], .agg #[.string op, .slice A' l.length c', .slice B' kids.length d']] w fun e w' => e = .returned (.bool true) ∧ Below w.heap.size w w' := by
  have e1 : (op.toList != op.toList) = false := by simp
  have e2 : (op.toList == op.toList) = true := by simp
  have e3 : ((l.length : Int) != (l.length : Int)) = false := by simp
  have e4 : ((kids.length : Int) != (kids.length : Int)) = false := by simp
  obtain ⟨w2, hw2⟩ : ∃ w2, (w.alloc (.cells #[.string op, .slice A l.length c, .slice B kids.length d] 46)).alloc (.cells #[.string op, .slice A' l.length c', .slice B' kids.length d'] 46) = w2 := ⟨_, rfl⟩
  have hb2 : Below w.heap.size w w2 := by rw [← hw2]; exact ((Below.refl _ _).alloc (Nat.le_refl _) _).alloc (by simp) _
  have hs2 : w2.heap.size = w.heap.size + 2 := by rw [← hw2]; simp
  have hx : Blk w2 w.heap.size 46 #[.string op, .slice A l.length c, .slice B kids.length d] := by rw [← hw2]; exact (Blk.new w _ _).below ((Below.refl _ _).alloc (Nat.le_refl _) _) (by simp)
  have hy : Blk w2 (w.heap.size + 1) 46 #[.string op, .slice A' l.length c', .slice B' kids.length d'] := by
    rw [← hw2]
    have := Blk.new (w.alloc (.cells #[.string op, .slice A l.length c, .slice B kids.length d] 46)) 46 #[.string op, .slice A' l.length c', .slice B' kids.length d']
    simpa using this
  have x0 : w2.cell? ⟨w.heap.size, 0, none⟩ = some (.string op) := hx.cell 0
  have x1 : w2.cell? ⟨w.heap.size, 1, none⟩ = some (.slice A l.length c) := hx.cell 1
  have x2 : w2.cell? ⟨w.heap.size, 2, none⟩ = some (.slice B kids.length d) := hx.cell 2
  have y0 : w2.cell? ⟨w.heap.size + 1, 0, none⟩ = some (.string op) := hy.cell 0
  have y1 : w2.cell? ⟨w.heap.size + 1, 1, none⟩ = some (.slice A' l.length c') := hy.cell 1
  have y2 : w2.cell? ⟨w.heap.size + 1, 2, none⟩ = some (.slice B' kids.length d') := hy.cell 2
  have H2 := Lib.hid (And.intro hb2 (And.intro hs2 (And.intro hx hy)))
  have HL := Lib.hid (And.intro hl hl')
  have HK := Lib.hid (And.intro hk hk')
  have IH := Lib.hid ih
  clear hb2 hs2 hx hy hl hl' hk hk' ih
  go_enter Tryz.func12, Tryz.ntmps12
  go_wp2_with fail
  go_loopw [5] (fun si wr => ∃ i : Nat, i ≤ l.length ∧ si = .int .i64 i ∧ Hid (Below w2.heap.size w2 wr)) (fun si _ => l.length - (intOf si).toNat)
  case atStart => exact ⟨0, by omega, rfl, Lib.hid (Below.refl _ _)⟩
  case round =>
    obtain ⟨i, hi, rfl, Hbr⟩ := hrel
    have hbw := H2.out.1.trans (Hbr.out.mono (by have := H2.out.2.1; omega))
    have hx' := H2.out.2.2.1.below Hbr.out (by have := H2.out.2.1; omega)
    have hy' := H2.out.2.2.2.below Hbr.out (by have := H2.out.2.1; omega)
    have q1 : wr.cell? ⟨w.heap.size, 1, none⟩ = some (.slice A l.length c) := hx'.cell 1
    have q2 : wr.cell? ⟨w.heap.size, 2, none⟩ = some (.slice B kids.length d) := hx'.cell 2
    have r1 : wr.cell? ⟨w.heap.size + 1, 1, none⟩ = some (.slice A' l.length c') := hy'.cell 1
    have r2 : wr.cell? ⟨w.heap.size + 1, 2, none⟩ = some (.slice B' kids.length d') := hy'.cell 2
    have HB := Lib.hid hbw
    clear hx' hy'
    by_cases hlt : i < l.length
    · obtain ⟨A1, k1, hA1, -, -, -, hrl⟩ := HL.out.1.vals
      obtain ⟨A2, k2, hA2, -, -, -, hrl'⟩ := HL.out.2.vals
      cases hA1
      cases hA2
      obtain ⟨a, k, b, m, f, s, q, D, capi, rfl, hab, -, hrd, e0, e1, e2, e3, e4, e5⟩ := (hrl.on hbw).item hlt
      obtain ⟨a', k', b', m', f', s', q', D', capi', rfl, hab', -, hrd', e0', e1', e2', e3', e4', e5'⟩ := (hrl'.on hbw).item hlt
      have HSm := Lib.hid (same_self (hrd.on ((Below.refl _ _).drew)) (hrd'.on ((Below.refl _ _).drew)))
      have hltI : (i : Int) < (l.length : Int) := by omega
      clear hrl hrl' hab hab' hrd hrd' hbw
      go_wp2_with fail
      go_still_tail 10, (by kernel_rfl)
      go_wp2_with fail
      refine HSm.out.mono ?_
      rintro e w3 ⟨rfl, hb3⟩
      have hb4 : Hid (Below w2.heap.size w2 w3) := Lib.hid (Hbr.out.trans (((Below.refl wr.heap.size wr).drew.trans hb3).mono Hbr.out.size))
      clear hb3
      go_wp2_with fail
      go_roundw
      case rel => exact ⟨i + 1, by omega, by go_num, hb4⟩
      case measure => simp [intOf]; omega
    · have hltI : decide ((i : Int) < (l.length : Int)) = false := by rw [decide_eq_false_iff_not]; omega
      clear hbw
      go_wp2_with fail
      rename World => wo
      go_loopw [6] (fun si ws => ∃ j : Nat, j ≤ kids.length ∧ si = .int .i64 j ∧ Hid (Below wo.heap.size wo ws)) (fun si _ => kids.length - (intOf si).toNat)
      case atStart => exact ⟨0, by omega, rfl, Lib.hid (Below.refl _ _)⟩
      case round =>
        obtain ⟨j, hj, rfl, Hbs⟩ := hrel
        have hbs := HB.out.trans (Hbs.out.mono HB.out.size)
        have hx'' := H2.out.2.2.1.below (Hbr.out.trans (Hbs.out.mono Hbr.out.size)) (by have := H2.out.2.1; omega)
        have hy'' := H2.out.2.2.2.below (Hbr.out.trans (Hbs.out.mono Hbr.out.size)) (by have := H2.out.2.1; omega)
        have s2 : wr.cell? ⟨w.heap.size, 2, none⟩ = some (.slice B kids.length d) := hx''.cell 2
        have t2 : wr.cell? ⟨w.heap.size + 1, 2, none⟩ = some (.slice B' kids.length d') := hy''.cell 2
        clear hx'' hy''
        by_cases hlt2 : j < kids.length
        · obtain ⟨B1, k1, hB1, hk1, hk1m, hr1⟩ := HK.out.1.look
          obtain ⟨B2, k2, hB2, hk2, hk2m, hr2⟩ := HK.out.2.look
          cases hB1
          cases hB2
          obtain ⟨g, u, rfl, hSg, hcu, hru⟩ := hr1 j hlt2
          obtain ⟨g', u', rfl, hSg', hcu', hru'⟩ := hr2 j hlt2
          have hIH := IH.out (by intro e; rw [e] at hlt2; exact absurd hlt2 (Nat.not_lt_zero _)) kids[j] u u' wr.drew (Al.on (keepS_P n) (Al.on (keepS_P n) hru hbs) ((Below.refl _ _).drew)) (Al.on (keepS_P n) (Al.on (keepS_P n) hru' hbs) ((Below.refl _ _).drew))
          rcases hkj : kids[j] with ⟨kop, kl, kk⟩
          rw [hkj] at hru hru'
          obtain ⟨lA, lc, kA, kc, rfl⟩ := RdP.shape ⟨n, hru⟩
          obtain ⟨lA', lc', kA', kc', rfl⟩ := RdP.shape ⟨n, hru'⟩
          have v0 : wr.cell? ⟨g, j * 3, none⟩ = some (.string kop) := (hbs.cell (p := ⟨g, j * 3, none⟩) hSg.2).trans (hcu 0 _ rfl)
          have v1 : wr.cell? ⟨g, j * 3 + 1, none⟩ = some (.slice lA kl.length lc) := (hbs.cell (p := ⟨g, j * 3 + 1, none⟩) hSg.2).trans (hcu 1 _ rfl)
          have v2 : wr.cell? ⟨g, j * 3 + 2, none⟩ = some (.slice kA kk.length kc) := (hbs.cell (p := ⟨g, j * 3 + 2, none⟩) hSg.2).trans (hcu 2 _ rfl)
          have v0' : wr.cell? ⟨g', j * 3, none⟩ = some (.string kop) := (hbs.cell (p := ⟨g', j * 3, none⟩) hSg'.2).trans (hcu' 0 _ rfl)
          have v1' : wr.cell? ⟨g', j * 3 + 1, none⟩ = some (.slice lA' kl.length lc') := (hbs.cell (p := ⟨g', j * 3 + 1, none⟩) hSg'.2).trans (hcu' 1 _ rfl)
          have v2' : wr.cell? ⟨g', j * 3 + 2, none⟩ = some (.slice kA' kk.length kc') := (hbs.cell (p := ⟨g', j * 3 + 2, none⟩) hSg'.2).trans (hcu' 2 _ rfl)
          have HIH := Lib.hid hIH
          have hltJ : (j : Int) < (kids.length : Int) := by omega
          clear hr1 hr2 hcu hcu' hru hru' hSg hSg' hIH hkj hbs
          go_wp2_with fail
          go_still_tail 10, (by kernel_rfl)
          go_wp2_with fail
          refine HIH.out.mono ?_
          rintro e w3 ⟨rfl, hb3⟩
          have hb4 : Hid (Below wo.heap.size wo w3) := Lib.hid (Hbs.out.trans (((Below.refl wr.heap.size wr).drew.trans hb3).mono Hbs.out.size))
          clear hb3
          go_wp2_with fail
          go_roundw
          case rel => exact ⟨j + 1, by omega, by go_num, hb4⟩
          case measure => simp [intOf]; omega
        · have hltJ : decide ((j : Int) < (kids.length : Int)) = false := by rw [decide_eq_false_iff_not]; omega
          go_wp2_with fail
          go_ret
          exact ⟨rfl, hbs⟩

theorem sp_at : ∀ n, SpAt n
  | 0 => by
    rintro ⟨op, l, kids⟩ v v' w ⟨lv, rfl, h1, rfl⟩ ⟨lv', rfl, h1', -⟩
    obtain ⟨A, c, rfl, hc, hm, -⟩ := h1.look
    obtain ⟨A', c', rfl, -⟩ := h1'.look
    exact sp_step 0 op l [] A A' none none c c' 0 0 w h1 h1' (.inl ⟨rfl, rfl⟩) (.inl ⟨rfl, rfl⟩) (fun h => absurd rfl h) (Nat.le_trans hc hm) (Nat.zero_le _)
  | n + 1 => by
    rintro ⟨op, l, kids⟩ v v' w ⟨lv, kv, rfl, h1, h2⟩ ⟨lv', kv', rfl, h1', h2'⟩
    obtain ⟨A, c, rfl, hc, hm, -⟩ := h1.look
    obtain ⟨A', c', rfl, -⟩ := h1'.look
    obtain ⟨B, d, rfl, hd, hn, -⟩ := h2.look
    obtain ⟨B', d', rfl, -⟩ := h2'.look
    exact sp_step n op l kids A A' B B' c c' d d' w h1 h1' h2 h2' (fun _ => sp_at n) (Nat.le_trans hc hm) (Nat.le_trans hd hn)

theorem spred_self {p : Pd} {v v' : Value} {w : World} (h : RdP w (Al w) p v) (h' : RdP w (Al w) p v') : Calls Tryz.prog 12 #[v, v'] w fun e w' => e = .returned (.bool true) ∧ Below w.heap.size w w' := by
  obtain ⟨n, h⟩ := h
  obtain ⟨m, h'⟩ := h'
  exact sp_at (max n m) p v v' w (rdP_le (Nat.le_max_left _ _) h) (rdP_le (Nat.le_max_right _ _) h')

end Go.Proofs.YtnehbpfgdeilhaaGreatDoor

namespace Go.Proofs.YtnehbpfgdeilhaaGreatDoor
open Go.ChangeShapes Go.WideShapes Go.ChangeAt Go.RowKit Go.Fl

def SsAt (k : Nat) : Prop := ∀ (l : List Sp) (v v' : Value) (w : World), RdTr k w (Al w) l v → RdTr k w (Al w) l v' →
  Calls Tryz.prog 7 #[v, v'] w fun e w' => e = .returned (.bool true) ∧ Below w.heap.size w w'

theorem stp_look {R : World → (Nat → Prop) → List Sp → Value → Prop} {w : World} {S : Nat → Prop} {nm : ByteArray} {args : List Ag} {u : Value} (h : RdStp R w S (.mk nm args) u) : ∃ A c, u = .agg #[.string nm, .slice A args.length c] ∧ LstS (RdArg R) 11 w S args (.slice A args.length c) := by
  obtain ⟨av, rfl, h2⟩ := h
  obtain ⟨A, c, rfl⟩ := h2.shape
  exact ⟨A, c, rfl, h2⟩

theorem blk_drew {w : World} {g : Nat} {t : TypeId} {cs : Array Value} (h : Blk w g t cs) : Blk w.drew g t cs := h

theorem cells11 {w : World} {g : Nat} {t : TypeId} {v0 v1 v2 v3 v4 v5 v6 v7 v8 v9 v10 : Value} (h : Blk w g t #[v0, v1, v2, v3, v4, v5, v6, v7, v8, v9, v10]) :
    (w.cell? ⟨g, 0, none⟩ = some v0 ∧ w.cell? ⟨g, 1, none⟩ = some v1 ∧ w.cell? ⟨g, 2, none⟩ = some v2 ∧ w.cell? ⟨g, 3, none⟩ = some v3 ∧ w.cell? ⟨g, 4, none⟩ = some v4 ∧ w.cell? ⟨g, 5, none⟩ = some v5 ∧ w.cell? ⟨g, 6, none⟩ = some v6 ∧ w.cell? ⟨g, 7, none⟩ = some v7 ∧ w.cell? ⟨g, 8, none⟩ = some v8 ∧ w.cell? ⟨g, 9, none⟩ = some v9 ∧ w.cell? ⟨g, 10, none⟩ = some v10) ∧ True :=
  ⟨⟨h.cell 0, h.cell 1, h.cell 2, h.cell 3, h.cell 4, h.cell 5, h.cell 6, h.cell 7, h.cell 8, h.cell 9, h.cell 10⟩, trivial⟩

set_option maxHeartbeats 16000000 in
set_option maxRecDepth 100000 in
theorem ss_step (k : Nat) (ih : SsAt k) (l : List Sp) (A A' : Option Addr) (c c' : Nat) (w : World) (h : LstS (RdStp (RdTr k)) 2 w (Al w) l (.slice A l.length c)) (h' : LstS (RdStp (RdTr k)) 2 w (Al w) l (.slice A' l.length c')) (hm : l.length ≤ 9223372036854775807) :
    Calls Tryz.prog 7 #[.slice A l.length c, .slice A' l.length c'] w fun e w' => e = .returned (.bool true) ∧ Below w.heap.size w w' := by
  have e0 : ((l.length : Int) != (l.length : Int)) = false := by simp
  have e0' : (l.length != l.length) = false := by simp
  have H := Lib.hid (And.intro h h')
  have IH := Lib.hid ih
  clear h h' ih
  go_enter Tryz.func7, Tryz.ntmps7
  go_wp2_with fail
  go_loopw [5] (fun si wr => ∃ i : Nat, i ≤ l.length ∧ si = .int .i64 i ∧ Hid (Below w.heap.size w wr)) (fun si _ => l.length - (intOf si).toNat)
  case atStart => exact ⟨0, by omega, rfl, Lib.hid (Below.refl _ _)⟩
  case round =>
    obtain ⟨i, hi, rfl, Hbr⟩ := hrel
    by_cases hlt : i < l.length
    · obtain ⟨A1, k1, hA1, hk1, hk1m, hr1⟩ := H.out.1.look
      obtain ⟨A2, k2, hA2, hk2, hk2m, hr2⟩ := H.out.2.look
      cases hA1
      cases hA2
      obtain ⟨g, u, rfl, hSg, hcu, hru⟩ := hr1 i hlt
      obtain ⟨g', u', rfl, hSg', hcu', hru'⟩ := hr2 i hlt
      rcases hli : l[i] with ⟨nm, args⟩
      rw [hli] at hru hru'
      obtain ⟨a, ac, rfl, hag⟩ := stp_look hru
      obtain ⟨a', ac', rfl, hag'⟩ := stp_look hru'
      have v0 : wr.cell? ⟨g, i * 2, none⟩ = some (.string nm) := (Hbr.out.cell (p := ⟨g, i * 2, none⟩) hSg.2).trans (hcu 0 _ rfl)
      have v1 : wr.cell? ⟨g, i * 2 + 1, none⟩ = some (.slice a args.length ac) := (Hbr.out.cell (p := ⟨g, i * 2 + 1, none⟩) hSg.2).trans (hcu 1 _ rfl)
      have v0' : wr.cell? ⟨g', i * 2, none⟩ = some (.string nm) := (Hbr.out.cell (p := ⟨g', i * 2, none⟩) hSg'.2).trans (hcu' 0 _ rfl)
      have v1' : wr.cell? ⟨g', i * 2 + 1, none⟩ = some (.slice a' args.length ac') := (Hbr.out.cell (p := ⟨g', i * 2 + 1, none⟩) hSg'.2).trans (hcu' 1 _ rfl)
      have e1 : (nm.toList != nm.toList) = false := by simp
      have e2 : (nm.toList == nm.toList) = true := by simp
      have e3 : ((args.length : Int) != (args.length : Int)) = false := by simp
      have e4 : (args.length != args.length) = false := by simp
      have hltI : (i : Int) < (l.length : Int) := by omega
      have hga := hSg.2
      have hga' := hSg'.2
      have HA := Lib.hid (And.intro hag hag')
      have Hg := Lib.hid (And.intro hSg hSg')
      clear hr1 hr2 hcu hcu' hru hru' hag hag' hli hSg hSg'
      go_wp2_with fail
      go_big_quiet (fail)
      go_wp2_with fail
      rename World => wo
      go_loopw [6] (fun si wr => ∃ j : Nat, j ≤ args.length ∧ si = .int .i64 j ∧ Hid (Below w.heap.size w wr)) (fun si _ => args.length - (intOf si).toNat)
      case atStart => exact ⟨0, by omega, rfl, Lib.hid (below_drewN Hbr.out nq)⟩
      case round =>
        obtain ⟨j, hj, rfl, Hbs⟩ := hrel
        have v1 : wr.cell? ⟨g, i * 2 + 1, none⟩ = some (.slice a args.length ac) := (Hbs.out.cell (p := ⟨g, i * 2 + 1, none⟩) hga).trans ((Hbr.out.cell (p := ⟨g, i * 2 + 1, none⟩) hga).symm.trans v1)
        have v1' : wr.cell? ⟨g', i * 2 + 1, none⟩ = some (.slice a' args.length ac') := (Hbs.out.cell (p := ⟨g', i * 2 + 1, none⟩) hga').trans ((Hbr.out.cell (p := ⟨g', i * 2 + 1, none⟩) hga').symm.trans v1')
        by_cases hltj : j < args.length
        · obtain ⟨B1, m1, hB1, hm1, hm1m, hs1⟩ := HA.out.1.look
          obtain ⟨B2, m2, hB2, hm2, hm2m, hs2⟩ := HA.out.2.look
          cases hB1
          cases hB2
          obtain ⟨f, u, rfl, hSf, hcf, hrf⟩ := hs1 j hltj
          obtain ⟨f', u', rfl, hSf', hcf', hrf'⟩ := hs2 j hltj
          rcases haj : args[j] with ⟨ak, av, ap, aq⟩
          rw [haj] at hrf hrf'
          obtain ⟨x0, x1, x2, x3, x4, x5, p0, p1, p2, tv, rfl, hxv, hxp, hxt⟩ := hrf
          obtain ⟨x0', x1', x2', x3', x4', x5', p0', p1', p2', tv', rfl, hxv', hxp', hxt'⟩ := hrf'
          have HV := Lib.hid (fun W (hb : Below w.heap.size w W) => same_self (Al.on keepS_T hxv hb) (Al.on keepS_T hxv' hb))
          have HP := Lib.hid (fun W (hb : Below w.heap.size w W) => spred_self (Al.on keepS_Pd hxp hb) (Al.on keepS_Pd hxp' hb))
          have HT := Lib.hid (fun W (hb : Below w.heap.size w W) => IH.out aq tv tv' W (Al.on (keepS_Tr k) hxt hb) (Al.on (keepS_Tr k) hxt' hb))
          obtain ⟨zk, zb, zn, zf, zs, zl⟩ := av
          obtain ⟨zA, zc, hz, -⟩ := RdS.open hxv
          obtain ⟨zA', zc', hz', -⟩ := RdS.open hxv'
          obtain ⟨pop, pl, pk⟩ := ap
          obtain ⟨pA, pc, pB, pe, hp⟩ := RdP.shape hxp
          obtain ⟨pA', pc', pB', pe', hp'⟩ := RdP.shape hxp'
          obtain ⟨tA, tc, rfl⟩ := rdTr_shape _ _ _ _ _ hxt
          obtain ⟨tA', tc', rfl⟩ := rdTr_shape _ _ _ _ _ hxt'
          injection hz with hz
          injection hz' with hz'
          injection hp with hp
          injection hp' with hp'
          simp only [Array.mk.injEq, List.cons.injEq, and_true] at hz hz' hp hp'
          obtain ⟨rfl, rfl, rfl, rfl, rfl, rfl⟩ := hz
          obtain ⟨rfl, rfl, rfl, rfl, rfl, rfl⟩ := hz'
          obtain ⟨rfl, rfl, rfl⟩ := hp
          obtain ⟨rfl, rfl, rfl⟩ := hp'
          have hltJ : (j : Int) < (args.length : Int) := by omega
          have k0_0 : wr.cell? ⟨f, j * 11, none⟩ = some (.int .i64 ak) := (Hbs.out.cell (p := ⟨f, j * 11, none⟩) hSf.2).trans (hcf 0 _ rfl)
          have k0_1 : wr.cell? ⟨f, j * 11 + 1, none⟩ = some (.int .i64 zk) := (Hbs.out.cell (p := ⟨f, j * 11 + 1, none⟩) hSf.2).trans (hcf 1 _ rfl)
          have k0_2 : wr.cell? ⟨f, j * 11 + 2, none⟩ = some (.bool zb) := (Hbs.out.cell (p := ⟨f, j * 11 + 2, none⟩) hSf.2).trans (hcf 2 _ rfl)
          have k0_3 : wr.cell? ⟨f, j * 11 + 3, none⟩ = some (.int .i64 zn) := (Hbs.out.cell (p := ⟨f, j * 11 + 3, none⟩) hSf.2).trans (hcf 3 _ rfl)
          have k0_4 : wr.cell? ⟨f, j * 11 + 4, none⟩ = some (.float .f64 zf) := (Hbs.out.cell (p := ⟨f, j * 11 + 4, none⟩) hSf.2).trans (hcf 4 _ rfl)
          have k0_5 : wr.cell? ⟨f, j * 11 + 5, none⟩ = some (.string zs) := (Hbs.out.cell (p := ⟨f, j * 11 + 5, none⟩) hSf.2).trans (hcf 5 _ rfl)
          have k0_6 : wr.cell? ⟨f, j * 11 + 6, none⟩ = some (.slice zA zl.length zc) := (Hbs.out.cell (p := ⟨f, j * 11 + 6, none⟩) hSf.2).trans (hcf 6 _ rfl)
          have k0_7 : wr.cell? ⟨f, j * 11 + 7, none⟩ = some (.string pop) := (Hbs.out.cell (p := ⟨f, j * 11 + 7, none⟩) hSf.2).trans (hcf 7 _ rfl)
          have k0_8 : wr.cell? ⟨f, j * 11 + 8, none⟩ = some (.slice pA pl.length pc) := (Hbs.out.cell (p := ⟨f, j * 11 + 8, none⟩) hSf.2).trans (hcf 8 _ rfl)
          have k0_9 : wr.cell? ⟨f, j * 11 + 9, none⟩ = some (.slice pB pk.length pe) := (Hbs.out.cell (p := ⟨f, j * 11 + 9, none⟩) hSf.2).trans (hcf 9 _ rfl)
          have k0_10 : wr.cell? ⟨f, j * 11 + 10, none⟩ = some (.slice tA aq.length tc) := (Hbs.out.cell (p := ⟨f, j * 11 + 10, none⟩) hSf.2).trans (hcf 10 _ rfl)
          have k1_0 : wr.cell? ⟨f', j * 11, none⟩ = some (.int .i64 ak) := (Hbs.out.cell (p := ⟨f', j * 11, none⟩) hSf'.2).trans (hcf' 0 _ rfl)
          have k1_1 : wr.cell? ⟨f', j * 11 + 1, none⟩ = some (.int .i64 zk) := (Hbs.out.cell (p := ⟨f', j * 11 + 1, none⟩) hSf'.2).trans (hcf' 1 _ rfl)
          have k1_2 : wr.cell? ⟨f', j * 11 + 2, none⟩ = some (.bool zb) := (Hbs.out.cell (p := ⟨f', j * 11 + 2, none⟩) hSf'.2).trans (hcf' 2 _ rfl)
          have k1_3 : wr.cell? ⟨f', j * 11 + 3, none⟩ = some (.int .i64 zn) := (Hbs.out.cell (p := ⟨f', j * 11 + 3, none⟩) hSf'.2).trans (hcf' 3 _ rfl)
          have k1_4 : wr.cell? ⟨f', j * 11 + 4, none⟩ = some (.float .f64 zf) := (Hbs.out.cell (p := ⟨f', j * 11 + 4, none⟩) hSf'.2).trans (hcf' 4 _ rfl)
          have k1_5 : wr.cell? ⟨f', j * 11 + 5, none⟩ = some (.string zs) := (Hbs.out.cell (p := ⟨f', j * 11 + 5, none⟩) hSf'.2).trans (hcf' 5 _ rfl)
          have k1_6 : wr.cell? ⟨f', j * 11 + 6, none⟩ = some (.slice zA' zl.length zc') := (Hbs.out.cell (p := ⟨f', j * 11 + 6, none⟩) hSf'.2).trans (hcf' 6 _ rfl)
          have k1_7 : wr.cell? ⟨f', j * 11 + 7, none⟩ = some (.string pop) := (Hbs.out.cell (p := ⟨f', j * 11 + 7, none⟩) hSf'.2).trans (hcf' 7 _ rfl)
          have k1_8 : wr.cell? ⟨f', j * 11 + 8, none⟩ = some (.slice pA' pl.length pc') := (Hbs.out.cell (p := ⟨f', j * 11 + 8, none⟩) hSf'.2).trans (hcf' 8 _ rfl)
          have k1_9 : wr.cell? ⟨f', j * 11 + 9, none⟩ = some (.slice pB' pk.length pe') := (Hbs.out.cell (p := ⟨f', j * 11 + 9, none⟩) hSf'.2).trans (hcf' 9 _ rfl)
          have k1_10 : wr.cell? ⟨f', j * 11 + 10, none⟩ = some (.slice tA' aq.length tc') := (Hbs.out.cell (p := ⟨f', j * 11 + 10, none⟩) hSf'.2).trans (hcf' 10 _ rfl)
          have hS : ∀ w', Below wr.heap.size wr w' → (w'.cell? ⟨f, j * 11, none⟩ = some (.int .i64 ak) ∧ w'.cell? ⟨f, j * 11 + 1, none⟩ = some (.int .i64 zk) ∧ w'.cell? ⟨f, j * 11 + 2, none⟩ = some (.bool zb) ∧ w'.cell? ⟨f, j * 11 + 3, none⟩ = some (.int .i64 zn) ∧ w'.cell? ⟨f, j * 11 + 4, none⟩ = some (.float .f64 zf) ∧ w'.cell? ⟨f, j * 11 + 5, none⟩ = some (.string zs) ∧ w'.cell? ⟨f, j * 11 + 6, none⟩ = some (.slice zA zl.length zc) ∧ w'.cell? ⟨f, j * 11 + 7, none⟩ = some (.string pop) ∧ w'.cell? ⟨f, j * 11 + 8, none⟩ = some (.slice pA pl.length pc) ∧ w'.cell? ⟨f, j * 11 + 9, none⟩ = some (.slice pB pk.length pe) ∧ w'.cell? ⟨f, j * 11 + 10, none⟩ = some (.slice tA aq.length tc) ∧ w'.cell? ⟨f', j * 11, none⟩ = some (.int .i64 ak) ∧ w'.cell? ⟨f', j * 11 + 1, none⟩ = some (.int .i64 zk) ∧ w'.cell? ⟨f', j * 11 + 2, none⟩ = some (.bool zb) ∧ w'.cell? ⟨f', j * 11 + 3, none⟩ = some (.int .i64 zn) ∧ w'.cell? ⟨f', j * 11 + 4, none⟩ = some (.float .f64 zf) ∧ w'.cell? ⟨f', j * 11 + 5, none⟩ = some (.string zs) ∧ w'.cell? ⟨f', j * 11 + 6, none⟩ = some (.slice zA' zl.length zc') ∧ w'.cell? ⟨f', j * 11 + 7, none⟩ = some (.string pop) ∧ w'.cell? ⟨f', j * 11 + 8, none⟩ = some (.slice pA' pl.length pc') ∧ w'.cell? ⟨f', j * 11 + 9, none⟩ = some (.slice pB' pk.length pe') ∧ w'.cell? ⟨f', j * 11 + 10, none⟩ = some (.slice tA' aq.length tc') ∧ w'.cell? ⟨g, i * 2 + 1, none⟩ = some (.slice (some ⟨f, 0, none⟩) args.length ac) ∧ w'.cell? ⟨g', i * 2 + 1, none⟩ = some (.slice (some ⟨f', 0, none⟩) args.length ac')) := fun w' hb => ⟨(hb.cell (p := ⟨f, j * 11, none⟩) (Nat.lt_of_lt_of_le hSf.2 Hbs.out.size)).trans k0_0, (hb.cell (p := ⟨f, j * 11 + 1, none⟩) (Nat.lt_of_lt_of_le hSf.2 Hbs.out.size)).trans k0_1, (hb.cell (p := ⟨f, j * 11 + 2, none⟩) (Nat.lt_of_lt_of_le hSf.2 Hbs.out.size)).trans k0_2, (hb.cell (p := ⟨f, j * 11 + 3, none⟩) (Nat.lt_of_lt_of_le hSf.2 Hbs.out.size)).trans k0_3, (hb.cell (p := ⟨f, j * 11 + 4, none⟩) (Nat.lt_of_lt_of_le hSf.2 Hbs.out.size)).trans k0_4, (hb.cell (p := ⟨f, j * 11 + 5, none⟩) (Nat.lt_of_lt_of_le hSf.2 Hbs.out.size)).trans k0_5, (hb.cell (p := ⟨f, j * 11 + 6, none⟩) (Nat.lt_of_lt_of_le hSf.2 Hbs.out.size)).trans k0_6, (hb.cell (p := ⟨f, j * 11 + 7, none⟩) (Nat.lt_of_lt_of_le hSf.2 Hbs.out.size)).trans k0_7, (hb.cell (p := ⟨f, j * 11 + 8, none⟩) (Nat.lt_of_lt_of_le hSf.2 Hbs.out.size)).trans k0_8, (hb.cell (p := ⟨f, j * 11 + 9, none⟩) (Nat.lt_of_lt_of_le hSf.2 Hbs.out.size)).trans k0_9, (hb.cell (p := ⟨f, j * 11 + 10, none⟩) (Nat.lt_of_lt_of_le hSf.2 Hbs.out.size)).trans k0_10, (hb.cell (p := ⟨f', j * 11, none⟩) (Nat.lt_of_lt_of_le hSf'.2 Hbs.out.size)).trans k1_0, (hb.cell (p := ⟨f', j * 11 + 1, none⟩) (Nat.lt_of_lt_of_le hSf'.2 Hbs.out.size)).trans k1_1, (hb.cell (p := ⟨f', j * 11 + 2, none⟩) (Nat.lt_of_lt_of_le hSf'.2 Hbs.out.size)).trans k1_2, (hb.cell (p := ⟨f', j * 11 + 3, none⟩) (Nat.lt_of_lt_of_le hSf'.2 Hbs.out.size)).trans k1_3, (hb.cell (p := ⟨f', j * 11 + 4, none⟩) (Nat.lt_of_lt_of_le hSf'.2 Hbs.out.size)).trans k1_4, (hb.cell (p := ⟨f', j * 11 + 5, none⟩) (Nat.lt_of_lt_of_le hSf'.2 Hbs.out.size)).trans k1_5, (hb.cell (p := ⟨f', j * 11 + 6, none⟩) (Nat.lt_of_lt_of_le hSf'.2 Hbs.out.size)).trans k1_6, (hb.cell (p := ⟨f', j * 11 + 7, none⟩) (Nat.lt_of_lt_of_le hSf'.2 Hbs.out.size)).trans k1_7, (hb.cell (p := ⟨f', j * 11 + 8, none⟩) (Nat.lt_of_lt_of_le hSf'.2 Hbs.out.size)).trans k1_8, (hb.cell (p := ⟨f', j * 11 + 9, none⟩) (Nat.lt_of_lt_of_le hSf'.2 Hbs.out.size)).trans k1_9, (hb.cell (p := ⟨f', j * 11 + 10, none⟩) (Nat.lt_of_lt_of_le hSf'.2 Hbs.out.size)).trans k1_10, (hb.cell (p := ⟨g, i * 2 + 1, none⟩) (Nat.lt_of_lt_of_le hga Hbs.out.size)).trans v1, (hb.cell (p := ⟨g', i * 2 + 1, none⟩) (Nat.lt_of_lt_of_le hga' Hbs.out.size)).trans v1'⟩
          have HS := Lib.hid hS
          clear hs1 hs2 hcf hcf' hxv hxv' hxp hxp' hxt hxt' haj hS
          go_wp2_with fail
          go_region_held3 (fun w' => (w'.cell? ⟨f, j * 11, none⟩ = some (.int .i64 ak) ∧ w'.cell? ⟨f, j * 11 + 1, none⟩ = some (.int .i64 zk) ∧ w'.cell? ⟨f, j * 11 + 2, none⟩ = some (.bool zb) ∧ w'.cell? ⟨f, j * 11 + 3, none⟩ = some (.int .i64 zn) ∧ w'.cell? ⟨f, j * 11 + 4, none⟩ = some (.float .f64 zf) ∧ w'.cell? ⟨f, j * 11 + 5, none⟩ = some (.string zs) ∧ w'.cell? ⟨f, j * 11 + 6, none⟩ = some (.slice zA zl.length zc) ∧ w'.cell? ⟨f, j * 11 + 7, none⟩ = some (.string pop) ∧ w'.cell? ⟨f, j * 11 + 8, none⟩ = some (.slice pA pl.length pc) ∧ w'.cell? ⟨f, j * 11 + 9, none⟩ = some (.slice pB pk.length pe) ∧ w'.cell? ⟨f, j * 11 + 10, none⟩ = some (.slice tA aq.length tc) ∧ w'.cell? ⟨f', j * 11, none⟩ = some (.int .i64 ak) ∧ w'.cell? ⟨f', j * 11 + 1, none⟩ = some (.int .i64 zk) ∧ w'.cell? ⟨f', j * 11 + 2, none⟩ = some (.bool zb) ∧ w'.cell? ⟨f', j * 11 + 3, none⟩ = some (.int .i64 zn) ∧ w'.cell? ⟨f', j * 11 + 4, none⟩ = some (.float .f64 zf) ∧ w'.cell? ⟨f', j * 11 + 5, none⟩ = some (.string zs) ∧ w'.cell? ⟨f', j * 11 + 6, none⟩ = some (.slice zA' zl.length zc') ∧ w'.cell? ⟨f', j * 11 + 7, none⟩ = some (.string pop) ∧ w'.cell? ⟨f', j * 11 + 8, none⟩ = some (.slice pA' pl.length pc') ∧ w'.cell? ⟨f', j * 11 + 9, none⟩ = some (.slice pB' pk.length pe') ∧ w'.cell? ⟨f', j * 11 + 10, none⟩ = some (.slice tA' aq.length tc') ∧ w'.cell? ⟨g, i * 2 + 1, none⟩ = some (.slice (some ⟨f, 0, none⟩) args.length ac) ∧ w'.cell? ⟨g', i * 2 + 1, none⟩ = some (.slice (some ⟨f', 0, none⟩) args.length ac')) ∧ Below wr.heap.size wr w') (exact ⟨HS.out _ (by repeat (first | exact Below.refl _ _ | refine Below.setCell ?_ (by simp) _ | refine Below.drew ?_ | refine Below.alloc ?_ (by simp) _)), by repeat (first | exact Below.refl _ _ | refine Below.setCell ?_ (by simp) _ | refine Below.drew ?_ | refine Below.alloc ?_ (by simp) _)⟩) (fail)
          · obtain ⟨w5, hw5⟩ : ∃ w5, ((wr.alloc (.cells #[.int .i64 ak, .int .i64 zk, .bool zb, .int .i64 zn, .float .f64 zf, .string zs, .slice zA zl.length zc, .string pop, .slice pA pl.length pc, .slice pB pk.length pe, .slice tA aq.length tc] 51)).alloc (.cells #[.int .i64 ak, .int .i64 zk, .bool zb, .int .i64 zn, .float .f64 zf, .string zs, .slice zA' zl.length zc', .string pop, .slice pA' pl.length pc', .slice pB' pk.length pe', .slice tA' aq.length tc'] 51)).drew = w5 := ⟨_, rfl⟩
            have hb5 : Below wr.heap.size wr w5 := by rw [← hw5]; exact (((Below.refl _ _).alloc (Nat.le_refl _) _).alloc (by simp) _).drew
            have h1 : Blk w5 wr.heap.size 51 #[.int .i64 ak, .int .i64 zk, .bool zb, .int .i64 zn, .float .f64 zf, .string zs, .slice zA zl.length zc, .string pop, .slice pA pl.length pc, .slice pB pk.length pe, .slice tA aq.length tc] := by
              rw [← hw5]
              exact blk_drew ((Blk.new wr _ _).below ((Below.refl _ _).alloc (Nat.le_refl _) _) (by simp))
            have h2 : Blk w5 (wr.heap.size + 1) 51 #[.int .i64 ak, .int .i64 zk, .bool zb, .int .i64 zn, .float .f64 zf, .string zs, .slice zA' zl.length zc', .string pop, .slice pA' pl.length pc', .slice pB' pk.length pe', .slice tA' aq.length tc'] := by
              rw [← hw5]
              have := Blk.new (wr.alloc (.cells #[.int .i64 ak, .int .i64 zk, .bool zb, .int .i64 zn, .float .f64 zf, .string zs, .slice zA zl.length zc, .string pop, .slice pA pl.length pc, .slice pB pk.length pe, .slice tA aq.length tc] 51)) 51 #[.int .i64 ak, .int .i64 zk, .bool zb, .int .i64 zn, .float .f64 zf, .string zs, .slice zA' zl.length zc', .string pop, .slice pA' pl.length pc', .slice pB' pk.length pe', .slice tA' aq.length tc']
              rw [show (wr.alloc (.cells #[.int .i64 ak, .int .i64 zk, .bool zb, .int .i64 zn, .float .f64 zf, .string zs, .slice zA zl.length zc, .string pop, .slice pA pl.length pc, .slice pB pk.length pe, .slice tA aq.length tc] 51)).heap.size = wr.heap.size + 1 by simp] at this
              exact this
            obtain ⟨⟨a0, a1, a2, a3, a4, a5, a6, a7, a8, a9, a10⟩, -⟩ := cells11 h1
            obtain ⟨⟨b0, b1, b2, b3, b4, b5, b6, b7, b8, b9, b10⟩, -⟩ := cells11 h2
            have H5 := Lib.hid (And.intro hb5 (And.intro h1 (And.intro h2 (Hbs.out.trans (hb5.mono Hbs.out.size)))))
            clear hb5 h1 h2
            rw [hw5]
            go_wp2_with fail
            refine (HV.out _ H5.out.2.2.2).mono ?_
            rintro e w6 ⟨rfl, hb6⟩
            have H6 := Lib.hid (And.intro (H5.out.2.1.below hb6 H5.out.2.1.lt) (And.intro (H5.out.2.2.1.below hb6 H5.out.2.2.1.lt) (H5.out.2.2.2.trans (hb6.mono H5.out.2.2.2.size))))
            obtain ⟨⟨c0, c1, c2, c3, c4, c5, c6, c7, c8, c9, c10⟩, -⟩ := cells11 H6.out.1
            obtain ⟨⟨d0, d1, d2, d3, d4, d5, d6, d7, d8, d9, d10⟩, -⟩ := cells11 H6.out.2.1
            clear hb6
            go_wp2_with fail
            refine (HP.out _ H6.out.2.2).mono ?_
            rintro e w7 ⟨rfl, hb7⟩
            have H7 := Lib.hid (And.intro (H6.out.1.below hb7 H6.out.1.lt) (And.intro (H6.out.2.1.below hb7 H6.out.2.1.lt) (H6.out.2.2.trans (hb7.mono H6.out.2.2.size))))
            obtain ⟨⟨f0, f1, f2, f3, f4, f5, f6, f7, f8, f9, f10⟩, -⟩ := cells11 H7.out.1
            obtain ⟨⟨g0, g1, g2, g3, g4, g5, g6, g7, g8, g9, g10⟩, -⟩ := cells11 H7.out.2.1
            clear hb7
            go_wp2_with fail
            refine (HT.out _ H7.out.2.2).mono ?_
            rintro e w8 ⟨rfl, hb8⟩
            have H8 : Hid (Below w.heap.size w w8) := Lib.hid (H7.out.2.2.trans (hb8.mono H7.out.2.2.size))
            clear hb8
            go_wp2_with fail
            go_roundw
            case rel => exact ⟨j + 1, by omega, by go_num, H8⟩
            case measure => simp [intOf]; omega
          · obtain ⟨w5, hw5⟩ : ∃ w5, ((wr.alloc (.cells #[.int .i64 ak, .int .i64 zk, .bool zb, .int .i64 zn, .float .f64 zf, .string zs, .slice zA' zl.length zc', .string pop, .slice pA' pl.length pc', .slice pB' pk.length pe', .slice tA' aq.length tc'] 51)).alloc (.cells #[.int .i64 ak, .int .i64 zk, .bool zb, .int .i64 zn, .float .f64 zf, .string zs, .slice zA zl.length zc, .string pop, .slice pA pl.length pc, .slice pB pk.length pe, .slice tA aq.length tc] 51)).drew = w5 := ⟨_, rfl⟩
            have hb5 : Below wr.heap.size wr w5 := by rw [← hw5]; exact (((Below.refl _ _).alloc (Nat.le_refl _) _).alloc (by simp) _).drew
            have h1 : Blk w5 wr.heap.size 51 #[.int .i64 ak, .int .i64 zk, .bool zb, .int .i64 zn, .float .f64 zf, .string zs, .slice zA' zl.length zc', .string pop, .slice pA' pl.length pc', .slice pB' pk.length pe', .slice tA' aq.length tc'] := by
              rw [← hw5]
              exact blk_drew ((Blk.new wr _ _).below ((Below.refl _ _).alloc (Nat.le_refl _) _) (by simp))
            have h2 : Blk w5 (wr.heap.size + 1) 51 #[.int .i64 ak, .int .i64 zk, .bool zb, .int .i64 zn, .float .f64 zf, .string zs, .slice zA zl.length zc, .string pop, .slice pA pl.length pc, .slice pB pk.length pe, .slice tA aq.length tc] := by
              rw [← hw5]
              have := Blk.new (wr.alloc (.cells #[.int .i64 ak, .int .i64 zk, .bool zb, .int .i64 zn, .float .f64 zf, .string zs, .slice zA' zl.length zc', .string pop, .slice pA' pl.length pc', .slice pB' pk.length pe', .slice tA' aq.length tc'] 51)) 51 #[.int .i64 ak, .int .i64 zk, .bool zb, .int .i64 zn, .float .f64 zf, .string zs, .slice zA zl.length zc, .string pop, .slice pA pl.length pc, .slice pB pk.length pe, .slice tA aq.length tc]
              rw [show (wr.alloc (.cells #[.int .i64 ak, .int .i64 zk, .bool zb, .int .i64 zn, .float .f64 zf, .string zs, .slice zA' zl.length zc', .string pop, .slice pA' pl.length pc', .slice pB' pk.length pe', .slice tA' aq.length tc'] 51)).heap.size = wr.heap.size + 1 by simp] at this
              exact this
            obtain ⟨⟨a0, a1, a2, a3, a4, a5, a6, a7, a8, a9, a10⟩, -⟩ := cells11 h1
            obtain ⟨⟨b0, b1, b2, b3, b4, b5, b6, b7, b8, b9, b10⟩, -⟩ := cells11 h2
            have H5 := Lib.hid (And.intro hb5 (And.intro h1 (And.intro h2 (Hbs.out.trans (hb5.mono Hbs.out.size)))))
            clear hb5 h1 h2
            rw [hw5]
            go_wp2_with fail
            refine (HV.out _ H5.out.2.2.2).mono ?_
            rintro e w6 ⟨rfl, hb6⟩
            have H6 := Lib.hid (And.intro (H5.out.2.1.below hb6 H5.out.2.1.lt) (And.intro (H5.out.2.2.1.below hb6 H5.out.2.2.1.lt) (H5.out.2.2.2.trans (hb6.mono H5.out.2.2.2.size))))
            obtain ⟨⟨c0, c1, c2, c3, c4, c5, c6, c7, c8, c9, c10⟩, -⟩ := cells11 H6.out.1
            obtain ⟨⟨d0, d1, d2, d3, d4, d5, d6, d7, d8, d9, d10⟩, -⟩ := cells11 H6.out.2.1
            clear hb6
            go_wp2_with fail
            refine (HP.out _ H6.out.2.2).mono ?_
            rintro e w7 ⟨rfl, hb7⟩
            have H7 := Lib.hid (And.intro (H6.out.1.below hb7 H6.out.1.lt) (And.intro (H6.out.2.1.below hb7 H6.out.2.1.lt) (H6.out.2.2.trans (hb7.mono H6.out.2.2.size))))
            obtain ⟨⟨f0, f1, f2, f3, f4, f5, f6, f7, f8, f9, f10⟩, -⟩ := cells11 H7.out.1
            obtain ⟨⟨g0, g1, g2, g3, g4, g5, g6, g7, g8, g9, g10⟩, -⟩ := cells11 H7.out.2.1
            clear hb7
            go_wp2_with fail
            refine (HT.out _ H7.out.2.2).mono ?_
            rintro e w8 ⟨rfl, hb8⟩
            have H8 : Hid (Below w.heap.size w w8) := Lib.hid (H7.out.2.2.trans (hb8.mono H7.out.2.2.size))
            clear hb8
            go_wp2_with fail
            go_roundw
            case rel => exact ⟨j + 1, by omega, by go_num, H8⟩
            case measure => simp [intOf]; omega
        · have hltJ : decide ((j : Int) < (args.length : Int)) = false := by rw [decide_eq_false_iff_not]; omega
          go_wp2_with fail
          go_roundw
          case rel => exact ⟨i + 1, by omega, by go_num, Hbs⟩
          case measure => simp [intOf]; omega
    · have hltI : decide ((i : Int) < (l.length : Int)) = false := by rw [decide_eq_false_iff_not]; omega
      go_wp2_with fail
      go_ret
      exact ⟨rfl, Hbr.out⟩

set_option maxRecDepth 100000 in
theorem ss_zero (w : World) : Calls Tryz.prog 7 #[.slice none 0 0, .slice none 0 0] w fun e w' => e = .returned (.bool true) ∧ Below w.heap.size w w' := by
  go_enter Tryz.func7, Tryz.ntmps7
  go_wp2_with fail
  refine wp_loop_once ?_
  go_wp2_with fail
  go_ret
  exact ⟨rfl, Below.refl _ _⟩

theorem ss_at : ∀ k, SsAt k
  | 0 => by
    rintro l v v' w ⟨rfl, rfl⟩ ⟨-, rfl⟩
    exact ss_zero w
  | k + 1 => by
    intro l v v' w h h'
    obtain ⟨A, c, rfl, hc, hm, -⟩ := LstS.look h
    obtain ⟨A', c', rfl, -⟩ := LstS.look h'
    exact ss_step k (ss_at k) l A A' c c' w h h' (Nat.le_trans hc hm)

end Go.Proofs.YtnehbpfgdeilhaaGreatDoor
