/- the reference of pages: Without, With -/
import Derived.Test.YtdfkahkomcfoeaaPgV
namespace Go.Proofs.Ytdfkahkomcfoeaa
open Go.ChangeShapes Go.WideShapes Go.ChangeAt Go.RowKit

/-- one record appended to a row of the call's own -/
theorem app_recP {n : Nat} {wn : World} {A : Option Addr} {c i : Nat} {o : Pg} (h1 : wn.ownsRow n 47 2 (.slice A i c) i (cellsB o)) (h2 : n ≤ wn.heap.size) (hi : i ≤ 1000) (r : Bod) :
    ∃ A' c' w2, (∀ ty, (Builtin.append_ #[25, 25] ty #[.slice A i c, .slice (some ⟨wn.heap.size, 0, none⟩) 1 1]).run Try.prog (wn.alloc (.cells #[.int .u64 (r.1 : Int), .string ⟨r.2.toArray⟩] 47)) = .ok (.slice A' (i + 1) c') w2) ∧
      w2.ownsRow n 47 2 (.slice A' (i + 1) c') (i + 1) (cellsB (o ++ [r])) ∧ Below n wn w2 := by
  obtain ⟨i0, hi0, hz0, hz1, hz2⟩ := info_parts info_body
  have hb1 : Below wn.heap.size wn (wn.alloc (.cells #[.int .u64 (r.1 : Int), .string ⟨r.2.toArray⟩] 47)) := (Below.refl _ wn).alloc (Nat.le_refl _) _
  have hown := owns_on h1 (Only.of_below (ok := fun _ => False) hb1) fun _ _ h => h
  have hnew : (wn.alloc (.cells #[.int .u64 (r.1 : Int), .string ⟨r.2.toArray⟩] 47)).heap[wn.heap.size]? = some (.cells #[.int .u64 (r.1 : Int), .string ⟨r.2.toArray⟩] 47 (0, 0)) := heap_alloc_new wn _
  have key := fun ty => run_append_own (P := Try.prog) (wn.alloc (.cells #[.int .u64 (r.1 : Int), .string ⟨r.2.toArray⟩] 47)) n 25 ty 47 i0 _ 2 24 Try.underlying25 hi0 hz0 hz1 hz2 rfl (by decide) _ i (cellsB o) hown ⟨wn.heap.size, 0, none⟩ 1 1 (cellsB [r]) rfl
    (fun j u hj => by rw [adr_add, Nat.zero_add, cell_of_row _ _ _ _ _ _ hnew]; simpa [cellsB] using hj) (cellsB_one [r]) (by unfold maxLen; omega) (by omega) (by have := hb1.size; omega)
  obtain ⟨v', w2, hr, hown', hgr, -⟩ := key 0
  have hlt := hown.lt
  obtain ⟨A', c', rfl, -, -⟩ := owns_form hown'
  refine ⟨A', c', w2, fun ty => hr, by rw [cellsB_app]; exact hown', ?_⟩
  exact (hb1.mono h2).trans (below_of_only hgr (by have := hb1.size; omega) fun g hg => (hlt g hg).1)

theorem made_empty (w : World) : (w.alloc (.cells #[] 47)).ownsRow w.heap.size 47 2 (.slice (some ⟨w.heap.size, 0, none⟩) 0 0) 0 (cellsB []) := World.ownsRow_made w #[] 0 (Nat.le_refl _) (Nat.zero_le _) (by simp)

set_option maxRecDepth 100000 in
theorem without_any (l : Pg) (id : Nat) (A : Option Addr) (c b : Nat) (w : World) (h : Seen w l A c b) (hl : l.length ≤ 1000) :
    Calls Try.prog 9 #[.slice A l.length c, .int .u64 id] w fun e w' => ∃ v', e = .returned (.tuple #[v', .bool (decide ((dropL l id).length < l.length))]) ∧ w'.ownsRow w.heap.size 47 2 v' (dropL l id).length (cellsB (dropL l id)) ∧ Below w.heap.size w w' := by
  have H := Lib.hid h
  have HM := Lib.hid (made_empty w)
  have HB0 : Hid (Below w.heap.size w (w.alloc (.cells #[] 47))) := (Below.refl _ w).alloc (Nat.le_refl _) _
  clear h
  go_enter Try.func9, Try.ntmps9
  go_wp2_with fail
  go_loopg [6, 7] l.length (fun g s6 s7 wr => ∃ (i : Nat) (A' : Option Addr) (c' k : Nat), s7 = .int .i64 i ∧ s6 = .slice A' k c' ∧ i ≤ l.length ∧ l.length - i ≤ g ∧ k ≤ i ∧ Hid ((dropL (l.take i) id).length = k) ∧ Hid (wr.ownsRow w.heap.size 47 2 (.slice A' k c') k (cellsB (dropL (l.take i) id))) ∧ Hid (Below w.heap.size w wr))
  case atStart => exact ⟨0, _, _, 0, rfl, rfl, Nat.zero_le _, by omega, Nat.le_refl _, rfl, HM.out, HB0.out⟩
  case round =>
    obtain ⟨i, A', c', k, rfl, rfl, hi, hg, hki, HK, HO, HB⟩ := hrel
    by_cases hlt : i < l.length
    · obtain ⟨j0, j1⟩ := (H.out.row.below HB.out).at hlt
      have eA := H.out.at_ (by rintro rfl; simp at hlt)
      subst eA
      obtain ⟨x, hx⟩ : ∃ x, l[i] = x := ⟨_, rfl⟩
      rw [hx] at j0 j1
      have htk : l.take (i + 1) = l.take i ++ [x] := by rw [← hx]; exact List.take_succ_eq_append_getElem hlt
      by_cases he : x.1 = id
      · have hd : dropL (l.take (i + 1)) id = dropL (l.take i) id := by
          rw [htk]; unfold dropL; rw [List.filter_append, List.filter_cons_of_neg (by simp [he])]; simp
        have HD := Lib.hid hd
        rw [he] at j0
        clear htk hd hx he
        go_wp2_with fail
        go_roundg (l.length - (i + 1))
        case measure => omega
        case rel => exact ⟨i + 1, _, _, k, by go_num, rfl, by omega, Nat.le_refl _, by omega, Lib.hid (by rw [HD.out]; exact HK.out), Lib.hid (by rw [HD.out]; exact HO.out), HB.out⟩
      · have hd : dropL (l.take (i + 1)) id = dropL (l.take i) id ++ [x] := by
          rw [htk]; unfold dropL; rw [List.filter_append, List.filter_cons_of_pos (by simpa using he)]; rfl
        have HD := Lib.hid hd
        obtain ⟨A2, c2, w2, hr, hown, hbel⟩ := app_recP HO.out HB.out.size (by omega) x
        have HO2 := Lib.hid hown; have HB2 := Lib.hid (HB.out.trans hbel)
        have b1 : ((x.1 : Int) != (id : Int)) = true := by simp; omega
        have b2 : ¬ (x.1 : Int) = (id : Int) := by omega
        clear htk hd hx he hown hbel
        go_wp2_with (first
          | (at_builtin; refine Lib.wpList_append_run _ rfl _ _ _ _ rfl _ _ rfl rfl _ _ (hr _) ?_)
          | fail)
        go_roundg (l.length - (i + 1))
        case measure => omega
        case rel => exact ⟨i + 1, _, _, k + 1, by go_num, rfl, by omega, Nat.le_refl _, by omega, Lib.hid (by rw [HD.out, List.length_append, HK.out]; rfl), Lib.hid (by rw [HD.out]; exact HO2.out), HB2.out⟩
    · obtain rfl : i = l.length := by omega
      have hT : l.take l.length = l := List.take_length
      rw [hT] at HK HO
      have HK2 := HK.out
      subst HK2
      by_cases hd : (dropL l id).length < l.length
      · have hdz : ((dropL l id).length : Int) < (l.length : Int) := by omega
        go_wp2_with fail
        go_ret2
        exact ⟨_, rfl, HO.out, HB.out⟩
      · go_wp2_with fail
        go_ret2
        exact ⟨_, rfl, HO.out, HB.out⟩

/-- a state of With's loop -/
def WithAt (l : Pg) (id : Nat) (s : List UInt8) (i : Nat) (o : Pg) (b : Bool) : Prop :=
  (b = false ∧ o = l.take i ∧ ∀ r ∈ l.take i, r.1 < id) ∨ (b = true ∧ o = loP l id ++ (id, s) :: hiP (l.take i) id ∧ ∃ r ∈ l.take i, id ≤ r.1)

theorem with_low {l : Pg} {id : Nat} {s : List UInt8} {i : Nat} {o : Pg} {x : Bod} (h : WithAt l id s i o false) (hi : i < l.length) (hx : l[i] = x) (hlt : x.1 < id) : WithAt l id s (i + 1) (o ++ [x]) false := by
  have htk : l.take (i + 1) = l.take i ++ [x] := by rw [← hx]; exact List.take_succ_eq_append_getElem hi
  rcases h with ⟨-, rfl, h2⟩ | ⟨h1, -⟩
  · refine .inl ⟨rfl, htk.symm, fun r hr => ?_⟩
    rw [htk] at hr
    rcases List.mem_append.1 hr with hr | hr
    · exact h2 r hr
    · simp only [List.mem_cons, List.not_mem_nil, or_false] at hr
      subst hr; exact hlt
  · cases h1

theorem lo_take {l : Pg} (hr : RisB l) {id i : Nat} (hi : i < l.length) (h1 : ∀ r ∈ l.take i, r.1 < id) (h2 : id ≤ l[i].1) : loP l id = l.take i := by
  have e : loP l id = (l.take i ++ l.drop i).filter (fun r => decide (r.1 < id)) := by unfold loP; rw [List.take_append_drop]
  rw [e, List.filter_append, List.filter_eq_self.2 (fun r hr' => by simpa using h1 r hr')]
  have : (l.drop i).filter (fun r => decide (r.1 < id)) = [] := by
    rw [List.filter_eq_nil_iff]
    intro r hr'
    obtain ⟨t, ht, rfl⟩ := List.getElem_of_mem hr'
    rw [List.length_drop] at ht
    rw [List.getElem_drop]
    have : id ≤ l[i + t].1 := by
      rcases Nat.eq_zero_or_pos t with h0 | h0
      · subst h0; exact h2
      · have := List.pairwise_iff_getElem.1 hr i (i + t) hi (by omega) (by omega)
        omega
    simp; omega
  rw [this, List.append_nil]

theorem hi_app (a b : Pg) (id : Nat) : hiP (a ++ b) id = hiP a id ++ hiP b id := List.filter_append ..

theorem with_here {l : Pg} (hr : RisB l) {id : Nat} {s : List UInt8} {i : Nat} {o : Pg} {x : Bod} (h : WithAt l id s i o false) (hi : i < l.length) (hx : l[i] = x) :
    (id = x.1 → WithAt l id s (i + 1) (o ++ [(id, s)]) true) ∧ (id < x.1 → WithAt l id s (i + 1) (o ++ [(id, s)] ++ [x]) true) := by
  have htk : l.take (i + 1) = l.take i ++ [x] := by rw [← hx]; exact List.take_succ_eq_append_getElem hi
  have hmem : x ∈ l.take (i + 1) := by rw [htk]; simp
  rcases h with ⟨-, rfl, h2⟩ | ⟨h1, -⟩
  · have hh0 : hiP (l.take i) id = [] := hi_none h2
    refine ⟨fun he => ?_, fun he => ?_⟩
    · have hlo := lo_take hr hi h2 (by rw [hx]; omega)
      refine .inr ⟨rfl, ?_, x, hmem, by omega⟩
      rw [hlo, htk, hi_app, hh0]
      have : hiP [x] id = [] := by unfold hiP; rw [List.filter_cons_of_neg (by simp; omega)]; rfl
      rw [this]; simp
    · have hlo := lo_take hr hi h2 (by rw [hx]; omega)
      refine .inr ⟨rfl, ?_, x, hmem, by omega⟩
      rw [hlo, htk, hi_app, hh0]
      have : hiP [x] id = [x] := by unfold hiP; rw [List.filter_cons_of_pos (by simpa using he)]; rfl
      rw [this]; simp
  · cases h1

theorem with_high {l : Pg} (hr : RisB l) {id : Nat} {s : List UInt8} {i : Nat} {o : Pg} {x : Bod} (h : WithAt l id s i o true) (hi : i < l.length) (hx : l[i] = x) : id < x.1 ∧ WithAt l id s (i + 1) (o ++ [x]) true := by
  have htk : l.take (i + 1) = l.take i ++ [x] := by rw [← hx]; exact List.take_succ_eq_append_getElem hi
  rcases h with ⟨h1, -⟩ | ⟨-, rfl, r, hr1, hr2⟩
  · cases h1
  · have hlt : id < x.1 := by
      obtain ⟨t, ht, rfl⟩ := List.getElem_of_mem hr1
      rw [List.length_take] at ht
      rw [List.getElem_take] at hr2
      have := List.pairwise_iff_getElem.1 hr t i (by omega) hi (by omega)
      rw [hx] at this
      omega
    refine ⟨hlt, .inr ⟨rfl, ?_, r, by rw [htk]; exact List.mem_append_left _ hr1, hr2⟩⟩
    rw [htk, hi_app]
    have : hiP [x] id = [x] := by unfold hiP; rw [List.filter_cons_of_pos (by simpa using hlt)]; rfl
    rw [this]; simp

theorem with_end {l : Pg} {id : Nat} {s : List UInt8} {o : Pg} {b : Bool} (h : WithAt l id s l.length o b) : (b = false → o ++ [(id, s)] = putL l id s) ∧ (b = true → o = putL l id s) := by
  unfold WithAt at h
  rw [List.take_length] at h
  rcases h with ⟨hb, rfl, h2⟩ | ⟨hb, rfl, -⟩
  · exact ⟨fun _ => (put_end h2).symm, fun h => (by rw [hb] at h; cases h)⟩
  · exact ⟨fun h => (by rw [hb] at h; cases h), fun _ => rfl⟩

theorem with_start (l : Pg) (id : Nat) (s : List UInt8) : WithAt l id s 0 [] false := .inl ⟨rfl, by simp, by simp⟩

theorem owns_mono {n m : Nat} {w : World} {e : TypeId} {size : Nat} {v : Value} {k : Nat} {xs : List Value} (h : w.ownsRow n e size v k xs) (hm : m ≤ n) : w.ownsRow m e size v k xs := by
  refine ⟨h.1, ?_⟩
  rcases h.2 with h2 | ⟨g, cap, cur, e, hb, r⟩
  · exact .inl h2
  · exact .inr ⟨g, cap, cur, e, Nat.le_trans hm hb, r⟩

/-- what With leaves: the row that came in, or a new one -/
def WithOk (n : Nat) (w : World) (v : Value) (r : Pg × Bool) (e : Ending) (w' : World) : Prop :=
  ∃ v', e = .returned (.tuple #[v', .bool r.2]) ∧ w'.ownsRow n 47 2 v' r.1.length (cellsB r.1) ∧ Below w.heap.size w w' ∧ (v' = v ∨ ∀ g, v'.ownBlock = some g → w.heap.size ≤ g)

set_option maxHeartbeats 2000000 in
set_option maxRecDepth 100000 in
theorem with_any {n : Nat} {v : Value} {l : Pg} {w : World} (hown : w.ownsRow n 47 2 v l.length (cellsB l)) (hn : n ≤ w.heap.size) (hok : OkP l) (id : Nat) (s : List UInt8) (hs : s.length ≤ 100000) :
    Calls Try.prog 13 #[v, .int .u64 id, .string ⟨s.toArray⟩] w (WithOk n w v (putR l id s)) := by
  have hlen := hok.len
  have hris := hok.ris
  have HW := Lib.hid hown
  have HOK := Lib.hid hok
  obtain ⟨A, c, b, rfl, h⟩ := owns_seen hown
  have H := Lib.hid h
  have HM := Lib.hid (made_empty w)
  have HB0 : Hid (Below w.heap.size w (w.alloc (.cells #[] 47))) := (Below.refl _ w).alloc (Nat.le_refl _) _
  have HR := Lib.hid hris
  clear h hown hok hris
  go_enter Try.func13, Try.ntmps13
  go_wp2_with fail
  go_loopg [8, 9, 10] l.length (fun g s8 s9 s10 wr => ∃ (i : Nat) (A' : Option Addr) (c' k : Nat) (o : Pg) (bb : Bool), s10 = .int .i64 i ∧ s9 = .bool bb ∧ s8 = .slice A' k c' ∧ i ≤ l.length ∧ l.length - i ≤ g ∧ k ≤ i + 1 ∧ Hid (o.length = k) ∧ Hid (WithAt l id s i o bb) ∧ Hid (wr.ownsRow w.heap.size 47 2 (.slice A' k c') k (cellsB o)) ∧ Hid (Below w.heap.size w wr))
  case atStart => exact ⟨0, _, _, 0, [], false, rfl, rfl, rfl, Nat.zero_le _, by omega, by omega, rfl, with_start l id s, HM.out, HB0.out⟩
  case round =>
    obtain ⟨i, A', c', k, o, bb, rfl, rfl, rfl, hi, hg, hki, HK, HA, HO, HB⟩ := hrel
    by_cases hlt : i < l.length
    · obtain ⟨j0, j1⟩ := (H.out.row.below HB.out).at hlt
      have eA := H.out.at_ (by rintro rfl; simp at hlt)
      subst eA
      obtain ⟨x, hx⟩ : ∃ x, l[i] = x := ⟨_, rfl⟩
      rw [hx] at j0 j1
      cases bb with
      | true =>
        obtain ⟨hxi, hnext⟩ := with_high HR.out HA.out hlt hx
        have HNX := Lib.hid hnext
        obtain ⟨A2, c2, w2, hr, hown, hbel⟩ := app_recP HO.out HB.out.size (by omega) x
        have HO2 := Lib.hid hown; have HB2 := Lib.hid (HB.out.trans hbel)
        have b2 : ¬ (x.1 : Int) = (id : Int) := by omega
        clear hx hxi hnext hown hbel
        go_wp2_with (first
          | (at_builtin; refine Lib.wpList_append_run _ rfl _ _ _ _ rfl _ _ rfl rfl _ _ (hr _) ?_)
          | fail)
        go_roundg (l.length - (i + 1))
        case measure => omega
        case rel => exact ⟨i + 1, _, _, k + 1, _, true, by go_num, rfl, rfl, by omega, Nat.le_refl _, by omega, Lib.hid (by rw [List.length_append, HK.out]; rfl), HNX, HO2, HB2⟩
      | false =>
        by_cases hlo : x.1 < id
        · have HNX := Lib.hid (with_low HA.out hlt hx hlo)
          obtain ⟨A2, c2, w2, hr, hown, hbel⟩ := app_recP HO.out HB.out.size (by omega) x
          have HO2 := Lib.hid hown; have HB2 := Lib.hid (HB.out.trans hbel)
          have b2 : ¬ (x.1 : Int) = (id : Int) := by omega
          have b3 : ¬ id ≤ x.1 := by omega
          clear hx hlo hown hbel
          go_wp2_with (first
            | (at_builtin; refine Lib.wpList_append_run _ rfl _ _ _ _ rfl _ _ rfl rfl _ _ (hr _) ?_)
            | fail)
          go_roundg (l.length - (i + 1))
          case measure => omega
          case rel => exact ⟨i + 1, _, _, k + 1, _, false, by go_num, rfl, rfl, by omega, Nat.le_refl _, by omega, Lib.hid (by rw [List.length_append, HK.out]; rfl), HNX, HO2, HB2⟩
        · obtain ⟨n1, n2⟩ := with_here HR.out HA.out hlt hx
          have b3 : id ≤ x.1 := by omega
          obtain ⟨A2, c2, w2, hr, hown, hbel⟩ := app_recP HO.out HB.out.size (by omega) (id, s)
          have HO2 := Lib.hid hown; have HB2 := Lib.hid (HB.out.trans hbel)
          have hk0 : k ≤ i := by
            rcases HA.out with ⟨-, e, -⟩ | ⟨e, -⟩
            · have := HK.out
              rw [e, List.length_take] at this
              omega
            · cases e
          by_cases he : id = x.1
          · have HNX := Lib.hid (n1 he)
            have j0' : wr.cell? ⟨b, i * 2, none⟩ = some (.int .u64 (id : Int)) := by rw [he]; exact j0
            have j2 : w2.cell? ⟨b, i * 2, none⟩ = some (.int .u64 (id : Int)) := by
              have := ((H.out.row.below HB2.out).at hlt).1
              rw [hx, ← he] at this; exact this
            clear hx hlo n1 n2 hown hbel j0 he b3
            go_wp2_with (first
              | (at_builtin; refine Lib.wpList_append_run _ rfl _ _ _ _ rfl _ _ rfl rfl _ _ (hr _) ?_)
              | fail)
            go_roundg (l.length - (i + 1))
            case measure => omega
            case rel => exact ⟨i + 1, _, _, k + 1, _, true, by go_num, rfl, rfl, by omega, Nat.le_refl _, by omega, Lib.hid (by rw [List.length_append, HK.out]; rfl), HNX, HO2, HB2⟩
          · have HNX := Lib.hid (n2 (by omega))
            obtain ⟨j2, j3⟩ := (H.out.row.below HB2.out).at hlt
            rw [hx] at j2 j3
            obtain ⟨A3, c3, w3, hr3, hown3, hbel3⟩ := app_recP HO2.out HB2.out.size (by omega) x
            have HO3 := Lib.hid hown3; have HB3 := Lib.hid (HB2.out.trans hbel3)
            have b4 : ¬ (x.1 : Int) = (id : Int) := by omega
            clear hx hlo n1 n2 hown hbel he hown3 hbel3
            go_upto_region 7 with (first
              | (at_builtin; refine Lib.wpList_append_run _ rfl _ _ _ _ rfl _ _ rfl rfl _ _ (hr _) ?_)
              | fail)
            clear hr
            go_wp2_with (first
              | (at_builtin; refine Lib.wpList_append_run _ rfl _ _ _ _ rfl _ _ rfl rfl _ _ (hr3 _) ?_)
              | fail)
            go_roundg (l.length - (i + 1))
            case measure => omega
            case rel => exact ⟨i + 1, _, _, k + 1 + 1, _, true, by go_num, rfl, rfl, by omega, Nat.le_refl _, by omega, Lib.hid (by rw [List.length_append, List.length_append, HK.out]; rfl), HNX, HO3, HB3⟩
    · obtain rfl : i = l.length := by omega
      obtain ⟨m1, m2⟩ := with_end HA.out
      have hpu : usedP (putL l id s) ≤ 100512 + 12 := by
        rcases ris_split HR.out id with ⟨t, -, hb⟩ | ⟨-, hb⟩
        · have e1 : usedP l = usedP (loP l id ++ (id, t) :: hiP l id) := congrArg usedP hb
          have := HOK.out.fit
          unfold putL
          rw [used_mid] at e1 ⊢
          omega
        · have e1 : usedP l = usedP (loP l id ++ hiP l id) := congrArg usedP hb
          have := HOK.out.fit
          unfold putL
          rw [used_mid]
          omega
      have hpl : (putL l id s).length ≤ 1000 := by
        have h1 := List.length_filter_le (fun r : Bod => decide (r.1 < id)) l
        have h2 := List.length_filter_le (fun r : Bod => decide (id < r.1)) l
        have h3 : (putL l id s).length = (loP l id).length + (hiP l id).length + 1 := by simp [putL]; omega
        unfold loP hiP at h3
        omega
      have HFIN : Hid (∀ (wq : World) (A4 : Option Addr) (c4 : Nat), wq.ownsRow w.heap.size 47 2 (.slice A4 (putL l id s).length c4) (putL l id s).length (cellsB (putL l id s)) → Below w.heap.size w wq →
          Calls Try.prog 18 #[.slice A4 (putL l id s).length c4] wq fun e w' => e = .returned (.int .i64 (usedP (putL l id s))) ∧ wq = w') := Lib.hid fun wq A4 c4 ho hb => by
        obtain ⟨A5, c5, b5, he5, hs5⟩ := owns_seen ho
        simp only [Value.slice.injEq, true_and] at he5
        obtain ⟨rfl, rfl⟩ := he5
        exact used_any _ _ _ b5 wq hs5 hpl (by omega)
      by_cases hf : usedP (putL l id s) ≤ 512
      · have HR2 : Hid (putR l id s = (putL l id s, true)) := if_pos hf
        have d1 : ¬ 512 < usedP (putL l id s) := by omega
        have HEND : Hid (∀ (wq : World) (A4 : Option Addr) (c4 : Nat), wq.ownsRow w.heap.size 47 2 (.slice A4 (putL l id s).length c4) (putL l id s).length (cellsB (putL l id s)) → Below w.heap.size w wq → WithOk n w (.slice A l.length c) (putR l id s) (.returned (.tuple #[.slice A4 (putL l id s).length c4, .bool true])) wq) := Lib.hid fun wq A4 c4 ho hb => by
          rw [HR2.out]
          exact ⟨_, rfl, owns_mono ho hn, hb, .inr fun g hg => (ho.lt g hg).1⟩
        cases bb with
        | true =>
          have ho := m2 rfl
          have HK2 := HK.out
          subst HK2
          subst ho
          clear hf m1 m2 hpu hpl
          generalize putL l id s = o at HFIN HEND HO d1
          go_wp2_with (first
            | (go_at_call 18; (with_reducible refine (HFIN.out _ _ _ HO.out HB.out).mono ?_); rintro e w5 ⟨rfl, rfl⟩)
            | fail)
          go_ret2
          exact HEND.out _ _ _ HO.out HB.out
        | false =>
          have ho := m1 rfl
          obtain ⟨A2, c2, w2, hr, hown, hbel⟩ := app_recP HO.out HB.out.size (by omega) (id, s)
          have hkl : k + 1 = (putL l id s).length := by rw [← ho, List.length_append, HK.out]; rfl
          rw [ho] at hown
          rw [hkl] at hown hr
          have HO2 := Lib.hid hown; have HB2 := Lib.hid (HB.out.trans hbel)
          clear hf m1 m2 hpu hpl ho hown hbel hkl
          generalize putL l id s = o2 at HFIN HEND HO2 d1 hr
          go_wp2_with (first
            | (at_builtin; refine Lib.wpList_append_run _ rfl _ _ _ _ rfl _ _ rfl rfl _ _ (hr _) ?_)
            | (go_at_call 18; (with_reducible refine (HFIN.out _ _ _ HO2.out HB2.out).mono ?_); rintro e w5 ⟨rfl, rfl⟩)
            | fail)
          go_ret2
          exact HEND.out _ _ _ HO2.out HB2.out
      · have HR2 : Hid (putR l id s = (l, false)) := if_neg hf
        have d1 : 512 < usedP (putL l id s) := by omega
        have HEND : Hid (∀ (wq : World), Below w.heap.size w wq → WithOk n w (.slice A l.length c) (putR l id s) (.returned (.tuple #[.slice A l.length c, .bool false])) wq) := Lib.hid fun wq hb => by
          rw [HR2.out]
          exact ⟨_, rfl, owns_on HW.out (Only.of_below (ok := fun _ => False) hb) (fun _ _ h => h), hb, .inl rfl⟩
        cases bb with
        | true =>
          have ho := m2 rfl
          have HK2 := HK.out
          subst HK2
          subst ho
          clear hf m1 m2 hpu hpl
          generalize putL l id s = o at HFIN HO d1
          go_wp2_with (first
            | (go_at_call 18; (with_reducible refine (HFIN.out _ _ _ HO.out HB.out).mono ?_); rintro e w5 ⟨rfl, rfl⟩)
            | fail)
          go_ret2
          exact HEND.out _ HB.out
        | false =>
          have ho := m1 rfl
          obtain ⟨A2, c2, w2, hr, hown, hbel⟩ := app_recP HO.out HB.out.size (by omega) (id, s)
          have hkl : k + 1 = (putL l id s).length := by rw [← ho, List.length_append, HK.out]; rfl
          rw [ho] at hown
          rw [hkl] at hown hr
          have HO2 := Lib.hid hown; have HB2 := Lib.hid (HB.out.trans hbel)
          clear hf m1 m2 hpu hpl ho hown hbel hkl
          generalize putL l id s = o2 at HFIN HO2 d1 hr
          go_wp2_with (first
            | (at_builtin; refine Lib.wpList_append_run _ rfl _ _ _ _ rfl _ _ rfl rfl _ _ (hr _) ?_)
            | (go_at_call 18; (with_reducible refine (HFIN.out _ _ _ HO2.out HB2.out).mono ?_); rintro e w5 ⟨rfl, rfl⟩)
            | fail)
          go_ret2
          exact HEND.out _ HB2.out

end Go.Proofs.Ytdfkahkomcfoeaa
