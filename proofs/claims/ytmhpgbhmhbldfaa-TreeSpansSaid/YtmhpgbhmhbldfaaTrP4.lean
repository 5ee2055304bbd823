/- a key goes up: what a round leaves behind -/
import Derived.Test.YtmhpgbhmhbldfaaTrP2
namespace Go.Proofs.Ytmhpgbhmhbldfaa
open Go.ChangeShapes Go.WideShapes Go.ChangeAt Go.RowKit Go.Shelf

theorem risU_len {β : Type} {l : List (Nat × β)} (h : RisU l) {n : Nat} (hl : ∀ p ∈ l, p.1 < n) : l.length ≤ n := by
  have hp : (l.map (·.1)).Pairwise (· < ·) := by rw [List.pairwise_map]; exact h
  have hb : ∀ x ∈ l.map (·.1), x < n := fun x hx => by obtain ⟨p, hp, rfl⟩ := List.mem_map.1 hx; exact hl p hp
  have key : ∀ (q : List Nat) (n : Nat), q.Pairwise (· < ·) → (∀ x ∈ q, x < n) → ∀ a, (∀ x ∈ q, a ≤ x) → a ≤ n → q.length + a ≤ n := by
    intro q
    induction q with
    | nil => intro n _ _ a _ h; simpa using h
    | cons y q ih =>
      intro n hq hn a ha _
      obtain ⟨h1, h2⟩ := List.pairwise_cons.1 hq
      have hy : y < n := hn y (by simp)
      have := ih n h2 (fun x hx => hn x (by simp [hx])) (y + 1) (fun x hx => h1 x hx) hy
      have := ha y (by simp)
      simp only [List.length_cons]; omega
  have := key _ n hp hb 0 (fun _ _ => Nat.zero_le _) (Nat.zero_le _)
  rw [List.length_map] at this
  omega

theorem drop_at {α : Type} {l : List α} {j : Nat} {x : α} (h : l[j]? = some x) : l.drop j = x :: l.drop (j + 1) := by
  obtain ⟨h1, rfl⟩ := List.getElem?_eq_some_iff.1 h
  exact List.drop_eq_getElem_cons h1

theorem topId_drop {K : Type} : ∀ (j : Nat) (z : List (Fr K)) (h : Nat) (f0 : Fr K) (z' : List (Fr K)), z.drop j = f0 :: z' → topId z' f0.id = topId z h
  | 0, z, h, f0, z', e => by rw [List.drop_zero] at e; rw [e]; rfl
  | j + 1, [], h, f0, z', e => by simp at e
  | j + 1, g :: z, h, f0, z', e => by
    rw [List.drop_succ_cons] at e
    rw [topId]
    exact topId_drop j z g.id f0 z' e

theorem tsUp_ids {K : Type} {f : Fr K} {rt : B K} {r : Nat} (h : f.kids ≠ [] → rt.id = r) : (tsUp f rt).map B.id = idsUp (f.kids.map B.id) f.at_ r := by
  unfold tsUp idsUp
  by_cases hk : f.kids = []
  · rw [if_pos hk, if_pos (by rw [hk]; rfl)]; rfl
  · rw [if_neg hk, if_neg (by simpa using hk), List.map_append, List.map_cons, List.map_take, List.map_drop, h hk]

theorem idsUp_len {K : Type} {f : Fr K} (h : FrOk f) (r : Nat) : idsUp (f.kids.map B.id) f.at_ r = [] ∨ (idsUp (f.kids.map B.id) f.at_ r).length = f.keys.length + 2 := by
  unfold idsUp
  split
  · exact .inl rfl
  · next hne =>
    have h2 := h.2
    rcases h.1 with h1 | h1
    · rw [h1] at hne; exact absurd rfl hne
    · refine .inr ?_
      simp; omega

theorem Only.keeps {ok : Nat → Prop} {W W' : World} (h : Only ok W W') {B : Nat} (hB : ∀ b, ok b → b < B) : KeepsFrom B W W' :=
  ⟨h.size, fun k o hk ho _ => (h.block k (Array.getElem?_eq_some_iff.1 ho).1 fun hb => by have := hB k hb; omega).trans ho⟩

/-- frames as they are on a way -/
def WayFs (fs : List (Fr ByteArray)) (next root : Nat) : Prop :=
  (∀ f ∈ fs, FrOk f ∧ 1 ≤ f.keys.length ∧ f.keys.length ≤ 4 ∧ 1 ≤ f.id ∧ f.id < next) ∧ (∀ j, GoodZ (fs.drop (j + 1))) ∧ (∀ j f0 z', fs.drop j = f0 :: z' → topId z' f0.id = root ∧ Linked z' f0.id)

section
variable {w W W' : World} {t M G p3 p5 p6 root nx0 m : Nat} {lent : Bool} {R : B ByteArray × Nat} {fs : List (Fr ByteArray)} {pre : List (Fin m)} {lai : List (Nat × Value)} {nx : Nat} {k : ByteArray} {r : Nat}

theorem up_fit {z : List (Fr ByteArray)} {f : Fr ByteArray} {rt : B ByteArray} (h : (ksUp f k).length ≤ 4) : up 4 2 z f k rt nx = (plug z (.mk f.id (ksUp f k) (tsUp f rt)), nx) := by
  rw [up, if_pos h]

/-- the key fits -/
theorem put_fit (hwk : Wk w W t M G p3 p5 p6 root lent lai nx k r) (hstr : Down m pre → Str W (badP t M G p5 p6) R root fs pre.length lai nx k r) (hF : WayFs fs nx0 root) (x : Fin m) {f0 : Fr ByteArray} (hf : fs[m - 1 - x.val]? = some f0)
    {B' C' : Option Addr} {n c n' c' : Nat} (hN : NodeAt W' (badP t M G p5 p6) B' n c C' n' c' (ksUp f0 k) (idsUp (f0.kids.map B.id) f0.at_ r)) (h4 : (ksUp f0 k).length ≤ 4) (hnx : nx0 ≤ nx)
    (h1 : IsT W' t (some M) (some G) root nx lent) (h2 : OwnU W' M VNo (putU f0.id (.agg #[.slice B' n c, .slice C' n' c']) lai)) (h3 : OwnU W' G VGo ([] : List (Nat × Unit))) (hO : Only (badT t M G) W W') :
    PutX w t M G p5 p6 root lent R m .ret (pre ++ [x]) W' := by
  have hfm := hF.1 f0 (List.mem_of_getElem? hf)
  refine ⟨rfl, _, nx, ⟨h1, h2, h3, fun p hp => ?_, hwk.only.trans hO⟩, fun hd => ?_⟩
  · rcases mem_putU hp with rfl | hp
    · show f0.id < nx; omega
    · exact hwk.low p hp
  · obtain ⟨hd1, hd2⟩ := hd.init
    have hj : m - 1 - x.val = pre.length := by omega
    rw [hj] at hf
    have hdr := drop_at hf
    obtain ⟨f, rt, e1, e2, e3, e4, hP, hup, hr⟩ := (hstr hd1).1 f0 _ hdr
    have hks : ksUp f k = ksUp f0 k := by unfold ksUp; rw [e2, e3]
    have hids : (tsUp f rt).map B.id = idsUp (f0.kids.map B.id) f0.at_ r := by rw [tsUp_ids hr, e4, e3]
    have hR : R = (plug (fs.drop (pre.length + 1)) (.mk f.id (ksUp f k) (tsUp f rt)), nx) := by rw [← hup, up_fit (by rw [hks]; exact h4)]
    have hgz := hF.2.1 pre.length
    rw [hR]
    refine ⟨rfl, by rw [plug_id]; show topId _ f.id = root; rw [e1]; exact (hF.2.2 _ _ _ hdr).1, pend_fit hP hgz (fun y hy hl => (hl.only hO (fun _ h => .inl h)).put (by rw [← e1]; exact hy)) ?_⟩
    rw [hks, hids, e1]
    refine ⟨⟨by rw [ksUp_len hfm.1]; omega, h4, ?_⟩, B', n, c, C', n', c', by rw [get_putU, if_pos rfl], hN⟩
    have := idsUp_len hfm.1 r
    rw [ksUp_len hfm.1]
    exact this

theorem up_cut0 {f : Fr ByteArray} {rt : B ByteArray} {mk : ByteArray} (h : (ksUp f k).length = 5) (hm : (ksUp f k)[2]? = some mk) :
    up 4 2 [] f k rt nx = (.mk (nx + 1) [mk] [.mk f.id ((ksUp f k).take 2) ((tsUp f rt).take 3), .mk nx ((ksUp f k).drop 3) ((tsUp f rt).drop 3)], nx + 2) := by
  rw [up, if_neg (by omega), hm]

theorem up_cut1 {g : Fr ByteArray} {z : List (Fr ByteArray)} {f : Fr ByteArray} {rt : B ByteArray} {mk : ByteArray} (h : (ksUp f k).length = 5) (hm : (ksUp f k)[2]? = some mk) :
    up 4 2 (g :: z) f k rt nx = up 4 2 z { g with kids := g.kids.set g.at_ (.mk f.id ((ksUp f k).take 2) ((tsUp f rt).take 3)) } mk (.mk nx ((ksUp f k).drop 3) ((tsUp f rt).drop 3)) (nx + 1) := by
  rw [up, if_neg (by omega), hm]

/-- the node is cut -/
theorem put_cut (hwk : Wk w W t M G p3 p5 p6 root lent lai nx k r) (hstr : Down m pre → Str W (badP t M G p5 p6) R root fs pre.length lai nx k r) (hF : WayFs fs nx0 root) (x : Fin m) {f0 : Fr ByteArray} (hf : fs[m - 1 - x.val]? = some f0)
    {A1 A2 A3 A4 : Option Addr} {n1 c1 n2 c2 n3 c3 n4 c4 : Nat} {mk : ByteArray} (hN1 : NodeAt W' (badP t M G p5 p6) A1 n1 c1 A2 n2 c2 ((ksUp f0 k).take 2) ((idsUp (f0.kids.map B.id) f0.at_ r).take 3)) (hN2 : NodeAt W' (badP t M G p5 p6) A3 n3 c3 A4 n4 c4 ((ksUp f0 k).drop 3) ((idsUp (f0.kids.map B.id) f0.at_ r).drop 3))
    (h5 : (ksUp f0 k).length = 5) (hm : (ksUp f0 k)[2]? = some mk) (hnx : nx0 ≤ nx) (hnx2 : nx ≤ nx0 + pre.length) (hnx3 : nx < 1000000)
    (h1 : IsT W' t (some M) (some G) root (nx + 1) lent) (h2 : OwnU W' M VNo (putU nx (.agg #[.slice A3 n3 c3, .slice A4 n4 c4]) (putU f0.id (.agg #[.slice A1 n1 c1, .slice A2 n2 c2]) lai))) (h3 : OwnU W' G VGo ([] : List (Nat × Unit))) (hO : Only (badP t M G p5 p6) W W') (hp5 : w.heap.size ≤ p5) (hp6 : w.heap.size ≤ p6)
    (hb3 : W'.heap[p3]? = some (.cells #[.pointer (some ⟨t, 0, none⟩)] 24 (0, 0))) (hb5 : W'.heap[p5]? = some (.cells #[.string mk] 9 (0, 0))) (hb6 : W'.heap[p6]? = some (.cells #[.int .u64 (nx : Int)] 26 (0, 0))) :
    PutI w t M G p3 p5 p6 root lent nx0 R fs m (pre ++ [x]) W' := by
  have hfm := hF.1 f0 (List.mem_of_getElem? hf)
  refine ⟨_, nx + 1, mk, nx, ⟨h1, h2, h3, hb3, hb5, hb6, fun p hp => ?_, only_back hwk.only hp5 hp6 hO, by omega, by omega⟩, by omega, by simp; omega, fun hd => ?_⟩
  · rcases mem_putU hp with rfl | hp
    · exact Nat.lt_succ_self _
    · rcases mem_putU hp with rfl | hp
      · show f0.id < nx + 1; omega
      · have := hwk.low p hp; omega
  · obtain ⟨hd1, hd2⟩ := hd.init
    have hj : m - 1 - x.val = pre.length := by omega
    rw [hj] at hf
    have hdr := drop_at hf
    obtain ⟨f, rt, e1, e2, e3, e4, hP, hup, hr⟩ := (hstr hd1).1 f0 _ hdr
    have hks : ksUp f k = ksUp f0 k := by unfold ksUp; rw [e2, e3]
    have hids : (tsUp f rt).map B.id = idsUp (f0.kids.map B.id) f0.at_ r := by rw [tsUp_ids hr, e4, e3]
    have h5' : (ksUp f k).length = 5 := by rw [hks]; exact h5
    have hm' : (ksUp f k)[2]? = some mk := by rw [hks]; exact hm
    have hgz := hF.2.1 pre.length
    have hlk := (hF.2.2 _ _ _ hdr).2
    have hPP : ∀ y : Nd ByteArray, y.1 ≠ f.id → y.1 ≠ nx → Laid W (badP t M G p5 p6) lai y → Laid W' (badP t M G p5 p6) (putU nx (.agg #[.slice A3 n3 c3, .slice A4 n4 c4]) (putU f0.id (.agg #[.slice A1 n1 c1, .slice A2 n2 c2]) lai)) y := fun y hy1 hy2 hl => ((hl.only hO (fun _ h => h)).put (by rw [← e1]; exact hy1)).put hy2
    have hil := idsUp_len hfm.1 r
    have hkl := ksUp_len (k := k) hfm.1
    have hid : f0.id < nx := by omega
    have hL1 : Laid W' (badP t M G p5 p6) (putU nx (.agg #[.slice A3 n3 c3, .slice A4 n4 c4]) (putU f0.id (.agg #[.slice A1 n1 c1, .slice A2 n2 c2]) lai)) (f.id, (ksUp f k).take 2, ((tsUp f rt).take 3).map B.id) := by
      rw [List.map_take, hids, hks, e1]
      refine ⟨⟨by simp; omega, by simp; omega, ?_⟩, A1, n1, c1, A2, n2, c2, by rw [get_putU, if_neg (by show ¬ f0.id = nx; omega), get_putU, if_pos rfl], hN1⟩
      rcases hil with h | h
      · left; show (idsUp _ _ _).take 3 = []; rw [h]; rfl
      · right; show ((idsUp _ _ _).take 3).length = ((ksUp f0 k).take 2).length + 1
        rw [List.length_take, List.length_take]; omega
    have hL2 : Laid W' (badP t M G p5 p6) (putU nx (.agg #[.slice A3 n3 c3, .slice A4 n4 c4]) (putU f0.id (.agg #[.slice A1 n1 c1, .slice A2 n2 c2]) lai)) (nx, (ksUp f k).drop 3, ((tsUp f rt).drop 3).map B.id) := by
      rw [List.map_drop, hids, hks]
      refine ⟨⟨by simp; omega, by simp; omega, ?_⟩, A3, n3, c3, A4, n4, c4, by rw [get_putU, if_pos rfl], hN2⟩
      rcases hil with h | h
      · left; show (idsUp _ _ _).drop 3 = []; rw [h]; rfl
      · right; show ((idsUp _ _ _).drop 3).length = ((ksUp f0 k).drop 3).length + 1
        rw [List.length_drop, List.length_drop]; omega
    have hpl : (pre ++ [x]).length = pre.length + 1 := by simp
    rw [hpl]
    refine ⟨fun g0 z'' e => ?_, fun e => ?_⟩
    · rw [e] at hP hup hgz hlk
      refine ⟨{ g0 with kids := g0.kids.set g0.at_ (.mk f.id ((ksUp f k).take 2) ((tsUp f rt).take 3)) }, .mk nx ((ksUp f k).drop 3) ((tsUp f rt).drop 3), rfl, rfl, rfl, ?_, pend_cut hP hgz (by rw [e1]; exact hlk) 3 hPP hL1 hL2, by rw [← hup, up_cut1 h5' hm'], fun _ => rfl⟩
      show (g0.kids.set g0.at_ _).map B.id = g0.kids.map B.id
      rw [List.map_set]
      have hk1 := hlk.1
      obtain ⟨q1, q2⟩ := List.getElem?_eq_some_iff.1 hk1
      show (g0.kids.map B.id).set g0.at_ f.id = _
      rw [e1, ← q2, List.set_getElem_self]
    · rw [e] at hP hup
      refine ⟨_, _, ?_, rfl, pend_top hP 3 hPP hL1 hL2, by rw [← hup, up_cut0 h5' hm']⟩
      show f.id = root
      rw [e1]
      have := (hF.2.2 _ _ _ hdr).1
      rw [e] at this
      exact this

end
end Go.Proofs.Ytmhpgbhmhbldfaa
