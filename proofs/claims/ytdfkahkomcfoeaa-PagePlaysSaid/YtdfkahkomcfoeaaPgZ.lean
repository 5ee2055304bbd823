/- PagePlays -/
import Derived.Test.YtdfkahkomcfoeaaPgY
namespace Go.Proofs.Ytdfkahkomcfoeaa
open Go.ChangeShapes Go.WideShapes Go.ChangeAt Go.RowKit

/-- a page and the reference's row of the same records, each in blocks of its own -/
structure PS0 (n : Nat) (w : World) (P : Nat) (v mv : Value) (l k : Pg) : Prop where
  pg : IsPg n w P v l
  row : w.ownsRow n 47 2 mv k.length (cellsB k)
  ne : mv.ownBlock ≠ some P
  sep : ∀ g, mv.ownBlock = some g → v.ownBlock ≠ some g

/-- .. and what is done, in a block of its own -/
structure PSt (n : Nat) (w : World) (P : Nat) (v mv : Value) (l k : Pg) (g : Nat) (O : Obj) : Prop extends PS0 n w P v mv l k where
  act : w.heap[g]? = some O
  gP : g ≠ P
  gV : v.ownBlock ≠ some g

theorem PS0.on {n : Nat} {w w' : World} {P : Nat} {v mv : Value} {l k : Pg} (h : PS0 n w P v mv l k) (hb : Below w.heap.size w w') : PS0 n w' P v mv l k :=
  ⟨h.pg.on hb, owns_on h.row (Only.of_below (ok := fun _ => False) hb) (fun _ _ h => h), h.ne, h.sep⟩

theorem PS0.act {n : Nat} {w : World} {P : Nat} {v mv : Value} {l k : Pg} (h : PS0 n w P v mv l k) (cs : Array Value) (T : TypeId) : PSt n (w.alloc (.cells cs T)) P v mv l k w.heap.size (.cells cs T) := by
  refine ⟨h.on ((Below.refl _ w).alloc (Nat.le_refl _) _), heap_alloc_new w _, ?_, fun e => ?_⟩
  · have := h.pg.lt; omega
  · have := (h.pg.row.lt _ e).2; omega

theorem PSt.on {n : Nat} {w w' : World} {P : Nat} {v mv : Value} {l k : Pg} {g : Nat} {O : Obj} (h : PSt n w P v mv l k g O) (hb : Below w.heap.size w w') : PSt n w' P v mv l k g O :=
  ⟨h.toPS0.on hb, (hb.block g (Array.getElem?_eq_some_iff.1 h.act).1).trans h.act, h.gP, h.gV⟩

theorem PSt.big {n : Nat} {w : World} {P : Nat} {v mv : Value} {l k : Pg} {g : Nat} {O : Obj} (h : PSt n w P v mv l k g O) : n ≤ w.heap.size := by have := h.pg.lt; have := h.pg.ge; omega

/-- the page has changed -/
theorem PSt.page {n : Nat} {w w' : World} {P : Nat} {v mv : Value} {l k l' : Pg} {g : Nat} {O : Obj} {r : Value} {e : Ending} (h : PSt n w P v mv l k g O) (hs : PgStep n w P v l' r e w') : ∃ v', PSt n w' P v' mv l' k g O := by
  obtain ⟨-, v', hp, ho, hv⟩ := hs
  refine ⟨v', ⟨hp, owns_on h.row ho fun q hg => ?_, h.ne, fun q hg => ?_⟩, ?_, h.gP, ?_⟩
  · rintro (rfl | hk)
    · exact h.ne hg
    · exact h.sep q hg hk.symm
  · rcases hv with hv | ⟨q', hv, hg'⟩
    · rw [hv]; exact h.sep q hg
    · rw [hv]
      intro e
      cases e
      have := (h.row.lt q hg).2
      omega
  · refine (ho.block g (Array.getElem?_eq_some_iff.1 h.act).1 ?_).trans h.act
    rintro (e | e)
    · exact h.gP e
    · exact h.gV e.symm
  · rcases hv with hv | ⟨q', hv, hg'⟩
    · rw [hv]; exact h.gV
    · rw [hv]
      intro e
      cases e
      have := (Array.getElem?_eq_some_iff.1 h.act).1
      omega

/-- the row has been made anew -/
theorem PSt.anew {n : Nat} {w w' : World} {P : Nat} {v mv mv' : Value} {l k k' : Pg} {g : Nat} {O : Obj} (h : PSt n w P v mv l k g O) (hb : Below w.heap.size w w') (hrow : w'.ownsRow n 47 2 mv' k'.length (cellsB k')) (hf : mv' = mv ∨ ∀ q, mv'.ownBlock = some q → w.heap.size ≤ q) : PSt n w' P v mv' l k' g O := by
  refine ⟨⟨h.pg.on hb, hrow, ?_, fun q hg => ?_⟩, (hb.block g (Array.getElem?_eq_some_iff.1 h.act).1).trans h.act, h.gP, h.gV⟩
  · rcases hf with rfl | hf
    · exact h.ne
    · intro e; have := hf _ e; have := h.pg.lt; omega
  · rcases hf with rfl | hf
    · exact h.sep q hg
    · intro e
      have := hf q hg
      have := (h.pg.row.lt q e).2
      omega

/-- another page of the same records -/
theorem PSt.other {n : Nat} {w w' : World} {P P' : Nat} {v v' mv : Value} {l l' k : Pg} {g : Nat} {O : Obj} (h : PSt n w P v mv l k g O) (hb : Below w.heap.size w w') (hp : IsPg w.heap.size w' P' v' l') : PSt n w' P' v' mv l' k g O := by
  have hgl := (Array.getElem?_eq_some_iff.1 h.act).1
  refine ⟨⟨hp.mono h.big, owns_on h.row (Only.of_below (ok := fun _ => False) hb) (fun _ _ h => h), fun e => ?_, fun q hg e => ?_⟩, (hb.block g hgl).trans h.act, by have := hp.ge; omega, fun e => by have := (hp.row.lt _ e).1; omega⟩
  · have := (h.row.lt _ e).2; have := hp.ge; omega
  · have := (h.row.lt q hg).2; have := (hp.row.lt q e).1; omega

theorem has_drop {l : Pg} (id : Nat) : hasP l id = decide ((dropL l id).length < l.length) := by
  unfold hasP dropL
  induction l with
  | nil => rfl
  | cons r t ih =>
    rw [List.any_cons]
    by_cases h : r.1 = id
    · have hl := List.length_filter_le (fun r : Bod => r.1 != id) t
      rw [List.filter_cons_of_neg (by simp [h]), show (r.1 == id) = true by simpa using h, Bool.true_or]
      symm
      rw [decide_eq_true_eq, List.length_cons]; omega
    · rw [List.filter_cons_of_pos (by simpa using h), show (r.1 == id) = false by simpa using h, Bool.false_or, ih]
      simp

theorem plays_with {n : Nat} {w : World} {P : Nat} {v mv : Value} {l : Pg} {g : Nat} {O : Obj} (h : PSt n w P v mv l l g O) (id : Nat) (s : List UInt8) (hs : s.length ≤ 100000) :
    Calls Try.prog 13 #[mv, .int .u64 id, .string ⟨s.toArray⟩] w fun e w' => ∃ A c, e = .returned (.tuple #[.slice A (putR l id s).1.length c, .bool (putR l id s).2]) ∧ PSt n w' P v (.slice A (putR l id s).1.length c) l (putR l id s).1 g O ∧ Below n w w' := by
  refine (with_any h.row h.big h.pg.ok id s hs).mono fun _ _ p => ?_
  obtain ⟨v', he, hrow, hb, hf⟩ := p
  obtain ⟨A, c, rfl, -, -⟩ := owns_form hrow
  exact ⟨A, c, he, h.anew hb hrow hf, hb.mono h.big⟩

theorem plays_put {n : Nat} {w : World} {P : Nat} {v mv : Value} {l k : Pg} {g : Nat} {O : Obj} (h : PSt n w P v mv l k g O) (id : Nat) (hid : id < 18446744073709551616) (s : List UInt8) (hs : s.length ≤ 100000) :
    Calls Try.prog 14 #[.pointer (some ⟨P, 0, none⟩), .int .u64 id, .string ⟨s.toArray⟩] w fun e w' => e = .returned (.bool (putR l id s).2) ∧ ∃ v', PSt n w' P v' mv (putR l id s).1 k g O ∧ Below n w w' := by
  refine (pg_put h.pg id hid s hs).mono fun _ _ p => ?_
  obtain ⟨v', hp⟩ := h.page p
  exact ⟨p.1, v', hp, PgStep.below h.pg p⟩

theorem plays_without {n : Nat} {w : World} {P : Nat} {v mv : Value} {l : Pg} {g : Nat} {O : Obj} (h : PSt n w P v mv l l g O) (id : Nat) :
    Calls Try.prog 9 #[mv, .int .u64 id] w fun e w' => ∃ A c, e = .returned (.tuple #[.slice A (dropL l id).length c, .bool (hasP l id)]) ∧ PSt n w' P v (.slice A (dropL l id).length c) l (dropL l id) g O ∧ Below n w w' := by
  obtain ⟨A0, c0, b0, rfl, hs⟩ := owns_seen h.row
  refine (without_any l id A0 c0 b0 w hs (by have := h.pg.ok.len; omega)).mono fun _ _ p => ?_
  obtain ⟨v', he, hrow, hb⟩ := p
  obtain ⟨A, c, rfl, -, -⟩ := owns_form hrow
  rw [← has_drop] at he
  exact ⟨A, c, he, h.anew hb (owns_mono hrow h.big) (.inr fun g hg => (hrow.lt g hg).1), hb.mono h.big⟩

theorem plays_drop {n : Nat} {w : World} {P : Nat} {v mv : Value} {l k : Pg} {g : Nat} {O : Obj} (h : PSt n w P v mv l k g O) (id : Nat) :
    Calls Try.prog 10 #[.pointer (some ⟨P, 0, none⟩), .int .u64 id] w fun e w' => e = .returned (.bool (hasP l id)) ∧ ∃ v', PSt n w' P v' mv (dropL l id) k g O ∧ Below n w w' := by
  refine (pg_drop h.pg id).mono fun _ _ p => ?_
  obtain ⟨v', hp⟩ := h.page p
  exact ⟨p.1, v', hp, PgStep.below h.pg p⟩

theorem plays_encode {n : Nat} {w : World} {P : Nat} {v mv : Value} {l k : Pg} {g : Nat} {O : Obj} (h : PSt n w P v mv l k g O) :
    Calls Try.prog 12 #[.pointer (some ⟨P, 0, none⟩)] w fun e w' => e = .returned (.string ⟨(encP l).toArray⟩) ∧ PSt n w' P v mv l k g O ∧ Below n w w' :=
  (pg_encode h.pg).mono fun _ _ p => ⟨p.1, h.on p.2, p.2.mono h.big⟩

theorem plays_decode {n : Nat} {w : World} {P : Nat} {v mv : Value} {l k : Pg} {g : Nat} {O : Obj} (h : PSt n w P v mv l k g O) :
    Calls Try.prog 11 #[.string ⟨(encP l).toArray⟩] w fun e w' => ∃ P' v', e = .returned (.tuple #[.pointer (some ⟨P', 0, none⟩), .int .i64 0]) ∧ PSt n w' P' v' mv l k g O ∧ Below n w w' := by
  have hl := enc_len h.pg.ok.fit
  have := decode_any (encP l) (by omega) w
  rw [dec_enc h.pg.ok] at this
  refine this.mono fun _ _ p => ?_
  obtain ⟨hb, P', v', he, hp⟩ := p
  exact ⟨P', v', he, h.other hb hp, hb.mono h.big⟩

theorem plays_all {n : Nat} {w : World} {P : Nat} {v mv : Value} {l k : Pg} {g : Nat} {O : Obj} (h : PSt n w P v mv l k g O) :
    Calls Try.prog 16 #[.pointer (some ⟨P, 0, none⟩)] w fun e w' => ∃ A c b, e = .returned (.slice A l.length c) ∧ Seen w' l A c b ∧ PSt n w' P v mv l k g O ∧ Below n w w' := by
  refine (pg_all h.pg).mono fun _ _ p => ?_
  obtain ⟨v', he, hrow, hb⟩ := p
  obtain ⟨A, c, b, rfl, hs⟩ := owns_seen hrow
  exact ⟨A, c, b, he, hs, h.on hb, hb.mono h.big⟩

theorem plays_same {n : Nat} {w : World} {P : Nat} {v : Value} {A A' : Option Addr} {c c' b : Nat} {l : Pg} {g : Nat} {O : Obj} (h : PSt n w P v (.slice A l.length c) l l g O) (hs : Seen w l A' c' b) :
    Calls Try.prog 15 #[.slice A' l.length c', .slice A l.length c] w fun e w' => e = .returned (.bool true) ∧ PSt n w' P v (.slice A l.length c) l l g O ∧ Below n w w' := by
  obtain ⟨A0, c0, b0, he, hs0⟩ := owns_seen h.row
  simp only [Value.slice.injEq, true_and] at he
  obtain ⟨rfl, rfl⟩ := he
  exact (same_own hs hs0 (by have := h.pg.ok.len; omega)).mono fun _ _ p => ⟨p.1, h.on p.2, p.2.mono h.big⟩

theorem plays_free {n : Nat} {w : World} {P : Nat} {v mv : Value} {l k : Pg} {g : Nat} {O : Obj} (h : PSt n w P v mv l k g O) :
    Calls Try.prog 17 #[.pointer (some ⟨P, 0, none⟩)] w fun e w' => e = .returned (.int .i64 ((512 - usedP l : Nat) : Int)) ∧ PSt n w' P v mv l k g O ∧ Below n w w' :=
  (pg_free h.pg).mono fun _ _ p => ⟨p.1, h.on p.2, p.2.mono h.big⟩

theorem plays_used {n : Nat} {w : World} {P : Nat} {v : Value} {A : Option Addr} {c : Nat} {l : Pg} {g : Nat} {O : Obj} (h : PSt n w P v (.slice A l.length c) l l g O) :
    Calls Try.prog 18 #[.slice A l.length c] w fun e w' => e = .returned (.int .i64 (usedP l)) ∧ w = w' := by
  obtain ⟨A0, c0, b0, he, hs0⟩ := owns_seen h.row
  simp only [Value.slice.injEq, true_and] at he
  obtain ⟨rfl, rfl⟩ := he
  exact used_any l A c b0 w hs0 (by have := h.pg.ok.len; omega) (by have := h.pg.ok.fit; omega)

theorem plays_rput {n : Nat} {w : World} {P : Nat} {v : Value} {A : Option Addr} {c : Nat} {l : Pg} {g : Nat} {O : Obj} (h : PSt n w P v (.slice A l.length c) l l g O) :
    Calls Try.prog 19 #[.slice A l.length c] w fun e w' => e = .returned (.string ⟨(encP l).toArray⟩) ∧ PSt n w' P v (.slice A l.length c) l l g O ∧ Below n w w' := by
  obtain ⟨A0, c0, b0, he, hs0⟩ := owns_seen h.row
  simp only [Value.slice.injEq, true_and] at he
  obtain ⟨rfl, rfl⟩ := he
  exact (rput_any l A c b0 w hs0 h.pg.ok.fit h.pg.ok.ids).mono fun _ _ p => ⟨p.1, h.on p.2, p.2.mono h.big⟩

theorem plays_get {n : Nat} {w : World} {P : Nat} {v mv : Value} {l k : Pg} {g : Nat} {O : Obj} (h : PSt n w P v mv l k g O) (id : Nat) :
    Calls Try.prog 20 #[.pointer (some ⟨P, 0, none⟩), .int .u64 id] w fun e w' => e = .returned (.tuple #[.string ⟨(getS l id).toArray⟩, .bool (hasP l id)]) ∧ PSt n w' P v mv l k g O ∧ Below n w w' :=
  (pg_get h.pg id).mono fun _ _ p => ⟨p.1, h.on p.2, p.2.mono h.big⟩

end Go.Proofs.Ytdfkahkomcfoeaa
