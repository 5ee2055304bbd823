/- awake of layer 5; a nil page -/
import Derived.Test.YtdfkahkomcfoeaaPgG
namespace Go.Proofs.Ytdfkahkomcfoeaa
open Go.ChangeShapes Go.WideShapes Go.ChangeAt Go.RowKit

def txtL : List UInt8 := [116, 101, 120, 116]

def pgT : Pg := [(7, txtL)]

theorem putR_txt : putR [] 7 txtL = (pgT, true) := rfl

theorem getS_txt : getS pgT 7 = txtL := rfl

theorem hasP_txt : hasP pgT 7 = true := rfl

set_option maxRecDepth 100000 in
theorem awake5 (w : World) : Calls Try.prog 8 #[] w fun e w' => e = .returned (.bool true) ∧ Below w.heap.size w w' := by
  have HN := Lib.hid (pg_new w)
  have HPU : Hid (∀ wn P v, IsPg w.heap.size wn P v [] → Calls Try.prog 14 #[.pointer (some ⟨P, 0, none⟩), .int .u64 7, .string ⟨#[116, 101, 120, 116]⟩] wn fun e w' => e = .returned (.bool true) ∧ Below w.heap.size wn w' ∧ ∃ v', IsPg w.heap.size w' P v' pgT) := Lib.hid fun wn P v hp => by
    refine (pg_put hp 7 (by decide) txtL (by decide)).mono fun e w' p => ?_
    rw [putR_txt] at p
    have hb := PgStep.below hp p
    obtain ⟨he, v', hp', -, -⟩ := p
    exact ⟨he, hb, v', hp'⟩
  have HEN : Hid (∀ wn P v, IsPg w.heap.size wn P v pgT → Calls Try.prog 12 #[.pointer (some ⟨P, 0, none⟩)] wn fun e w' => e = .returned (.string ⟨(encP pgT).toArray⟩) ∧ Below w.heap.size wn w' ∧ OkP pgT) := Lib.hid fun wn P v hp =>
    (pg_encode hp).mono fun e w' p => ⟨p.1, p.2.mono (by have := hp.lt; have := hp.ge; omega), hp.ok⟩
  have HDE : Hid (∀ wn, OkP pgT → Calls Try.prog 11 #[.string ⟨(encP pgT).toArray⟩] wn fun e w' => ∃ P v, e = .returned (.tuple #[.pointer (some ⟨P, 0, none⟩), .int .i64 0]) ∧ Below wn.heap.size wn w' ∧ IsPg wn.heap.size w' P v pgT) := Lib.hid fun wn hok => by
    have hl := enc_len hok.fit
    have := decode_any (encP pgT) (by omega) wn
    rw [dec_enc hok] at this
    refine this.mono fun e w' p => ?_
    obtain ⟨hb, P, v, he, hp⟩ := p
    exact ⟨P, v, he, hb, hp⟩
  have HGE : Hid (∀ n wn P v, IsPg n wn P v pgT → Calls Try.prog 20 #[.pointer (some ⟨P, 0, none⟩), .int .u64 7] wn fun e w' => e = .returned (.tuple #[.string ⟨#[116, 101, 120, 116]⟩, .bool true]) ∧ Below wn.heap.size wn w') := Lib.hid fun n wn P v hp => by
    have := pg_get hp 7
    rw [getS_txt, hasP_txt] at this
    exact this
  generalize encP pgT = E at HEN HDE
  go_enter Try.func8, Try.ntmps8
  go_wp2_with (first
    | (go_at_call 7; (with_reducible refine HN.out.mono ?_); rintro e w1 ⟨rfl, hp, hb⟩; have HP := Lib.hid hp; have HB := Lib.hid hb; clear hp hb)
    | (go_at_call 14; (with_reducible refine (HPU.out _ _ _ HP.out).mono ?_); rintro e w2 ⟨rfl, hb, v', hp⟩; have HP2 := Lib.hid hp; have HB2 := Lib.hid (HB.out.trans hb); clear hp hb)
    | (go_at_call 12; (with_reducible refine (HEN.out _ _ _ HP2.out).mono ?_); rintro e w3 ⟨rfl, hb, hok⟩; have HOK := Lib.hid hok; have HB3 := Lib.hid (HB2.out.trans hb); clear hok hb)
    | (go_at_call 11; (with_reducible refine (HDE.out _ HOK.out).mono ?_); rintro e w4 ⟨P', v'', rfl, hb, hp⟩; have HP4 := Lib.hid hp; have HB4 := Lib.hid (HB3.out.trans (hb.mono HB3.out.size)); clear hp hb)
    | (go_at_call 20; (with_reducible refine (HGE.out _ _ _ _ HP4.out).mono ?_); rintro e w5 ⟨rfl, hb⟩; have HB5 := Lib.hid (HB4.out.trans (hb.mono HB4.out.size)); clear hb)
    | fail)
  go_ret
  exact ⟨rfl, HB5.out⟩

theorem nil_get (id : Int) (w : World) : Calls Try.prog 20 #[.pointer none, .int .u64 id] w fun e w' => e = .returned (.tuple #[.string ⟨#[]⟩, .bool false]) ∧ w = w' := by
  go_enter Try.func20, Try.ntmps20
  go_wp2_with fail
  go_ret2
  exact ⟨rfl, rfl⟩

theorem nil_put (id : Int) (s : ByteArray) (w : World) : Calls Try.prog 14 #[.pointer none, .int .u64 id, .string s] w fun e w' => e = .returned (.bool false) ∧ w = w' := by
  go_enter Try.func14, Try.ntmps14
  go_wp2_with fail
  go_ret
  exact ⟨rfl, rfl⟩

theorem nil_drop (id : Int) (w : World) : Calls Try.prog 10 #[.pointer none, .int .u64 id] w fun e w' => e = .returned (.bool false) ∧ w = w' := by
  go_enter Try.func10, Try.ntmps10
  go_wp2_with fail
  go_ret
  exact ⟨rfl, rfl⟩

theorem nil_free (w : World) : Calls Try.prog 17 #[.pointer none] w fun e w' => e = .returned (.int .i64 0) ∧ w = w' := by
  go_enter Try.func17, Try.ntmps17
  go_wp2_with fail
  go_ret
  exact ⟨rfl, rfl⟩

theorem nil_all (w : World) : Calls Try.prog 16 #[.pointer none] w fun e w' => e = .returned (.slice none 0 0) ∧ w = w' := by
  go_enter Try.func16, Try.ntmps16
  go_wp2_with fail
  go_ret
  exact ⟨rfl, rfl⟩

theorem nil_encode (w : World) : Calls Try.prog 12 #[.pointer none] w fun e w' => e = .returned (.string ⟨#[]⟩) ∧ w = w' := by
  go_enter Try.func12, Try.ntmps12
  go_wp2_with fail
  go_ret
  exact ⟨rfl, rfl⟩

set_option maxRecDepth 100000 in
theorem pnone_walk (id : Int) (s : ByteArray) (w : World) : Calls Try.prog 5 #[.int .u64 id, .string s] w fun e w' => e = .returned (.bool true) ∧ Below w.heap.size w w' := by
  have HA := Lib.hid (awake5 w)
  go_enter Try.func5, Try.ntmps5
  go_wp2_with (first
    | (go_at_call 8; (with_reducible refine HA.out.mono ?_); rintro e w1 ⟨rfl, hb⟩)
    | (go_at_call 20; (with_reducible refine (nil_get _ _).mono ?_); rintro e w1 ⟨rfl, rfl⟩)
    | (go_at_call 14; (with_reducible refine (nil_put _ _ _).mono ?_); rintro e w1 ⟨rfl, rfl⟩)
    | (go_at_call 10; (with_reducible refine (nil_drop _ _).mono ?_); rintro e w1 ⟨rfl, rfl⟩)
    | (go_at_call 17; (with_reducible refine (nil_free _).mono ?_); rintro e w1 ⟨rfl, rfl⟩)
    | (go_at_call 16; (with_reducible refine (nil_all _).mono ?_); rintro e w1 ⟨rfl, rfl⟩)
    | (go_at_call 12; (with_reducible refine (nil_encode _).mono ?_); rintro e w1 ⟨rfl, rfl⟩)
    | fail)
  go_ret
  exact ⟨rfl, hb⟩

end Go.Proofs.Ytdfkahkomcfoeaa
