/- numbers: strconv.ParseUint, Atoi. -/
import Derived.Test.YtbmmoclaijoofaaGreatDoorNumVa
set_option linter.unusedVariables false
set_option linter.unusedSimpArgs false
namespace Go.Proofs.YtbmmoclaijoofaaGreatDoor
open Go.RowKit Go.BigFrame

/-- The errors that the library's start lays: values, or none. -/
def ErrAt (g : Nat) (w : World) : Prop := ∃ ev, w.cell? ⟨g, 0, none⟩ = some ev ∧ (ev = .nilIface ∨ ∃ te pe, ev = .iface te pe)
theorem ErrAt.below {g : Nat} {w w' : World} (h : ErrAt g w) (hb : Below w.heap.size w w') : ErrAt g w' := by
  obtain ⟨ev, h1, h2⟩ := h
  exact ⟨ev, (hb.cell (p := ⟨g, 0, none⟩) (block_lt_of_cell h1)).trans h1, h2⟩
structure ErrsW (w : World) : Prop where
  syn : ErrAt 3 w
  rng : ErrAt 4 w
theorem ErrsW.below {w w' : World} (h : ErrsW w) (hb : Below w.heap.size w w') : ErrsW w' := ⟨h.syn.below hb, h.rng.below hb⟩
def uintS (s : ByteArray) : Option Nat := if s.size = 0 then none else p53 0 s.data.toList
def UintPub (o : Option Nat) (e : Ending) : Prop := match o with
  | some u => e = .returned (.tuple #[.int .u64 (u : Int), .nilIface])
  | none => ∃ (n : Int) (p : Value), e = .returned (.tuple #[.int .u64 n, .iface 96 p])
set_option maxRecDepth 100000 in
set_option maxHeartbeats 400000 in
theorem inner_empty (w : World) : Calls Tryz.prog 86 #[.string ⟨#[]⟩, .int .i64 10, .int .i64 53] w fun e w' => e = .returned (.tuple #[.int .u64 0, .iface 94 (.int .i64 2)]) ∧ w' = w := by
  go_enter Tryz.func86, Tryz.ntmps86
  go_wp2
  go_ret2
  exact ⟨rfl, by trivial⟩
theorem inner_any (t : ByteArray) (hmax : t.size ≤ 9223372036854775806) (w : World) :
    Calls Tryz.prog 86 #[.string t, .int .i64 10, .int .i64 53] w fun e w' => UintEnd (uintS t) e ∧ Below w.heap.size w w' := by
  unfold uintS
  by_cases h : t.size = 0
  · rw [if_pos h]
    obtain rfl : t = ⟨#[]⟩ := by
      apply str_ext
      have := len_data t
      rw [h] at this
      exact List.eq_nil_of_length_eq_zero this
    refine (inner_empty w).mono ?_
    rintro e w' ⟨rfl, rfl⟩
    exact ⟨⟨0, 2, .inr rfl, rfl⟩, Below.refl _ _⟩
  · rw [if_neg h]
    exact inner_some t h hmax w
set_option maxRecDepth 100000 in
set_option maxHeartbeats 1600000 in
theorem parseUint_any (s : ByteArray) (hs : s.size ≤ 281474976710656) (w : World) (he : ErrsW w) :
    Calls Tryz.prog 75 #[.string s, .int .i64 10, .int .i64 53] w fun e w' => UintPub (uintS s) e ∧ Below w.heap.size w w' := by
  have HI := Lib.hid (inner_any s (by omega) w)
  cases ho : uintS s with
  | some u =>
    rw [ho] at HI
    unfold UintEnd at HI
    have HP := Lib.hid (fun (w' : World) (hb : Below w.heap.size w w') => show (fun e w' => UintPub (some u) e ∧ Below w.heap.size w w') (.returned (.tuple #[.int .u64 (u : Int), .nilIface])) w' from ⟨rfl, hb⟩)
    generalize (fun e w' => UintPub (some u) e ∧ Below w.heap.size w w') = post at *
    clear ho he
    go_enter Tryz.func75, Tryz.ntmps75
    go_wp2_with fail
    refine HI.out.mono ?_
    rintro e w1 ⟨rfl, hb1⟩
    have HQ := Lib.hid (HP.out w1 hb1)
    clear hb1
    go_wp2
    exact HQ.out
  | none =>
    rw [ho] at HI
    unfold UintEnd at HI
    have HP := Lib.hid (fun (n : Int) (p : Value) (w' : World) (hb : Below w.heap.size w w') => show (fun e w' => UintPub none e ∧ Below w.heap.size w w') (.returned (.tuple #[.int .u64 n, .iface 96 p])) w' from ⟨⟨n, p, rfl⟩, hb⟩)
    have HE := Lib.hid (fun (w1 : World) (h : Below w.heap.size w w1) => he.below h)
    generalize (fun e w' => UintPub none e ∧ Below w.heap.size w w') = post at *
    clear ho he
    go_enter Tryz.func75, Tryz.ntmps75
    go_wp2_with fail
    refine HI.out.mono ?_
    rintro e w1 ⟨⟨n, k, hk, rfl⟩, hb1⟩
    have HB1 := Lib.hid hb1
    clear hb1
    rcases hk with rfl | rfl
    · obtain ⟨ev, hv1, hv2⟩ := (HE.out w1 HB1.out).rng
      go_wp2_with fail
      refine (Tryz.strconv_toError_range _ _ _ _ ev _ (by omega) hv1 hv2).mono ?_
      rintro e w2 ⟨N, rfl, _, _, hb2⟩
      have HQ := Lib.hid (HP.out n (.pointer (some ⟨N, 0, none⟩)) w2 (step_below HB1.out hb2))
      clear hb2
      go_wp2
      exact HQ.out
    · obtain ⟨ev, hv1, hv2⟩ := (HE.out w1 HB1.out).syn
      go_wp2_with fail
      refine (Tryz.strconv_toError_syntax _ _ _ _ ev _ (by omega) hv1 hv2).mono ?_
      rintro e w2 ⟨N, rfl, _, _, hb2⟩
      have HQ := Lib.hid (HP.out n (.pointer (some ⟨N, 0, none⟩)) w2 (step_below HB1.out hb2))
      clear hb2
      go_wp2
      exact HQ.out
def AtoiPub (o : Option Int) (e : Ending) : Prop := match o with
  | some v => e = .returned (.tuple #[.int .i64 v, .nilIface])
  | none => ∃ (n : Int) (p : Value), e = .returned (.tuple #[.int .i64 n, .iface 96 p])
def atoiO (s : ByteArray) : Option Int := match Lib.atoiAll s.data.toList with
  | .ok v => some v
  | _ => none
theorem atoi_any (s : ByteArray) (hs : s.size ≤ 281474976710656) (w : World) (he : ErrsW w) :
    Calls Tryz.prog 76 #[.string s] w fun e w' => AtoiPub (atoiO s) e ∧ Below w.heap.size w w' := by
  unfold atoiO
  cases h : Lib.atoiAll s.data.toList with
  | ok v =>
    refine (Tryz.strconv_Atoi_ok s (by omega) v h w).mono ?_
    rintro e w' ⟨rfl, hw⟩
    refine ⟨rfl, ?_⟩
    rcases hw with rfl | ⟨t, rfl⟩
    · exact Below.refl _ _
    · exact Lib.bytesWorld_below _ _ _
  | «syntax» =>
    obtain ⟨ev, h1, h2⟩ := he.syn
    refine (Tryz.strconv_Atoi_syntax s hs h ev w h1 h2).mono ?_
    rintro e w' ⟨N, rfl, _, _, hb⟩
    exact ⟨⟨_, _, rfl⟩, hb⟩
  | range =>
    obtain ⟨ev, h1, h2⟩ := he.rng
    refine (Tryz.strconv_Atoi_range s hs h ev w h1 h2).mono ?_
    rintro e w' ⟨N, rfl, _, _, hb⟩
    exact ⟨⟨_, _, rfl⟩, hb⟩
end Go.Proofs.YtbmmoclaijoofaaGreatDoor
