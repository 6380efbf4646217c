/- catalogue: works. -/
import Derived.Test.YtcnedecmmplmoaaGreatDoorCm31
import Derived.Test.YtcnedecmmplmoaaGreatDoorCm34
set_option linter.unusedVariables false
set_option linter.unusedSimpArgs false
namespace Go.Proofs.YtcnedecmmplmoaaGreatDoor
open Go Go.RowKit Go.BigFrame
open Ver (cmpV BL parts brk)

def t1 : ByteArray := ⟨#[112, 97, 99, 107, 97, 103, 101, 32, 97, 32, 49, 10, 110, 101, 101, 100, 115, 32, 98, 32, 62, 61, 49, 44, 60, 50, 10, 124, 32, 101, 99, 104, 111, 32, 104, 105, 10]⟩
def t2 : ByteArray := ⟨#[110, 101, 101, 100, 115, 32, 98, 32, 42, 10]⟩
def t3 : ByteArray := ⟨#[112, 97, 99, 107, 97, 103, 101, 32, 97, 32, 49, 10, 112, 97, 99, 107, 97, 103, 101, 32, 97, 32, 49, 10]⟩
def t4 : ByteArray := ⟨#[97, 64, 126, 49, 46, 50, 32, 98]⟩
def wl : List Va := (parseV t1).2.2
def nA : Nde := (⟨#[97]⟩, [[(0, ⟨#[]⟩)]])
theorem wl_facts : wl.length = 1 ∧ (wl.getD 0 default).recipe = ⟨#[32, 101, 99, 104, 111, 32, 104, 105, 10]⟩ ∧ (wl.getD 0 default).needs.length = 1 ∧ (findL wl nA).length = 1 ∧ (∀ x ∈ wl, x.ver.size ≤ 1000000) ∧ ((parseV t1).1 : Int) = 0 ∧ (parseV t1).2.1 = 0 := by decide +kernel
theorem t2_facts : ((parseV t2).1 : Int) = 1 ∧ (parseV t2).2.1 = 150 := by decide +kernel
theorem t3_facts : ((parseV t3).1 : Int) = 2 ∧ (parseV t3).2.1 = 151 := by decide +kernel
def wn : List Nde := wantsOf t4
theorem wn_facts : wn = [(⟨#[97]⟩, [[(7, ⟨#[49, 46, 50]⟩)]]), (⟨#[98]⟩, [[(0, ⟨#[]⟩)]])] ∧ wantsOk t4 = true := by decide +kernel
theorem parse_is {s : ByteArray} {l : List Va} {kk z : Int} {n : Nat} (w : World) (hs : s.size ≤ maxLen) (h1 : ((parseV s).1 : Int) = kk) (h2 : (parseV s).2.1 = z) (h3 : (parseV s).2.2 = l) (hn : l.length = n) :
    Calls Tryz.prog 16 #[.string s] w fun e w' => ∃ A c, e = .returned (.tuple #[.slice A n c, .int .i64 kk, .int .i64 z]) ∧ VasAt w' (.slice A n c) l ∧ Below w.heap.size w w' := by
  refine (callsIn_wide.1 (catParse_any s w hs)).mono fun e w' h => ?_
  obtain ⟨v, rfl, hv, _, hb⟩ := h
  rw [h3] at hv
  obtain ⟨A, c, rfl, _⟩ := OutM.form hv
  exact ⟨A, c, by rw [h1, h2, hn], by rw [← hn]; exact OutM.all VaC.keeps hv, hb⟩
theorem parse_un {s : ByteArray} {kk z : Int} (w : World) (hs : s.size ≤ maxLen) (h1 : ((parseV s).1 : Int) = kk) (h2 : (parseV s).2.1 = z) :
    Calls Tryz.prog 16 #[.string s] w fun e w' => ∃ A n c, e = .returned (.tuple #[.slice A n c, .int .i64 kk, .int .i64 z]) ∧ Below w.heap.size w w' := by
  refine (callsIn_wide.1 (catParse_any s w hs)).mono fun e w' h => ?_
  obtain ⟨v, rfl, hv, _, hb⟩ := h
  obtain ⟨A, c, rfl, _⟩ := OutM.form hv
  exact ⟨A, _, c, by rw [h1, h2], hb⟩
theorem sh_A : Short nA.2 := by have h := rows_short ⟨#[42]⟩ (by decide); rw [star_rows] at h; exact h
theorem wl_is : (parseV t1).2.2 = wl := by unfold wl; rfl
theorem wn_is : wantsOf t4 = wn := by unfold wn; rfl
theorem wn_len : wn.length = 2 := by rw [wn_facts.1]; rfl
theorem wants_is {s : ByteArray} {l : List Nde} {n : Nat} (w : World) (hs : s.size ≤ 1000000) (h1 : wantsOk s = true) (h3 : wantsOf s = l) (hn : l.length = n) :
    Calls Tryz.prog 25 #[.string s] w fun e w' => ∃ A c, e = .returned (.tuple #[.slice A n c, .int .i64 0]) ∧ NdsAt w' (.slice A n c) l ∧ Below w.heap.size w w' := by
  refine (callsIn_wide.1 (wants_any s w hs)).mono fun e w' h => ?_
  unfold WantsP at h
  rw [if_pos h1] at h
  obtain ⟨v, rfl, hv, hb⟩ := h
  rw [h3] at hv
  obtain ⟨A, c, rfl, _⟩ := OutM.form hv
  exact ⟨A, c, by rw [hn], by rw [← hn]; exact OutM.all NdC.keeps hv, hb⟩
theorem near_cells {w : World} {A : Option Addr} {c : Nat} (h : NdsAt w (.slice A 2 c) wn) : ∃ ad ad2 c2 ad3 c3, A = some ad ∧ 2 ≤ c ∧ 1 ≤ c2 ∧ 1 ≤ c3 ∧ w.cell? ⟨ad.block, ad.off + 1, none⟩ = some (.slice (some ad2) 1 c2) ∧ w.cell? ad2 = some (.slice (some ad3) 1 c3) ∧ w.cell? ad3 = some (.int .u8 7) ∧ w.cell? (ad.add 2) = some (.string ⟨#[98]⟩) := by
  rw [wn_facts.1] at h
  have hc := (OutM.form h)
  obtain ⟨_, _, e, hlc, _⟩ := hc
  cases e
  obtain ⟨ad, A2, c2, rfl, h0, h1, hr⟩ := NdsAt.get h 0 (by decide)
  obtain ⟨ad', A2', c2', e, h0', h1', hr'⟩ := NdsAt.get h 1 (by decide)
  cases e
  have hf := OutS.form hr
  obtain ⟨_, _, e, hl2, _⟩ := hf
  cases e
  obtain ⟨ad2, u, rfl, hc2, hb⟩ := OutS.get hr 0 (by decide)
  obtain ⟨A3, c3, rfl, hl3, _⟩ := RdS.form hb
  obtain ⟨ad3, rfl, hc3⟩ := BRow.get hb 0 (by decide)
  have h3 := hc3 0 _ rfl
  exact ⟨ad, ad2, c2, ad3, c3, rfl, hlc, hl2, hl3, h1, hc2, h3, h0'⟩
theorem works_1 (w : World) : Calls Tryz.prog 16 #[.string ⟨#[112, 97, 99, 107, 97, 103, 101, 32, 97, 32, 49, 10, 110, 101, 101, 100, 115, 32, 98, 32, 62, 61, 49, 44, 60, 50, 10, 124, 32, 101, 99, 104, 111, 32, 104, 105, 10]⟩] w fun e w' => ∃ A c, e = .returned (.tuple #[.slice A 1 c, .int .i64 0, .int .i64 0]) ∧ VasAt w' (.slice A 1 c) wl ∧ Below w.heap.size w w' :=
  parse_is (s := t1) (l := wl) w (by decide) wl_facts.2.2.2.2.2.1 wl_facts.2.2.2.2.2.2 wl_is wl_facts.1
theorem works_2 (w : World) : Calls Tryz.prog 16 #[.string ⟨#[110, 101, 101, 100, 115, 32, 98, 32, 42, 10]⟩] w fun e w' => ∃ A n c, e = .returned (.tuple #[.slice A n c, .int .i64 1, .int .i64 150]) ∧ Below w.heap.size w w' :=
  parse_un (s := t2) w (by decide) t2_facts.1 t2_facts.2
theorem works_3 (w : World) : Calls Tryz.prog 16 #[.string ⟨#[112, 97, 99, 107, 97, 103, 101, 32, 97, 32, 49, 10, 112, 97, 99, 107, 97, 103, 101, 32, 97, 32, 49, 10]⟩] w fun e w' => ∃ A n c, e = .returned (.tuple #[.slice A n c, .int .i64 2, .int .i64 151]) ∧ Below w.heap.size w w' :=
  parse_un (s := t3) w (by decide) t3_facts.1 t3_facts.2
theorem works_4 (w : World) : Calls Tryz.prog 25 #[.string ⟨#[97, 64, 126, 49, 46, 50, 32, 98]⟩] w fun e w' => ∃ A c, e = .returned (.tuple #[.slice A 2 c, .int .i64 0]) ∧ NdsAt w' (.slice A 2 c) wn ∧ Below w.heap.size w w' :=
  wants_is (s := t4) (l := wn) (n := 2) w (by decide) wn_facts.2 wn_is wn_len
set_option maxRecDepth 100000 in
set_option maxHeartbeats 400000 in
theorem works_any (w : World) : Calls Tryz.prog 11 #[] w fun e w' => e = .returned (.bool true) ∧ Below w.heap.size w w' := by
  go_enter Tryz.func11, Tryz.ntmps11
  go_wp2_with fail
  refine (works_1 _).mono ?_
  rintro e w1 ⟨A1, c1, rfl, hv1, hb1⟩
  go_wp2_with fail
  refine (works_2 _).mono ?_
  rintro e w2 ⟨A2, n2, c2, rfl, hb2⟩
  replace hb1 := below_step hb1 hb2 hb1.size
  replace hv1 := VasAt.below hv1 hb2
  clear hb2
  go_wp2_with fail
  refine (works_3 _).mono ?_
  rintro e w3 ⟨A3, n3, c3, rfl, hb3⟩
  replace hb1 := below_step hb1 hb3 hb1.size
  replace hv1 := VasAt.below hv1 hb3
  clear hb3
  go_wp2_with fail
  refine (works_4 _).mono ?_
  rintro e w4 ⟨A4, c4, rfl, hn4, hb4⟩
  replace hb1 := below_step hb1 hb4 hb1.size
  replace hv1 := VasAt.below hv1 hb4
  clear hb4
  obtain ⟨a4, a5, c5, a6, c6, rfl, hc4, hc5, hc6, z1, z2, z3, z4⟩ := near_cells hn4
  have HV := Lib.hid hv1
  have HB := Lib.hid hb1
  obtain ⟨a1, An, cn, Ac, cc, rfl, _, g0, g1, g2, g3, g4, _, _⟩ := VasAt.get hv1 0 (by rw [wl_facts.1]; decide)
  rw [wl_facts.2.2.1] at g2
  rw [wl_facts.2.1] at g4
  clear hv1 hb1 hn4 g0 g1 g3
  have g2' : w4.cell? ⟨a1.block, a1.off + 2, none⟩ = some (.slice An 1 cn) := g2
  have g4' : w4.cell? ⟨a1.block, a1.off + 4, none⟩ = some (.string ⟨#[32, 101, 99, 104, 111, 32, 104, 105, 10]⟩) := g4
  have z4' : w4.cell? ⟨a4.block, a4.off + 2, none⟩ = some (.string ⟨#[98]⟩) := z4
  clear g2 g4 z4
  have HFD := Lib.hid (fun w' (hb : Below w4.heap.size w4 w') u (hu : RngAt w' u nA.2) => find_any wl (.slice (some a1) 1 c1) nA u w' (VasAt.below HV.out hb) hu sh_A (by decide) wl_facts.2.2.2.2.1 (by rw [wl_facts.1]; decide))
  have HI := Lib.hid (in_any 0 ⟨#[]⟩ w4)
  go_wp2_with (first
    | (go_at_call 29; refine HI.out.mono ?_; rintro e w5 ⟨g, rfl, hf5, hb5⟩)
    | (go_at_call 22; refine (HFD.out _ hb5 _ (OutS.all BRow.keeps hf5)).mono ?_; rintro e w6 ⟨A6, c6, rfl, hr6, hb6⟩; rw [wl_facts.2.2.2.1] at *))
  go_ret
  exact ⟨rfl, below_step (below_step HB.out hb5 HB.out.size) hb6 (Nat.le_trans HB.out.size hb5.size)⟩
end Go.Proofs.YtcnedecmmplmoaaGreatDoor
