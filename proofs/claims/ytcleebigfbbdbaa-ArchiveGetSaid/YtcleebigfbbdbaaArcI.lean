/- archive: the reference's getText. -/
import Derived.Test.YtcleebigfbbdbaaArcH
set_option linter.unusedVariables false
set_option linter.unusedSimpArgs false
namespace Go.Proofs.Ytcleebigfbbdbaa
open Go Go.RowKit Go.BigFrame
open Fil (Es Nd Sp)
open Arc (BL num4 num2 encT letK encE encN sizE sizN rfN rdN rfE rdE rdT rd2 beN)

/-- Where bytes lie. -/
theorem BytAt.cells {W : World} {B : Nat} {v : Value} {l : BL} (h : BytAt W B v l) (hp : 0 < l.length) :
    ∃ ab ao cap, v = .slice (some ⟨ab, ao, none⟩) l.length cap ∧ l.length ≤ cap ∧ cap ≤ maxLen ∧ ab < B ∧ ∀ (j : Nat) (x : UInt8), l[j]? = some x → W.cell? ⟨ab, ao + j, none⟩ = some (.int .u8 (x.toNat : Int)) := by
  obtain ⟨A, cap, h1, h2, h3, h4, h5⟩ := h
  obtain ⟨ad, rfl, hb, hc⟩ := h5 hp
  have hs := spot_none (hc 0 hp)
  obtain ⟨ab, ao, sp⟩ := ad
  have hsp : sp = none := by
    unfold Addr.add at hs
    simpa using hs
  subst hsp
  refine ⟨ab, ao, cap, h1, h2, h3, hb, fun j x hx => ?_⟩
  have hj : j < l.length := (List.getElem?_eq_some_iff.1 hx).1
  have := hc j hj
  rw [add_none] at this
  rw [this]
  simp [dOf, hx]
/-- A part of them, as a text. -/
theorem conv_part {W : World} {ab ao cap : Nat} {l : BL} (hc : ∀ (j : Nat) (x : UInt8), l[j]? = some x → W.cell? ⟨ab, ao + j, none⟩ = some (.int .u8 (x.toNat : Int))) (i n c : Nat) (hn : i + n ≤ l.length) (o : Nat) (ho : n = 0 ∨ o = ao + i) :
    (convert 27 9 (.slice (some ⟨ab, o, none⟩) n c)).run Try.prog W = .ok (.string (strOf ((l.drop i).take n))) W := by
  have hl : ((l.drop i).take n).length = n := by rw [List.length_take, List.length_drop]; omega
  have := run_convert_bytes_back (P := Try.prog) W 27 9 5 ⟨ab, o, none⟩ c ((l.drop i).take n) Try.underlying27 Try.underlying5 Try.underlying9 (fun j hj => by
    rw [hl] at hj
    rcases ho with h0 | h0
    · omega
    · rw [add_none, h0]
      have hx : l[i + j]? = some (((l.drop i).take n)[j]'(by rw [hl]; exact hj)) := by
        rw [List.getElem_take, List.getElem_drop, List.getElem?_eq_getElem (by omega)]
      have := hc (i + j) _ hx
      rw [show ao + i + j = ao + (i + j) by omega]
      exact this)
  rw [hl] at this
  exact this
theorem wrap_byte {x : Nat} (h : x < 256) : IntKind.i64.wrap (x : Int) = (x : Int) := IntWalk.i64_in _ (by omega)
theorem be_sums {x0 x1 x2 x3 n : Nat} (h0 : x0 < 256) (h1 : x1 < 256) (h2 : x2 < 256) (h3 : x3 < 256) (hn : n = ((x0 * 256 + x1) * 256 + x2) * 256 + x3) :
    IntKind.i64.wrap ((x0 : Int) * 16777216) = (x0 : Int) * 16777216 ∧ IntKind.i64.wrap ((x1 : Int) * 65536) = (x1 : Int) * 65536 ∧ IntKind.i64.wrap ((x2 : Int) * 256) = (x2 : Int) * 256 ∧
    IntKind.i64.wrap ((x0 : Int) * 16777216 + (x1 : Int) * 65536) = (x0 : Int) * 16777216 + (x1 : Int) * 65536 ∧ IntKind.i64.wrap ((x0 : Int) * 16777216 + (x1 : Int) * 65536 + (x2 : Int) * 256) = (x0 : Int) * 16777216 + (x1 : Int) * 65536 + (x2 : Int) * 256 ∧
    IntKind.i64.wrap ((x0 : Int) * 16777216 + (x1 : Int) * 65536 + (x2 : Int) * 256 + (x3 : Int)) = (n : Int) := by
  have e : (x0 : Int) * 16777216 + (x1 : Int) * 65536 + (x2 : Int) * 256 + (x3 : Int) = (n : Int) := by omega
  rw [e]
  exact ⟨IntWalk.i64_in _ (by omega), IntWalk.i64_in _ (by omega), IntWalk.i64_in _ (by omega), IntWalk.i64_in _ (by omega), IntWalk.i64_in _ (by omega), IntWalk.i64_in _ (by omega)⟩
def GtPost (w : World) (l : BL) (at' : Nat) (e : Ending) (W : World) : Prop :=
  (∃ nq, W = w.drewN nq) ∧ match rdT (l.drop at') with
  | none => e = .returned (.tuple #[.string ⟨#[]⟩, .int .i64 0, .bool false])
  | some p => e = .returned (.tuple #[.string p.1, .int .i64 ((at' + 4 + p.1.size : Nat) : Int), .bool true]) ∧ p.2 = l.drop (at' + 4 + p.1.size) ∧ at' + 4 + p.1.size ≤ l.length
set_option maxRecDepth 1000000 in
set_option maxRecDepth 100000 in
set_option maxHeartbeats 4000000 in
theorem getText_any (l : BL) (at' : Nat) (hl : l.length ≤ 10000000) (ha : at' ≤ l.length) (w : World) (B : Nat) (v : Value) (hv : BytAt w B v l) :
    Calls Try.prog 48 #[v, .int .i64 (at' : Int)] w (GtPost w l at') := by
  have hw4 : IntKind.i64.wrap ((at' : Int) + 4) = (at' : Int) + 4 := IntWalk.i64_in _ (by omega)
  have HV := Lib.hid hv
  obtain ⟨A, cap, rfl, hcp⟩ := hv.form
  clear hv
  go_enter Try.func48, Try.ntmps48
  rcases Nat.lt_or_ge l.length (at' + 4) with h4 | h4
  · have hI : decide ((l.length : Int) < (at' : Int) + 4) = true := decide_eq_true (by omega)
    have hI2 : (l.length : Int) < (at' : Int) + 4 := by omega
    have HN := Lib.hid (show rdT (l.drop at') = none by unfold Arc.rdT; rw [if_neg (by rw [List.length_drop]; omega)])
    go_wp2
    go_ret3
    refine ⟨⟨0, rfl⟩, ?_⟩
    rw [HN.out]
    rfl
  · have hI : decide ((l.length : Int) < (at' : Int) + 4) = false := decide_eq_false (by omega)
    have hI2 : ¬ (l.length : Int) < (at' : Int) + 4 := by omega
    obtain ⟨ab, ao, cap', he, hcap, hcm, hab, hcs⟩ := HV.out.cells (by omega)
    injection he with he1 _ he2
    subst he1
    subst he2
    obtain ⟨c0, h0⟩ : ∃ c, l[at']? = some c := ⟨_, List.getElem?_eq_getElem (by omega)⟩
    obtain ⟨c1, h1⟩ : ∃ c, l[at' + 1]? = some c := ⟨_, List.getElem?_eq_getElem (by omega)⟩
    obtain ⟨c2, h2⟩ : ∃ c, l[at' + 2]? = some c := ⟨_, List.getElem?_eq_getElem (by omega)⟩
    obtain ⟨c3, h3⟩ : ∃ c, l[at' + 3]? = some c := ⟨_, List.getElem?_eq_getElem (by omega)⟩
    have hq0 := hcs _ _ h0
    have hq1 := hcs _ _ h1
    have hq2 := hcs _ _ h2
    have hq3 := hcs _ _ h3
    rw [← Nat.add_assoc] at hq1 hq2 hq3
    have ht4 : (l.drop at').take 4 = [c0, c1, c2, c3] := by
      apply List.ext_getElem?
      intro j
      rw [List.getElem?_take]
      match j with
      | 0 => simpa using h0
      | 1 => simpa using h1
      | 2 => simpa using h2
      | 3 => simpa using h3
      | j + 4 => rw [if_neg (by omega)]; simp
    have hx0 := c0.toNat_lt
    have hx1 := c1.toNat_lt
    have hx2 := c2.toNat_lt
    have hx3 := c3.toNat_lt
    have hbe : beN [c0, c1, c2, c3] = ((c0.toNat * 256 + c1.toNat) * 256 + c2.toNat) * 256 + c3.toNat := by unfold Arc.beN; simp
    obtain ⟨n, hn⟩ : ∃ n, n = beN [c0, c1, c2, c3] := ⟨_, rfl⟩
    rw [← hn] at hbe
    have HRD := Lib.hid (show rdT (l.drop at') = if n ≤ l.length - at' - 4 then some (strOf ((l.drop (at' + 4)).take n), l.drop (at' + 4 + n)) else none by
      unfold Arc.rdT
      rw [if_pos (by rw [List.length_drop]; omega), ht4, ← hn, List.length_drop, List.length_drop, List.drop_drop, List.drop_drop])
    have HCS := Lib.hid hcs
    generalize c0.toNat = x0 at *
    generalize c1.toNat = x1 at *
    generalize c2.toNat = x2 at *
    generalize c3.toNat = x3 at *
    obtain ⟨a1, ha1⟩ : ∃ a1, a1 = at' + 1 := ⟨_, rfl⟩
    obtain ⟨a2, ha2⟩ : ∃ a2, a2 = at' + 2 := ⟨_, rfl⟩
    obtain ⟨a3, ha3⟩ : ∃ a3, a3 = at' + 3 := ⟨_, rfl⟩
    have hw1 : IntKind.i64.wrap ((at' : Int) + 1) = (a1 : Int) := by rw [ha1]; push_cast; exact IntWalk.i64_in _ (by omega)
    have hw2 : IntKind.i64.wrap ((at' : Int) + 2) = (a2 : Int) := by rw [ha2]; push_cast; exact IntWalk.i64_in _ (by omega)
    have hw3 : IntKind.i64.wrap ((at' : Int) + 3) = (a3 : Int) := by rw [ha3]; push_cast; exact IntWalk.i64_in _ (by omega)
    rw [show ao + at' + 1 = ao + a1 by omega] at hq1
    rw [show ao + at' + 2 = ao + a2 by omega] at hq2
    rw [show ao + at' + 3 = ao + a3 by omega] at hq3
    have hat0 : (0 : Int) ≤ (at' : Int) := by omega
    have hb1 : (0 : Int) ≤ (a1 : Int) := by omega
    have hb2 : (0 : Int) ≤ (a2 : Int) := by omega
    have hb3 : (0 : Int) ≤ (a3 : Int) := by omega
    have hi0 : (at' : Int) < (l.length : Int) := by omega
    have hi1 : (a1 : Int) < (l.length : Int) := by omega
    have hi2 : (a2 : Int) < (l.length : Int) := by omega
    have hi3 : (a3 : Int) < (l.length : Int) := by omega
    obtain ⟨hs0, hs1, hs2, hs3, hs4, hs5⟩ := be_sums hx0 hx1 hx2 hx3 hbe
    have hc0 := wrap_byte hx0
    have hc1 := wrap_byte hx1
    have hc2 := wrap_byte hx2
    have hc3 := wrap_byte hx3
    have HAA := Lib.hid (And.intro ha1 (And.intro ha2 (And.intro ha3 hbe)))
    clear h0 h1 h2 h3 hcs ht4 hn ha1 ha2 ha3 hbe
    go_upto_region 3 with (fail)
    go_wp2
    go_quiet (fail)
    have HW := Lib.hid (show ∃ nq, w.drewN nq = w.drewN nq from ⟨nq, rfl⟩)
    have HCW := Lib.hid (fun (j : Nat) (x : UInt8) (hx : l[j]? = some x) => show (w.drewN nq).cell? ⟨ab, ao + j, none⟩ = some (.int .u8 (x.toNat : Int)) from (RdT.cell_drew rfl _).trans (HCS.out j x hx))
    clear hq0 hq1 hq2 hq3 hs0 hs1 hs2 hs3 hs4 hs5 hc0 hc1 hc2 hc3 hi1 hi2 hi3 hw1 hw2 hw3 hb1 hb2 hb3 hI hI2
    have HNQ := Lib.hid (show ∃ q, w.drewN nq = w.drewN q from ⟨nq, rfl⟩)
    generalize w.drewN nq = W1 at *
    have hd1 : IntKind.i64.wrap ((l.length : Int) - (at' : Int)) = (l.length : Int) - (at' : Int) := IntWalk.i64_in _ (by omega)
    have hd2 : IntKind.i64.wrap ((l.length : Int) - (at' : Int) - 4) = (l.length : Int) - (at' : Int) - 4 := IntWalk.i64_in _ (by omega)
    rcases Nat.lt_or_ge (l.length - at' - 4) n with hn | hn
    · have hnI : (l.length : Int) - (at' : Int) - 4 < (n : Int) := by omega
      have hnI2 : decide ((l.length : Int) - (at' : Int) - 4 < (n : Int)) = true := decide_eq_true hnI
      have HN := Lib.hid (show rdT (l.drop at') = none by rw [HRD.out, if_neg (by omega)])
      clear hn
      go_wp2
      go_ret3
      refine ⟨HNQ.out, ?_⟩
      rw [HN.out]
      rfl
    · have hnI : ¬ (l.length : Int) - (at' : Int) - 4 < (n : Int) := by omega
      have hnI2 : decide ((l.length : Int) - (at' : Int) - 4 < (n : Int)) = false := decide_eq_false hnI
      have HN := Lib.hid (show rdT (l.drop at') = some (strOf ((l.drop (at' + 4)).take n), l.drop (at' + 4 + n)) by rw [HRD.out, if_pos (by omega)])
      have hsz : (strOf ((l.drop (at' + 4)).take n)).size = n := by rw [strOf_size, List.length_take, List.length_drop]; omega
      have HSZ := Lib.hid hsz
      obtain ⟨b4, hb4⟩ : ∃ b4, b4 = at' + 4 := ⟨_, rfl⟩
      obtain ⟨b5, hb5⟩ : ∃ b5, b5 = at' + 4 + n := ⟨_, rfl⟩
      have hw4' : IntKind.i64.wrap ((at' : Int) + 4) = (b4 : Int) := by rw [hb4]; push_cast; exact hw4
      have hw5 : IntKind.i64.wrap ((b4 : Int) + (n : Int)) = (b5 : Int) := by rw [hb4, hb5]; push_cast; exact IntWalk.i64_in _ (by omega)
      have hcv := fun (o m c : Nat) (hm : m = n) (ho : n = 0 ∨ o = ao + b4) => (show (convert 27 9 (.slice (some ⟨ab, o, none⟩) m c)).run Try.prog W1 = .ok (.string (strOf ((l.drop b4).take n))) W1 from by subst hm; exact conv_part (W := W1) (ab := ab) (ao := ao) (cap := cap) HCW.out b4 m c (by omega) o ho)
      have hx1 : (0 : Int) ≤ (b4 : Int) := by omega
      have hx2 : (b4 : Int) ≤ (b5 : Int) := by omega
      have hx3 : (b5 : Int) ≤ (cap : Int) := by omega
      have HB5 := Lib.hid (And.intro hb4 (And.intro hb5 hn))
      obtain ⟨ts, hts⟩ : ∃ ts, ts = strOf ((l.drop b4).take n) := ⟨_, rfl⟩
      rw [← hts] at hcv
      have hfin : GtPost w l at' (.returned (.tuple #[.string ts, .int .i64 (b5 : Int), .bool true])) W1 := by
        refine ⟨HNQ.out, ?_⟩
        rw [HN.out]
        dsimp only
        rw [HSZ.out]
        rw [hb4] at hts
        exact ⟨by rw [hts, hb5], rfl, by omega⟩
      have HFIN := Lib.hid hfin
      by_cases hcb : cap = b4
      · subst hcb
        have hcv1 := hcv ao (b5 - cap) (cap - cap) (by omega) (.inl (by omega))
        rw [Nat.sub_self] at hcv1
        clear hn hw4 hb4 hb5 hcv hfin hts
        go_wp2
        go_ret3
        exact HFIN.out
      · have hcv1 := hcv (ao + b4) (b5 - b4) (cap - b4) (by omega) (.inr rfl)
        clear hn hw4 hb4 hb5 hcv hfin hts
        go_wp2
        go_ret3
        exact HFIN.out
end Go.Proofs.Ytcleebigfbbdbaa
