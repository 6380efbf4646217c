/- numbers: the reference's value. -/
import Derived.Test.YtbmmoclaijoofaaGreatDoorNumYb
set_option linter.unusedVariables false
set_option linter.unusedSimpArgs false
namespace Go.Proofs.YtbmmoclaijoofaaGreatDoor
open Go.RowKit Go.BigFrame
open Num (nanB sg rg rv sv tv key eqF ltF cmpI wd infR R53 P0 wholeR flN ONE TWO decS expS textR textN oddM oddE)

theorem extract_list (s : ByteArray) (i : Nat) : (s.extract i s.size).data.toList = s.data.toList.drop i := by
  rw [Lib.extract_data]
  rw [List.take_of_length_le]
  rw [List.length_drop, len_data]; omega
theorem tail_minus {s : ByteArray} {k : Nat} {E : Int} (h : s.data.toList.drop (k + 1) = (expS E).data.toList) (hk : k + 1 < s.size) (hc : s[k + 1].toNat = 45) : E < 0 ∧ s.extract (k + 1 + 1) s.size = decS (-E).toNat := by
  rw [drop_at hk] at h
  have h45 : s[k + 1] = 45 := UInt8.toNat_inj.1 hc
  rcases exp_head h with ⟨h1, h2⟩ | ⟨_, _, c, l, h3, h4⟩
  · refine ⟨h1, str_ext ?_⟩
    rw [extract_list]
    exact (List.cons.inj h2).2
  · exfalso
    exact h4 ((List.cons.inj h3).1.symm.trans h45)
theorem tail_plus {s : ByteArray} {k : Nat} {E : Int} (h : s.data.toList.drop (k + 1) = (expS E).data.toList) (hc : ∀ hk : k + 1 < s.size, s[k + 1].toNat ≠ 45) : 0 ≤ E ∧ s.extract (k + 1) s.size = decS E.toNat := by
  rcases exp_head h with ⟨h1, h2⟩ | ⟨h1, h2, _⟩
  · exfalso
    have hk : k + 1 < s.size := by
      refine Nat.lt_of_not_le fun hle => ?_
      rw [List.drop_eq_nil_of_le (by rw [len_data]; omega)] at h2
      cases h2
    rw [drop_at hk] at h2
    exact hc hk (by rw [(List.cons.inj h2).1]; rfl)
  · refine ⟨h1, str_ext ?_⟩
    rw [extract_list, h2]
def PartIs (s : ByteArray) (k : Nat) : Prop := ∀ r, r < infR → textR r = s →
    s.extract 0 k = decS (oddM r) ∧ s.data.toList.drop (k + 1) = (expS ((oddE r : Int) - 1074)).data.toList ∧ oddM r < 2 ^ 53 ∧ rv r = oddM r * 2 ^ oddE r ∧ oddE r ≤ 2200
theorem part_no {s : ByteArray} {k n : Nat} (hp : PartIs s k) (h : NumOk (s.extract 0 k) n false) : ∀ r, r < infR → textR r = s → ∀ x : Nat, x = r := fun r hr hs => by
  obtain ⟨h1, _, h3, _⟩ := hp r hr hs
  exact absurd (h.2 _ h3 h1).2 (by simp)
theorem minus_fin {s : ByteArray} {k n e : Nat} {ok : Bool} (hp : PartIs s k) (h : NumOk (s.extract 0 k) n true) (hk : k + 1 < s.size) (hc : s[k + 1].toNat = 45) (h2 : NumOk (s.extract (k + 1 + 1) s.size) e ok) :
    ∀ r, r < infR → textR r = s → ok = true ∧ e ≤ 1200 ∧ ∀ (E : Int) (x : Nat), E = -(e : Int) → Chain n E 0 x → x = r := fun r hr hs => by
  obtain ⟨a1, a2, a3, a4, a5⟩ := hp r hr hs
  obtain ⟨b1, b2⟩ := tail_minus a2 hk hc
  obtain ⟨rfl, _⟩ := h.2 _ a3 a1
  obtain ⟨rfl, hok⟩ := h2.2 (-((oddE r : Int) - 1074)).toNat (by omega) b2
  refine ⟨hok, by omega, fun E x hE hch => ?_⟩
  exact chain_end hch hr (by omega) a4 a3
theorem plus_fin {s : ByteArray} {k n e : Nat} {ok : Bool} (hp : PartIs s k) (h : NumOk (s.extract 0 k) n true) (hc : ∀ hk : k + 1 < s.size, s[k + 1].toNat ≠ 45) (h2 : NumOk (s.extract (k + 1) s.size) e ok) :
    ∀ r, r < infR → textR r = s → ok = true ∧ e ≤ 1200 ∧ ∀ (E : Int) (x : Nat), E = (e : Int) → Chain n E 0 x → x = r := fun r hr hs => by
  obtain ⟨a1, a2, a3, a4, a5⟩ := hp r hr hs
  obtain ⟨b1, b2⟩ := tail_plus a2 hc
  obtain ⟨rfl, _⟩ := h.2 _ a3 a1
  obtain ⟨rfl, hok⟩ := h2.2 ((oddE r : Int) - 1074).toNat (by omega) b2
  refine ⟨hok, by omega, fun E x hE hch => ?_⟩
  exact chain_end hch hr (by omega) a4 a3
theorem take_more {s : ByteArray} {k : Nat} (hk : k < s.size) (hc : s[k].toNat ≠ 112) (h : (112 : UInt8) ∉ s.data.toList.take k) : (112 : UInt8) ∉ s.data.toList.take (k + 1) := by
  have hl := len_data s
  rw [List.take_succ_eq_append_getElem (by omega)]
  intro hm
  rcases List.mem_append.1 hm with h1 | h1
  · exact h h1
  · rw [List.mem_singleton] at h1
    apply hc
    show (s.data.toList[k]'(by omega)).toNat = 112
    rw [← h1]; rfl
theorem place_is {s : ByteArray} {k : Nat} (hk : k < s.size) (hc : s[k].toNat = 112) (h : (112 : UInt8) ∉ s.data.toList.take k) : PartIs s k := by
  have hl := len_data s
  refine part_at hk ?_ h
  rw [List.getElem?_eq_getElem (by omega)]
  have : s[k] = 112 := UInt8.toNat_inj.1 hc
  exact congrArg some this
theorem whole_is {s : ByteArray} (h : (112 : UInt8) ∉ s.data.toList.take s.size) : (112 : UInt8) ∉ s.data.toList := by
  rwa [List.take_of_length_le (by rw [len_data]; omega)] at h
theorem extract_all (s : ByteArray) : s.extract 0 s.size = s := str_ext (by rw [extract_list, List.drop_zero])
theorem minus_parts {s : ByteArray} (h : Lib.hasPrefix s.data.toList [45] = true) : s = ⟨#[45]⟩ ++ s.extract 1 s.size ∧ ∃ h0 : 0 < s.size, s[0].toNat = 45 := by
  obtain ⟨r, hr⟩ : ∃ r, s = ⟨#[45]⟩ ++ r := ⟨_, minus_text h⟩
  have hz : s.size = 1 + r.size := by rw [hr, ByteArray.size_append]; rfl
  have hl : s.data.toList = 45 :: r.data.toList := by rw [hr]; simp
  have h0 : 0 < s.size := by omega
  have hd := drop_at h0
  rw [List.drop_zero, hl] at hd
  refine ⟨?_, h0, by rw [← (List.cons.inj hd).1]; rfl⟩
  apply str_ext
  have : ((⟨#[45]⟩ : ByteArray) ++ s.extract 1 s.size).data.toList = 45 :: (s.extract 1 s.size).data.toList := by simp
  rw [this, extract_list, hl]; rfl
theorem minus_none {s : ByteArray} (h : Lib.hasPrefix s.data.toList [45] = false) (h0 : 0 < s.size) : s[0].toNat ≠ 45 := fun hc => by
  have h45 : s[0] = 45 := UInt8.toNat_inj.1 hc
  have hd := drop_at h0
  rw [List.drop_zero, h45] at hd
  have : Lib.hasPrefix s.data.toList [45] = true := by
    unfold Lib.hasPrefix
    rw [hd]
    exact List.isPrefixOf_iff_prefix.2 ⟨_, rfl⟩
  rw [h] at this; cases this
def ValPost (s : ByteArray) (w : World) (e : Ending) (w' : World) : Prop := Below w.heap.size w w' ∧ ∃ x, e = .returned (.float .f64 x) ∧ ValOk s x
end Go.Proofs.YtbmmoclaijoofaaGreatDoor
