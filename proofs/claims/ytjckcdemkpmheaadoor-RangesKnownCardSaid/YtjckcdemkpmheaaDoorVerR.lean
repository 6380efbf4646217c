/- Printing versions, and sorting. No program here. -/
import Derived.Test.YtjckcdemkpmheaaDoorVerQ
namespace Go.Proofs.YtjckcdemkpmheaaDoor.Ver
open Go

theorem dig_ofNat (d : Nat) (h : d < 10) : (UInt8.ofNat (48 + d)).toNat = 48 + d := by
  simp; omega
theorem dec_step (n : Nat) (h : ¬ n < 10) : Lib.decDigits n = Lib.decDigits (n / 10) ++ [UInt8.ofNat (48 + n % 10)] := by rw [Lib.decDigits, dif_neg h]
theorem dec_all (n : Nat) : (Lib.decDigits n).all digB = true := by
  induction n using Nat.strongRecOn with
  | _ n ih =>
    by_cases h : n < 10
    · rw [Lib.decDigits_one h]
      simp only [List.all_cons, List.all_nil, Bool.and_true, digB, dig_ofNat n h]
      simp; omega
    · rw [dec_step n h, List.all_append, ih (n / 10) (by omega)]
      simp only [List.all_cons, List.all_nil, Bool.and_true, Bool.true_and, digB, dig_ofNat (n % 10) (by omega)]
      simp; omega
theorem dec_num (n : Nat) : numV (Lib.decDigits n) = n := by
  induction n using Nat.strongRecOn with
  | _ n ih =>
    by_cases h : n < 10
    · rw [Lib.decDigits_one h]
      show 10 * 0 + ((UInt8.ofNat (48 + n)).toNat - 48) = n
      rw [dig_ofNat n h]; omega
    · rw [dec_step n h, numV_snoc, ih (n / 10) (by omega), dig_ofNat (n % 10) (by omega)]; omega
theorem dec_head (n : Nat) (h1 : 1 ≤ n) : (Lib.decDigits n).head? ≠ some 48 := by
  induction n using Nat.strongRecOn with
  | _ n ih =>
    by_cases h : n < 10
    · rw [Lib.decDigits_one h]
      simp only [List.head?_cons]
      intro e
      have := congrArg UInt8.toNat (Option.some.inj e)
      rw [dig_ofNat n h] at this
      have e48 : (48 : UInt8).toNat = 48 := rfl
      omega
    · rw [dec_step n h]
      have := ih (n / 10) (by omega) (by omega)
      cases hd : Lib.decDigits (n / 10) with
      | nil => have := Lib.decDigits_length (n / 10); have := Lib.nDigits_pos (n / 10); rw [hd] at *; simp at *; omega
      | cons a l => rw [hd] at this; simpa using this
theorem dec_len (n : Nat) (h : n < 1000000000) : 1 ≤ (Lib.decDigits n).length ∧ (Lib.decDigits n).length ≤ 9 := by
  rw [Lib.decDigits_length]
  refine ⟨Lib.nDigits_pos n, ?_⟩
  rcases Nat.lt_or_ge (Lib.nDigits n) 10 with h1 | h1
  · omega
  · exfalso
    obtain ⟨k, hk⟩ : ∃ k, k + 1 = Lib.nDigits n := ⟨Lib.nDigits n - 1, by omega⟩
    have e := Lib.decDigits_eq n
    have hlow : ∀ k n, Lib.nDigits n = k + 1 → 1 ≤ k → 10 ^ k ≤ n := by
      intro k
      induction k with
      | zero => intro _ _ h; omega
      | succ k ih =>
        intro n hn _
        have hb : ¬ n < 10 := fun hb => by rw [Lib.nDigits_small hb] at hn; omega
        rw [Lib.nDigits_big hb] at hn
        by_cases hk0 : k = 0
        · subst hk0; omega
        · have := ih (n / 10) (by omega) (by omega)
          rw [Nat.pow_succ]; omega
    have h2 := hlow k n hk.symm (by omega)
    have : 10 ^ 9 ≤ 10 ^ k := Nat.pow_le_pow_right (by decide) (by omega)
    omega
theorem dec_ok (n : Nat) (h : n < 1000000000) : okNum (Lib.decDigits n) = true := by
  have hl := dec_len n h
  have ha := dec_all n
  by_cases h0 : n = 0
  · subst h0; rw [Lib.decDigits_one (by decide)]; rfl
  · have hh := dec_head n (by omega)
    simp only [okNum, ha, Bool.and_true, decide_eq_true hl, Bool.true_and, decide_eq_false hh, Bool.false_and, Bool.not_false]
theorem dec_back (l : BL) (h : okNum l = true) : Lib.decDigits (numV l) = l := by
  have key : ∀ k (l : BL), l.length = k + 1 → l.all digB = true → l.head? ≠ some 48 → 1 ≤ numV l ∧ Lib.decDigits (numV l) = l := by
    intro k
    induction k with
    | zero =>
      intro l hl ha hh
      obtain ⟨c, rfl⟩ := List.length_eq_one_iff.1 hl
      simp [digB] at ha
      have hne : c.toNat ≠ 48 := fun e => hh (by simp; exact UInt8.toNat_inj.1 e)
      have e : numV [c] = c.toNat - 48 := by simp [numV]
      rw [e]
      refine ⟨by omega, ?_⟩
      rw [Lib.decDigits_one (by omega), show 48 + (c.toNat - 48) = c.toNat by omega]
      simp
    | succ k ih =>
      intro l hl ha hh
      have hne : l ≠ [] := fun e => by rw [e] at hl; simp at hl
      obtain ⟨m, c, rfl⟩ : ∃ m c, l = m ++ [c] := ⟨l.dropLast, l.getLast hne, (List.dropLast_concat_getLast hne).symm⟩
      rw [List.all_append, Bool.and_eq_true] at ha
      have hml : m.length = k + 1 := by simpa using hl
      have hmh : m.head? ≠ some 48 := by
        cases m with
        | nil => simp at hml
        | cons a m => simpa using hh
      obtain ⟨h1, h2⟩ := ih m hml ha.1 hmh
      have hc : 48 ≤ c.toNat ∧ c.toNat ≤ 57 := by have := ha.2; simpa [digB] using this
      rw [numV_snoc]
      refine ⟨by omega, ?_⟩
      rw [dec_step _ (by omega), show (10 * numV m + (c.toNat - 48)) / 10 = numV m by omega, h2, show 48 + (10 * numV m + (c.toNat - 48)) % 10 = c.toNat by omega]
      simp
  simp only [okNum, Bool.and_eq_true, decide_eq_true_eq, Bool.not_eq_true', Bool.and_eq_false_iff, decide_eq_false_iff_not] at h
  obtain ⟨⟨⟨h1, h9⟩, ha⟩, h0⟩ := h
  rcases h0 with h0 | h0
  · exact (key (l.length - 1) l (by omega) ha h0).2
  · obtain ⟨c, rfl⟩ := List.length_eq_one_iff.1 (show l.length = 1 by omega)
    simp [digB] at ha
    have e : numV [c] = c.toNat - 48 := by simp [numV]
    rw [e, Lib.decDigits_one (by omega), show 48 + (c.toNat - 48) = c.toNat by omega]
    simp
theorem inter_cons2 (c : UInt8) (p q : BL) (ps : List BL) : List.intercalate [c] (p :: q :: ps) = p ++ c :: List.intercalate [c] (q :: ps) := by
  simp [List.intercalate]
theorem inter_one (c : UInt8) (p : BL) : List.intercalate [c] [p] = p := by simp [List.intercalate]
theorem parts_inter (c : UInt8) : ∀ (p : BL) (ps : List BL), c ∉ p → (∀ q ∈ ps, c ∉ q) → parts c (List.intercalate [c] (p :: ps)) = p :: ps
  | p, [], h, _ => by rw [inter_one, parts_not c p h]
  | p, q :: ps, h, hs => by
    rw [inter_cons2, parts_app c p _ h, parts_inter c q ps (hs q (by simp)) fun r hr => hs r (by simp [hr])]
theorem inter_parts (c : UInt8) : ∀ l : BL, List.intercalate [c] (parts c l) = l
  | [] => rfl
  | x :: r => by
    have ih := inter_parts c r
    unfold parts
    by_cases hx : x = c
    · rw [if_pos hx]
      cases hp : parts c r with
      | nil => exact absurd hp (parts_ne c r)
      | cons p ps => rw [inter_cons2, ← hp, ih, hx]; rfl
    · rw [if_neg hx]
      cases hp : parts c r with
      | nil => exact absurd hp (parts_ne c r)
      | cons p ps =>
        rw [hp] at ih
        cases ps with
        | nil => rw [inter_one] at ih ⊢; rw [ih]
        | cons q ps => rw [inter_cons2] at ih ⊢; rw [List.cons_append, ih]
theorem inter_notin (d c : UInt8) (hd : d ≠ c) : ∀ ps : List BL, (∀ q ∈ ps, d ∉ q) → d ∉ List.intercalate [c] ps
  | [], _ => by simp [List.intercalate]
  | [p], h => by rw [inter_one]; exact h p (by simp)
  | p :: q :: ps, h => by
    rw [inter_cons2, List.mem_append, List.mem_cons]
    rintro (h1 | h1 | h1)
    · exact h p (by simp) h1
    · exact hd h1
    · exact inter_notin d c hd (q :: ps) (fun r hr => h r (by simp [hr])) h1
def prt (ns : List Nat) (t : BL) : BL := List.intercalate [46] (ns.map Lib.decDigits) ++ (if t = [] then [] else 45 :: t)
def okV (ns : List Nat) (t : BL) : Bool := decide (1 ≤ ns.length ∧ ns.length ≤ 8) && ns.all (fun n => decide (n < 1000000000)) && okTag t
theorem dig_ne (l : BL) (h : l.all digB = true) (c : UInt8) (hc : digB c = false) : c ∉ l := fun hm => by
  have := List.all_eq_true.1 h c hm
  rw [hc] at this; cases this
theorem prsH_inter (ns : List Nat) (h1 : 1 ≤ ns.length) (h8 : ns.length ≤ 8) (ha : ∀ n ∈ ns, n < 1000000000) : prsH (List.intercalate [46] (ns.map Lib.decDigits)) = some ns := by
  have hp : parts 46 (List.intercalate [46] (ns.map Lib.decDigits)) = ns.map Lib.decDigits := by
    cases ns with
    | nil => simp at h1
    | cons n ns =>
      exact parts_inter 46 _ _ (dig_ne _ (dec_all n) 46 (by decide)) fun q hq => by
        obtain ⟨m, _, rfl⟩ := List.mem_map.1 hq
        exact dig_ne _ (dec_all m) 46 (by decide)
  unfold prsH
  rw [hp, if_pos]
  · rw [List.map_map]
    congr 1
    exact (List.map_congr_left fun n _ => dec_num n).trans (List.map_id _)
  · refine ⟨by simpa using h8, ?_⟩
    rw [List.all_map, List.all_eq_true]
    intro n hn
    exact dec_ok n (ha n hn)
theorem prs_prt (ns : List Nat) (t : BL) (h : okV ns t = true) : prs (prt ns t) = some (ns, t) := by
  simp only [okV, Bool.and_eq_true, decide_eq_true_eq, List.all_eq_true] at h
  obtain ⟨⟨⟨h1, h8⟩, ha⟩, ht⟩ := h
  have hH := prsH_inter ns h1 h8 ha
  have hn : (45 : UInt8) ∉ List.intercalate [46] (ns.map Lib.decDigits) := inter_notin 45 46 (by decide) _ fun q hq => by
    obtain ⟨m, _, rfl⟩ := List.mem_map.1 hq
    exact dig_ne _ (dec_all m) 45 (by decide)
  unfold prs prt
  by_cases hte : t = []
  · subst hte
    rw [if_pos rfl, List.append_nil, brk_not _ _ hn, if_neg (by simp), hH]
    rfl
  · rw [if_neg hte, brk_app _ _ _ hn, if_pos rfl, if_pos ⟨hte, ht⟩, hH]
    rfl
theorem prsH_some (l : BL) (ns : List Nat) (h : prsH l = some ns) : List.intercalate [46] (ns.map Lib.decDigits) = l ∧ 1 ≤ ns.length ∧ ns.length ≤ 8 ∧ ∀ n ∈ ns, n < 1000000000 := by
  unfold prsH at h
  split at h
  · rename_i hc
    have e := Option.some.inj h
    subst e
    have hk := List.all_eq_true.1 hc.2
    refine ⟨?_, ?_, by simpa using hc.1, ?_⟩
    · rw [List.map_map, (List.map_congr_left (f := Lib.decDigits ∘ numV) (g := id) fun p hp => dec_back p (hk p hp)), List.map_id, inter_parts]
    · have := parts_ne 46 l
      rw [List.length_map]
      exact List.length_pos_iff.2 this
    · intro n hn
      obtain ⟨p, hp, rfl⟩ := List.mem_map.1 hn
      exact okNum_lt p (hk p hp)
  · cases h
theorem prs_some (s : BL) (ns : List Nat) (t : BL) (h : prs s = some (ns, t)) : prt ns t = s ∧ okV ns t = true := by
  unfold prs at h
  cases hb : (brk 45 s).2.2
  · rw [if_neg (by simp [hb])] at h
    obtain ⟨m, hm, e⟩ := Option.map_eq_some_iff.1 h
    cases e
    obtain ⟨h1, h2, h3, h4⟩ := prsH_some _ _ hm
    refine ⟨by rw [prt, if_pos rfl, List.append_nil, h1], ?_⟩
    simp only [okV, Bool.and_eq_true, decide_eq_true_eq, List.all_eq_true]
    exact ⟨⟨⟨h2, h3⟩, h4⟩, rfl⟩
  · rw [if_pos hb] at h
    split at h
    · rename_i hc
      obtain ⟨m, hm, e⟩ := Option.map_eq_some_iff.1 h
      cases e
      obtain ⟨h1, h2, h3, h4⟩ := prsH_some _ _ hm
      obtain ⟨h5, _⟩ := brk_yes _ _ hb
      refine ⟨by rw [prt, if_neg hc.1, h1]; exact h5.symm, ?_⟩
      simp only [okV, Bool.and_eq_true, decide_eq_true_eq, List.all_eq_true]
      exact ⟨⟨⟨h2, h3⟩, h4⟩, hc.2⟩
    · cases h
theorem prs_inj (s t : BL) (v : List Nat × BL) (h1 : prs s = some v) (h2 : prs t = some v) : s = t := by
  obtain ⟨a, b⟩ := v
  rw [← (prs_some s a b h1).1, ← (prs_some t a b h2).1]

/-- Sorted rows. -/
def Srt {α : Type} (f : α → α → Int) (l : List α) : Prop := l.Pairwise fun x y => f x y ≤ 0
theorem srt_unique {α : Type} (f : α → α → Int) : ∀ l m : List α, l.Perm m → Srt f l → Srt f m → (∀ x ∈ l, ∀ y ∈ l, f x y ≤ 0 → f y x ≤ 0 → x = y) → l = m
  | [], m, hp, _, _, _ => (List.Perm.nil_eq hp)
  | x :: l, [], hp, _, _, _ => absurd hp.length_eq (by simp)
  | x :: l, y :: m, hp, h1, h2, ha => by
    have hx : x ∈ y :: m := hp.mem_iff.1 (by simp)
    have hy : y ∈ x :: l := hp.mem_iff.2 (by simp)
    have e : x = y := by
      rcases List.mem_cons.1 hx with e | hxm
      · exact e
      · rcases List.mem_cons.1 hy with e | hyl
        · exact e.symm
        · exact ha x (by simp) y (by simp [hyl]) ((List.pairwise_cons.1 h1).1 y hyl) ((List.pairwise_cons.1 h2).1 x hxm)
    subst e
    rw [srt_unique f l m ((List.perm_cons x).1 hp) (List.pairwise_cons.1 h1).2 (List.pairwise_cons.1 h2).2 fun a ha' b hb => ha a (by simp [ha']) b (by simp [hb])]
end Go.Proofs.YtjckcdemkpmheaaDoor.Ver
