/- drv: what is put is got; what is got is put. (Plain maths.) -/
import Derived.Test.YtbniilajffjfcaaGreatDoorDmL1
set_option linter.unusedVariables false
set_option linter.unusedSimpArgs false
namespace Go.Proofs.YtbniilajffjfcaaGreatDoor

theorem numL_succ (n k : Nat) : numL n (k + 1) = numL (n / 256) k ++ [UInt8.ofNat (n % 256)] := by
  unfold numL
  rw [List.range_succ, List.map_append]
  congr 1
  · refine List.map_congr_left fun i hi => ?_
    have hi' := List.mem_range.1 hi
    have e : 8 * (k + 1 - 1 - i) = 8 + 8 * (k - 1 - i) := by omega
    rw [e, Nat.pow_add, ← Nat.div_div_eq_div_mul]
  · simp
theorem natOf_numL : ∀ (k n : Nat), n < 256 ^ k → natOf (numL n k) = n
  | 0, n, h => by
    have : n = 0 := by simpa using h
    subst this; rfl
  | k + 1, n, h => by
    rw [numL_succ, natOf_snoc, natOf_numL k (n / 256) (by rw [Nat.pow_succ] at h; exact Nat.div_lt_of_lt_mul (by rw [Nat.mul_comm]; exact h))]
    have : (UInt8.ofNat (n % 256)).toNat = n % 256 := by simp
    rw [this]; omega
theorem numL_natOf : ∀ (k : Nat) (l : List UInt8), l.length = k → numL (natOf l) k = l
  | 0, l, h => by
    obtain rfl : l = [] := List.eq_nil_of_length_eq_zero h
    rfl
  | k + 1, l, h => by
    have hne : l ≠ [] := by intro e; rw [e] at h; cases h
    obtain ⟨m, c, rfl⟩ : ∃ m c, l = m ++ [c] := ⟨l.dropLast, l.getLast hne, (List.dropLast_concat_getLast hne).symm⟩
    rw [List.length_append, List.length_singleton] at h
    rw [numL_succ, natOf_snoc]
    have h1 : (natOf m * 256 + c.toNat) / 256 = natOf m := by have := c.toNat_lt; omega
    have h2 : (natOf m * 256 + c.toNat) % 256 = c.toNat := by have := c.toNat_lt; omega
    rw [h1, h2, numL_natOf k m (by omega)]
    simp
theorem strOf_bytes (s : ByteArray) : strOf s.data.toList = s := by simp [strOf]
theorem rdText_put (s : ByteArray) (r : List UInt8) (hs : s.size < 4294967296) : rdText (textL s ++ r) = some (s.data.toList, r) := by
  have h4 : (numL s.size 4).length = 4 := numL_len _ _
  have e1 : (textL s ++ r).take 4 = numL s.size 4 := by unfold textL; rw [List.append_assoc, List.take_left' h4]
  have e2 : (textL s ++ r).drop 4 = s.data.toList ++ r := by unfold textL; rw [List.append_assoc, List.drop_left' h4]
  have hz : s.data.toList.length = s.size := Array.length_toList
  unfold rdText
  rw [e1, e2, natOf_numL 4 _ (by omega), if_pos ⟨by rw [List.length_append, textL_len]; omega, by rw [List.length_append, hz]; omega⟩, List.take_left' hz, List.drop_left' hz]
theorem insL_cons (s : ByteArray) (l : List ByteArray) : insL (s :: l) = textL s ++ insL l := by simp [insL]
theorem rdTexts_put (ins : List ByteArray) (r : List UInt8) (hs : ∀ s ∈ ins, s.size < 4294967296) : ∀ k, k ≤ ins.length → rdTexts k (insL ins ++ r) = some ((ins.take k).map (fun s => s.data.toList), insL (ins.drop k) ++ r)
  | 0, _ => by simp [rdTexts]
  | k + 1, hk => by
    rw [rdTexts, rdTexts_put ins r hs k (by omega), Option.bind_some]
    have hd : ins.drop k = ins[k] :: ins.drop (k + 1) := List.drop_eq_getElem_cons (by omega)
    have ht : ins.take (k + 1) = ins.take k ++ [ins[k]] := by rw [List.take_succ_eq_append_getElem]
    rw [hd, insL_cons, List.append_assoc, rdText_put _ _ (hs _ (List.getElem_mem _)), ht, List.map_append]
    rfl
theorem getS_put {nm : ByteArray} {ins : List ByteArray} {rc : ByteArray} (h : rightD nm ins rc = true) : getS (putL nm ins rc) = some (nm, ins, rc) := by
  obtain ⟨h1, h2, h3, h4⟩ := right_parts h
  have hs : ∀ s ∈ ins, s.size < 4294967296 := fun s hs => by
    obtain ⟨k, hk, e⟩ := List.mem_iff_getElem.1 hs
    have := okP_le (insOk_at h4 hk)
    rw [List.getD_eq_getElem?_getD, List.getElem?_eq_getElem hk] at this
    simp only [Option.getD_some] at this
    rw [← e]; omega
  have e0 : putL nm ins rc = magic ++ (textL nm ++ (numL ins.length 2 ++ (insL ins ++ (textL rc ++ [])))) := by simp [putL, headL, List.append_assoc]
  have hp : magic.isPrefixOf (putL nm ins rc) = true := by rw [e0]; simp [List.isPrefixOf_iff_prefix]
  have hd : (putL nm ins rc).drop 4 = textL nm ++ (numL ins.length 2 ++ (insL ins ++ (textL rc ++ []))) := by rw [e0]; rfl
  have h2l : (numL ins.length 2).length = 2 := numL_len _ _
  have ht2 : (numL ins.length 2 ++ (insL ins ++ (textL rc ++ []))).take 2 = numL ins.length 2 := List.take_left' h2l
  have hd2 : (numL ins.length 2 ++ (insL ins ++ (textL rc ++ []))).drop 2 = insL ins ++ (textL rc ++ []) := List.drop_left' h2l
  have hn : natOf (numL ins.length 2) = ins.length := natOf_numL 2 _ (by omega)
  have h6 := rdTexts_put ins (textL rc ++ []) hs ins.length (Nat.le_refl _)
  rw [List.take_of_length_le (Nat.le_refl _), List.drop_of_length_le (Nat.le_refl _)] at h6
  rw [getS_at hp (by rw [hd]; exact rdText_put _ _ (by omega)) (by simp [numL_len]) (by rw [ht2, hn, hd2]; exact h6)]
  rw [show insL [] ++ (textL rc ++ []) = textL rc ++ [] from rfl, rdText_put _ _ (by omega), Option.bind_some]
  have hm : (ins.map fun s => s.data.toList).map strOf = ins := by
    rw [List.map_map]
    conv => rhs; rw [← List.map_id ins]
    exact List.map_congr_left fun s _ => strOf_bytes s
  rw [hm, strOf_bytes, strOf_bytes, if_pos ⟨rfl, h⟩]
theorem rdText_get {l t r : List UInt8} (h : rdText l = some (t, r)) : l = textL (strOf t) ++ r := by
  unfold rdText at h
  split at h
  · rename_i hc
    cases h
    have h4 : (l.take 4).length = 4 := by rw [List.length_take]; omega
    have hz : (strOf ((l.drop 4).take (natOf (l.take 4)))).size = natOf (l.take 4) := by rw [strOf_size, List.length_take]; omega
    unfold textL
    rw [hz, numL_natOf 4 _ h4, strOf_toList, List.append_assoc, List.take_append_drop, List.take_append_drop]
  · cases h
theorem rdTexts_get {l : List UInt8} : ∀ {k : Nat} {ts : List (List UInt8)} {r : List UInt8}, rdTexts k l = some (ts, r) → l = insL (ts.map strOf) ++ r
  | 0, ts, r, h => by rw [rdTexts] at h; cases h; rfl
  | k + 1, ts, r, h => by
    rw [rdTexts] at h
    cases hk : rdTexts k l with
    | none => rw [hk] at h; cases h
    | some q =>
      rw [hk] at h
      obtain ⟨p, hp, e⟩ := Option.map_eq_some_iff.1 h
      cases e
      have h1 := rdTexts_get (ts := q.1) (r := q.2) hk
      have h2 := rdText_get (t := p.1) (r := p.2) hp
      rw [List.map_append, h1]
      conv => lhs; rw [h2]
      simp [insL]
theorem getS_get {b : List UInt8} {nm : ByteArray} {ins : List ByteArray} {rc : ByteArray} (h : getS b = some (nm, ins, rc)) : rightD nm ins rc = true ∧ putL nm ins rc = b := by
  unfold getS at h
  split at h
  · rename_i hp
    obtain ⟨p, hp1, h⟩ := Option.bind_eq_some_iff.1 h
    split at h
    · rename_i h2
      obtain ⟨q, hq, h⟩ := Option.bind_eq_some_iff.1 h
      obtain ⟨r, hr, h⟩ := Option.bind_eq_some_iff.1 h
      split at h
      · rename_i hc
        simp only [Option.some.injEq, Prod.mk.injEq] at h
        obtain ⟨rfl, rfl, rfl⟩ := h
        refine ⟨hc.2, ?_⟩
        have e1 := rdText_get (t := p.1) (r := p.2) hp1
        have e2 := rdTexts_get (ts := q.1) (r := q.2) hq
        have e3 := rdText_get (t := r.1) (r := r.2) hr
        rw [hc.1, List.append_nil] at e3
        have hl := (rdTexts_len (ts := q.1) (r := q.2) hq).1
        have h2l : (p.2.take 2).length = 2 := by rw [List.length_take]; omega
        have e4 : numL (q.1.map strOf).length 2 = p.2.take 2 := by rw [List.length_map, hl]; exact numL_natOf 2 _ h2l
        obtain ⟨t, ht⟩ := List.isPrefixOf_iff_prefix.1 hp
        have e5 : b = magic ++ b.drop 4 := by rw [← ht]; rfl
        rw [e5, e1]
        unfold putL headL
        rw [e4]
        have e6 : p.2 = p.2.take 2 ++ p.2.drop 2 := (List.take_append_drop 2 p.2).symm
        conv => rhs; rw [e6, e2, e3]
        simp only [List.append_assoc]
      · cases h
    · cases h
  · cases h
end Go.Proofs.YtbniilajffjfcaaGreatDoor
