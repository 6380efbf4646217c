/- archive: reading, in plain maths. -/
import Derived.Test.YtcleebigfbbdbaaArcD
set_option linter.unusedVariables false
set_option linter.unusedSimpArgs false
namespace Go.Proofs.Ytcleebigfbbdbaa
open Go Go.RowKit Go.BigFrame
open Fil (Es Nd Sp)
namespace Arc

def beN (l : BL) : Nat := l.foldl (fun n c => n * 256 + c.toNat) 0
/-- A text with its number of bytes ahead. -/
def rdT (b : BL) : Option (ByteArray × BL) :=
  if 4 ≤ b.length then (if beN (b.take 4) ≤ (b.drop 4).length then some (strOf ((b.drop 4).take (beN (b.take 4))), (b.drop 4).drop (beN (b.take 4))) else none) else none
def rd2 (b : BL) : Option (Nat × BL) := if 2 ≤ b.length then some (beN (b.take 2), b.drop 2) else none
def rfE (node : BL → Option (Nd × BL)) : Nat → BL → Option (Es × BL)
  | 0, b => some (.nil, b)
  | k + 1, b => match rdT b with
    | none => none
    | some (s, b2) => match node b2 with
      | none => none
      | some (y, b3) => match rfE node k b3 with
        | none => none
        | some (es, b4) => some (.cons s y.k y.d y.es es, b4)
def leafF (k : Nat) (b : BL) : Option (Nd × BL) := match rdT b with | none => none | some (s, b2) => some (⟨k, s, .nil⟩, b2)
def rfN : Nat → BL → Option (Nd × BL)
  | 0, _ => none
  | _ + 1, [] => none
  | f + 1, c :: b => if c = 70 then leafF 1 b else if c = 88 then leafF 2 b else if c = 76 then leafF 3 b else if c = 68 then
      (match rd2 b with
      | none => none
      | some (k, b2) => match rfE (rfN f) k b2 with
        | none => none
        | some (es, b3) => some (⟨4, ⟨#[]⟩, es⟩, b3))
    else none
/-- The same, with how many nodes are read. -/
def rdE (node : BL → Nat → Option (Nd × BL × Nat)) : Nat → BL → Nat → Option (Es × BL × Nat)
  | 0, b, n => some (.nil, b, n)
  | k + 1, b, n => match rdT b with
    | none => none
    | some (s, b2) => match node b2 n with
      | none => none
      | some (y, b3, n3) => match rdE node k b3 n3 with
        | none => none
        | some (es, b4, n4) => some (.cons s y.k y.d y.es es, b4, n4)
def leafD (k : Nat) (b : BL) (n : Nat) : Option (Nd × BL × Nat) := match rdT b with | none => none | some (s, b2) => some (⟨k, s, .nil⟩, b2, n)
def rdN : Nat → BL → Nat → Option (Nd × BL × Nat)
  | 0, _, _ => none
  | f + 1, b, n => if n + 1 ≤ 4096 then
      (match b with
      | [] => none
      | c :: b => if c = 70 then leafD 1 b (n + 1) else if c = 88 then leafD 2 b (n + 1) else if c = 76 then leafD 3 b (n + 1) else if c = 68 then
          (match rd2 b with
          | none => none
          | some (k, b2) => match rdE (rdN f) k b2 (n + 1) with
            | none => none
            | some (es, b3, n3) => some (⟨4, ⟨#[]⟩, es⟩, b3, n3))
        else none)
    else none
def cutN (n : Nat) : Option (Nd × BL) → Option (Nd × BL × Nat)
  | none => none
  | some (y, b) => if n + y.count ≤ 4096 then some (y, b, n + y.count) else none
def cutE (n : Nat) : Option (Es × BL) → Option (Es × BL × Nat)
  | none => none
  | some (es, b) => if n + es.count ≤ 4096 then some (es, b, n + es.count) else none
theorem count_cons (s : ByteArray) (y : Nd) (es : Es) : (Es.cons s y.k y.d y.es es).count = y.count + es.count := rfl
theorem rdE_cut (f : Nat) (ih : ∀ b n, rdN f b n = cutN n (rfN f b)) : ∀ (k : Nat) (b : BL) (n : Nat), n ≤ 4096 → rdE (rdN f) k b n = cutE n (rfE (rfN f) k b)
  | 0, b, n, hn => by
    show some (Es.nil, b, n) = if n + 0 ≤ 4096 then some (Es.nil, b, n + 0) else none
    rw [if_pos (by omega)]; rfl
  | k + 1, b, n, hn => by
    unfold rdE rfE
    cases hT : rdT b with
    | none => rfl
    | some p =>
      obtain ⟨s, b2⟩ := p
      simp only []
      rw [ih b2 n]
      cases hN : rfN f b2 with
      | none => rfl
      | some q =>
        obtain ⟨y, b3⟩ := q
        simp only [cutN]
        by_cases hc : n + y.count ≤ 4096
        · rw [if_pos hc]
          simp only []
          rw [rdE_cut f ih k b3 (n + y.count) hc]
          cases hE : rfE (rfN f) k b3 with
          | none => rfl
          | some r =>
            obtain ⟨es, b4⟩ := r
            simp only [cutE]
            rw [count_cons]
            by_cases hd : n + y.count + es.count ≤ 4096
            · rw [if_pos hd, if_pos (by omega)]
              simp only [Nat.add_assoc]
            · rw [if_neg hd, if_neg (by omega)]
        · rw [if_neg hc]
          cases hE : rfE (rfN f) k b3 with
          | none => rfl
          | some r =>
            obtain ⟨es, b4⟩ := r
            simp only [cutE]
            rw [count_cons, if_neg (by omega)]
theorem leaf_cut (k : Nat) (b : BL) (n : Nat) (hn : n + 1 ≤ 4096) : leafD k b (n + 1) = cutN n (leafF k b) := by
  unfold leafD leafF
  cases rdT b with
  | none => rfl
  | some p =>
    show some _ = if n + (1 + 0) ≤ 4096 then some _ else none
    rw [if_pos (by omega)]
    rfl
theorem rdN_cut : ∀ (f : Nat) (b : BL) (n : Nat), rdN f b n = cutN n (rfN f b)
  | 0, _, _ => rfl
  | f + 1, [], n => by unfold rdN rfN; split <;> rfl
  | f + 1, c :: b, n => by
    have hpos : ∀ y : Nd, 1 ≤ y.count := fun y => by unfold Fil.Nd.count; omega
    by_cases hn : n + 1 ≤ 4096
    · unfold rdN rfN
      rw [if_pos hn]
      simp only []
      by_cases h1 : c = 70
      · rw [if_pos h1, if_pos h1]; exact leaf_cut 1 b n hn
      rw [if_neg h1, if_neg h1]
      by_cases h2 : c = 88
      · rw [if_pos h2, if_pos h2]; exact leaf_cut 2 b n hn
      rw [if_neg h2, if_neg h2]
      by_cases h3 : c = 76
      · rw [if_pos h3, if_pos h3]; exact leaf_cut 3 b n hn
      rw [if_neg h3, if_neg h3]
      by_cases h4 : c = 68
      · rw [if_pos h4, if_pos h4]
        cases h2 : rd2 b with
        | none => rfl
        | some p =>
          obtain ⟨k, b2⟩ := p
          simp only []
          rw [rdE_cut f (rdN_cut f) k b2 (n + 1) hn]
          cases hE : rfE (rfN f) k b2 with
          | none => rfl
          | some r =>
            obtain ⟨es, b3⟩ := r
            have hct : (⟨4, ⟨#[]⟩, es⟩ : Nd).count = 1 + es.count := rfl
            simp only [cutE, cutN]
            rw [hct]
            by_cases hd : n + 1 + es.count ≤ 4096
            · rw [if_pos hd, if_pos (by omega)]
              simp only [Nat.add_assoc]
            · rw [if_neg hd, if_neg (by omega)]
      · rw [if_neg h4, if_neg h4]; rfl
    · have e1 : rdN (f + 1) (c :: b) n = none := by unfold rdN; rw [if_neg hn]
      rw [e1]
      cases h : rfN (f + 1) (c :: b) with
      | none => rfl
      | some p =>
        obtain ⟨y, b'⟩ := p
        simp only [cutN]
        rw [if_neg (by have := hpos y; omega)]
theorem byteNat (n : Nat) : (UInt8.ofNat n).toNat = n % 256 := UInt8.toNat_ofNat'
theorem be_num4 {n : Nat} (h : n < 4294967296) : beN (num4 n) = n := by
  unfold beN num4
  simp only [List.foldl_cons, List.foldl_nil, byteNat]
  omega
theorem be_num2 {n : Nat} (h : n < 65536) : beN (num2 n) = n := by
  unfold beN num2
  simp only [List.foldl_cons, List.foldl_nil, byteNat]
  omega
theorem rdT_enc (s : ByteArray) (b : BL) (h : s.size < 4294967296) : rdT (encT s ++ b) = some (s, b) := by
  have hs := Lib.size_eq s
  have ht : (encT s ++ b).take 4 = num4 s.size := by unfold encT num4; rfl
  have hd : (encT s ++ b).drop 4 = s.data.toList ++ b := by unfold encT num4; rfl
  unfold rdT
  rw [ht, hd, be_num4 h, if_pos (by rw [List.length_append, encT_len]; omega), if_pos (by rw [List.length_append]; omega)]
  rw [hs, List.take_left' rfl, List.drop_left' rfl, strOf_text]
theorem rd2_enc (n : Nat) (b : BL) (h : n < 65536) : rd2 (num2 n ++ b) = some (n, b) := by
  have ht : (num2 n ++ b).take 2 = num2 n := by unfold num2; rfl
  have hd : (num2 n ++ b).drop 2 = b := by unfold num2; rfl
  unfold rd2
  rw [ht, hd, be_num2 h, if_pos (by rw [List.length_append]; show 2 ≤ 2 + _; omega)]
theorem four {l : BL} (h : l.length = 4) : num4 (beN l) = l ∧ beN l < 4294967296 := by
  match l, h with
  | [a, b, c, d], _ =>
    have h1 := a.toNat_lt
    have h2 := b.toNat_lt
    have h3 := c.toNat_lt
    have h4 := d.toNat_lt
    have e : beN [a, b, c, d] = ((a.toNat * 256 + b.toNat) * 256 + c.toNat) * 256 + d.toNat := by unfold beN; simp
    rw [e]
    refine ⟨?_, by omega⟩
    unfold num4
    congr 1
    · apply UInt8.toNat_inj.1; rw [byteNat]; omega
    congr 1
    · apply UInt8.toNat_inj.1; rw [byteNat]; omega
    congr 1
    · apply UInt8.toNat_inj.1; rw [byteNat]; omega
    congr 1
    · apply UInt8.toNat_inj.1; rw [byteNat]; omega
theorem two {l : BL} (h : l.length = 2) : num2 (beN l) = l ∧ beN l < 65536 := by
  match l, h with
  | [a, b], _ =>
    have h1 := a.toNat_lt
    have h2 := b.toNat_lt
    have e : beN [a, b] = a.toNat * 256 + b.toNat := by unfold beN; simp
    rw [e]
    refine ⟨?_, by omega⟩
    unfold num2
    congr 1
    · apply UInt8.toNat_inj.1; rw [byteNat]; omega
    congr 1
    · apply UInt8.toNat_inj.1; rw [byteNat]; omega
theorem rdT_inv {b b2 : BL} {s : ByteArray} (h : rdT b = some (s, b2)) : b = encT s ++ b2 := by
  unfold rdT at h
  split at h
  · rename_i h4
    split at h
    · rename_i hn
      cases h
      obtain ⟨h1, _⟩ := four (l := b.take 4) (by rw [List.length_take]; omega)
      unfold encT
      rw [strOf_size, List.length_take, Nat.min_eq_left hn, h1]
      show b = b.take 4 ++ (b.drop 4).take _ ++ (b.drop 4).drop _
      rw [List.append_assoc, List.take_append_drop, List.take_append_drop]
    · cases h
  · cases h
theorem rd2_inv {b b2 : BL} {k : Nat} (h : rd2 b = some (k, b2)) : b = num2 k ++ b2 ∧ k < 65536 := by
  unfold rd2 at h
  split at h
  · cases h
    obtain ⟨h1, h2⟩ := two (l := b.take 2) (by rw [List.length_take]; omega)
    rw [h1, List.take_append_drop]
    exact ⟨rfl, h2⟩
  · cases h
theorem rfE_inv (node : BL → Option (Nd × BL)) (hn : ∀ b y b', node b = some (y, b') → b = encN y ++ b') : ∀ (k : Nat) (b : BL) (es : Es) (b' : BL), rfE node k b = some (es, b') → b = encE es ++ b' ∧ es.len = k
  | 0, b, es, b', h => by cases h; exact ⟨rfl, rfl⟩
  | k + 1, b, es, b', h => by
    unfold rfE at h
    cases hT : rdT b with
    | none => rw [hT] at h; cases h
    | some p =>
      obtain ⟨s, b2⟩ := p
      rw [hT] at h
      simp only [] at h
      cases hN : node b2 with
      | none => rw [hN] at h; cases h
      | some q =>
        obtain ⟨y, b3⟩ := q
        rw [hN] at h
        simp only [] at h
        cases hE : rfE node k b3 with
        | none => rw [hE] at h; cases h
        | some r =>
          obtain ⟨es2, b4⟩ := r
          rw [hE] at h
          cases h
          obtain ⟨h1, h2⟩ := rfE_inv node hn k b3 es2 b' hE
          refine ⟨?_, by show es2.len + 1 = k + 1; rw [h2]⟩
          rw [rdT_inv hT, hn b2 y b3 hN, h1, encE_cons]
          simp only [List.append_assoc]
theorem leaf_inv {k : Nat} (hk : k = 1 ∨ k = 2 ∨ k = 3) {b b' : BL} {y : Nd} (h : leafF k b = some (y, b')) : letK k :: b = encN y ++ b' := by
  unfold leafF at h
  cases hT : rdT b with
  | none => rw [hT] at h; cases h
  | some p =>
    obtain ⟨s, b2⟩ := p
    rw [hT] at h
    cases h
    have : encN ⟨k, s, .nil⟩ = letK k :: encT s := by
      unfold encN
      rw [if_neg (show ¬ k = 4 by omega)]
    rw [this, rdT_inv hT]
    rfl
theorem rfN_inv : ∀ (f : Nat) (b : BL) (y : Nd) (b' : BL), rfN f b = some (y, b') → b = encN y ++ b'
  | 0, _, _, _, h => by cases h
  | _ + 1, [], _, _, h => by cases h
  | f + 1, c :: b, y, b', h => by
    unfold rfN at h
    by_cases h1 : c = 70
    · rw [if_pos h1] at h; rw [h1]; exact leaf_inv (k := 1) (.inl rfl) h
    rw [if_neg h1] at h
    by_cases h2 : c = 88
    · rw [if_pos h2] at h; rw [h2]; exact leaf_inv (k := 2) (.inr (.inl rfl)) h
    rw [if_neg h2] at h
    by_cases h3 : c = 76
    · rw [if_pos h3] at h; rw [h3]; exact leaf_inv (k := 3) (.inr (.inr rfl)) h
    rw [if_neg h3] at h
    by_cases h4 : c = 68
    · rw [if_pos h4] at h
      cases h5 : rd2 b with
      | none => rw [h5] at h; cases h
      | some p =>
        obtain ⟨k, b2⟩ := p
        rw [h5] at h
        simp only [] at h
        cases hE : rfE (rfN f) k b2 with
        | none => rw [hE] at h; cases h
        | some r =>
          obtain ⟨es, b3⟩ := r
          rw [hE] at h
          cases h
          obtain ⟨e1, e2⟩ := rfE_inv (rfN f) (rfN_inv f) k b2 es b' hE
          have : encN ⟨4, ⟨#[]⟩, es⟩ = 68 :: (num2 es.len ++ encE es) := rfl
          rw [this, h4, (rd2_inv h5).1, e1, e2]
          simp only [List.cons_append, List.append_assoc]
    · rw [if_neg h4] at h; cases h
theorem leaf_enc {k : Nat} (hk : k = 1 ∨ k = 2 ∨ k = 3) (d : ByteArray) (hd : d.size < 4294967296) (b : BL) (f : Nat) : rfN (f + 1) (encN ⟨k, d, .nil⟩ ++ b) = some (⟨k, d, .nil⟩, b) := by
  have : encN ⟨k, d, .nil⟩ = letK k :: encT d := by
    unfold encN
    rw [if_neg (show ¬ k = 4 by omega)]
  rw [this]
  rcases hk with rfl | rfl | rfl
  · show rfN (f + 1) ((70 : UInt8) :: (encT d ++ b)) = _
    unfold rfN leafF; rw [if_pos rfl, rdT_enc d b hd]
  · show rfN (f + 1) ((88 : UInt8) :: (encT d ++ b)) = _
    unfold rfN leafF; rw [if_neg (by decide), if_pos rfl, rdT_enc d b hd]
  · show rfN (f + 1) ((76 : UInt8) :: (encT d ++ b)) = _
    unfold rfN leafF; rw [if_neg (by decide), if_neg (by decide), if_pos rfl, rdT_enc d b hd]
theorem okB_parts {k : Nat} {d : ByteArray} {es : Es} (h : Fil.okB k d es = true) : ((k = 1 ∨ k = 2 ∨ k = 3) ∧ es = .nil ∧ d.size ≤ 65536) ∨ (k = 4 ∧ d = ⟨#[]⟩ ∧ Fil.namesB ⟨#[]⟩ es = true) := by
  have hnil : es.len = 0 → es = .nil := fun h => by
    cases es with
    | nil => rfl
    | cons _ _ _ _ _ => simp [Es.len] at h
  unfold Fil.okB at h
  split at h
  · rw [Bool.and_eq_true, decide_eq_true_eq, decide_eq_true_eq] at h
    left; exact ⟨by omega, hnil h.2, h.1⟩
  · split at h
    · simp only [Bool.and_eq_true, decide_eq_true_eq] at h
      left; exact ⟨by omega, hnil h.1.2, by omega⟩
    · split at h
      · rw [Bool.and_eq_true, decide_eq_true_eq] at h
        right
        refine ⟨by assumption, ?_, h.2⟩
        apply str_ext
        have := Lib.size_eq d
        rw [h.1] at this
        exact List.eq_nil_of_length_eq_zero this.symm
      · cases h
theorem rfE_enc : ∀ (es : Es) (last : ByteArray) (f : Nat) (b : BL), Fil.namesB last es = true → es.may = true → es.depth ≤ f → es.count ≤ 65535 → rfE (rfN f) es.len (encE es ++ b) = some (es, b)
  | .nil, _, _, b, _, _, _, _ => rfl
  | .cons nm k d s nx, last, f, b, hn, hm, hd, hc => by
    simp only [Fil.namesB, Bool.and_eq_true] at hn
    simp only [Es.may, Bool.and_eq_true] at hm
    have e1 : (Es.cons nm k d s nx).depth = max (1 + s.depth) nx.depth := rfl
    have e2 : (Es.cons nm k d s nx).count = 1 + s.count + nx.count := rfl
    rw [e1] at hd
    rw [e2] at hc
    have hnm := Fil.nameB_size hn.1.2
    have hrest := rfE_enc nx _ f b hn.2 hm.2 (by omega) (by omega)
    obtain ⟨f', rfl⟩ : ∃ f', f = f' + 1 := ⟨f - 1, by omega⟩
    have hN : rfN (f' + 1) (encN ⟨k, d, s⟩ ++ (encE nx ++ b)) = some (⟨k, d, s⟩, encE nx ++ b) := by
      rcases okB_parts hm.1.1 with ⟨hk, rfl, hds⟩ | ⟨rfl, rfl, hns⟩
      · exact leaf_enc hk d (by omega) _ f'
      · have hs := rfE_enc s _ f' (encE nx ++ b) hns hm.1.2 (by omega) (by omega)
        have hl := len_le_count s
        show rfN (f' + 1) (68 :: (num2 s.len ++ encE s ++ (encE nx ++ b))) = _
        unfold rfN
        rw [if_neg (by decide), if_neg (by decide), if_neg (by decide), if_pos rfl, List.append_assoc, rd2_enc _ _ (by omega)]
        simp only []
        rw [hs]
    show rfE (rfN (f' + 1)) (nx.len + 1) (encE (.cons nm k d s nx) ++ b) = _
    rw [encE_cons]
    unfold rfE
    rw [List.append_assoc, List.append_assoc, rdT_enc nm _ (by omega)]
    simp only []
    rw [hN]
    simp only []
    rw [hrest]
theorem rfN_enc {nd : Nd} (h : nd.right = true) (b : BL) : rfN 33 (encN nd ++ b) = some (nd, b) := by
  unfold Fil.Nd.right at h
  simp only [Bool.and_eq_true, decide_eq_true_eq] at h
  obtain ⟨⟨hc, hdp⟩, hm⟩ := h
  unfold Fil.Nd.may at hm
  rw [Bool.and_eq_true] at hm
  obtain ⟨k, d, es⟩ := nd
  rcases okB_parts hm.1 with ⟨hk, he, hds⟩ | ⟨hk, hdd, hns⟩
  · dsimp only at hk he hds
    subst he
    exact leaf_enc hk d (by omega) b 32
  · dsimp only at hk hdd hns
    subst hk
    subst hdd
    unfold Fil.Nd.count at hc
    unfold Fil.Nd.depth at hdp
    dsimp only at hc hdp
    have hs := rfE_enc es _ 32 b hns hm.2 hdp (by omega)
    have hl := len_le_count es
    show rfN 33 (68 :: (num2 es.len ++ encE es ++ b)) = _
    unfold rfN
    rw [if_neg (by decide), if_neg (by decide), if_neg (by decide), if_pos rfl, List.append_assoc, rd2_enc _ _ (by omega)]
    simp only []
    rw [hs]
end Arc
open Arc (BL num4 num2 encT letK encE encN sizE sizN rfN rdN rfE rdE rdT rd2 beN)
/-- What Get answers, of what is behind the first four bytes. -/
def getB (b : BL) : Nat × Nd := match rfN 33 b with
  | some (y, []) => if y.right then (0, y) else (80, zNd)
  | _ => (80, zNd)
def getR (b : BL) : Nat × Nd := if 1048576 < b.length then (3, zNd) else if b.take 4 = [84, 65, 82, 49] then getB (b.drop 4) else (80, zNd)
theorem get_put {nd : Nd} {l : BL} (h : putA nd = (0, l)) : getR l = (0, nd) ∧ nd.right = true := by
  unfold putA at h
  split at h
  · rename_i hr
    split at h
    · cases h
    · rename_i hs
      cases h
      have hE := Arc.rfN_enc hr []
      rw [List.append_nil] at hE
      refine ⟨?_, hr⟩
      unfold getR
      rw [if_neg (by simp only [List.length_cons, Arc.encN_len]; omega), if_pos (show List.take 4 (84 :: 65 :: 82 :: 49 :: encN nd) = [84, 65, 82, 49] from rfl)]
      show getB (encN nd) = _
      unfold getB
      rw [hE]
      simp only [hr, if_true]
  · cases h
theorem put_get {nd : Nd} {b : BL} (h : getR b = (0, nd)) : putA nd = (0, b) ∧ nd.right = true := by
  unfold getR at h
  split at h
  · cases h
  · rename_i hl
    split at h
    · rename_i ht
      unfold getB at h
      split at h
      · rename_i y hy
        split at h
        · rename_i hr
          cases h
          have hi := Arc.rfN_inv 33 _ _ _ hy
          rw [List.append_nil] at hi
          have hb : b = 84 :: 65 :: 82 :: 49 :: encN nd := by
            rw [← List.take_append_drop 4 b, ht, hi]; rfl
          refine ⟨?_, hr⟩
          unfold putA
          rw [hr, if_pos rfl, if_neg (by rw [hb] at hl; simp only [List.length_cons, Arc.encN_len] at hl; omega), hb]
        · cases h
      · cases h
    · cases h
/-- No two right trees have one archive. -/
theorem put_inj {a b : Nd} {l : BL} (ha : putA a = (0, l)) (hb : putA b = (0, l)) : a = b := by
  have h1 := (get_put ha).1
  have h2 := (get_put hb).1
  rw [h1] at h2
  cases h2
  rfl
end Go.Proofs.Ytcleebigfbbdbaa
