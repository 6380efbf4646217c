/- archive: the package's reader: node. -/
import Derived.Test.YtcleebigfbbdbaaArcO
import Derived.Laws.Tables
set_option linter.unusedVariables false
set_option linter.unusedSimpArgs false
namespace Go.Proofs.Ytcleebigfbbdbaa
open Go Go.RowKit Go.BigFrame
open Fil (Es Nd Sp)
open Arc (BL num4 num2 encT letK encE encN sizE sizN rfN rdN rfE rdE rdT rd2 beN)

theorem node_results1 {W : World} {g : Nat} {cs : Array Value} {t : Array Value} (hcs : cs.size = 3) (h : W.heap[g]? = some (.cells cs 24 (0, 0))) (hp : t.getD 4 undef = .pointer (some ⟨g, 0, none⟩)) :
    (results Try.f33 t).run Try.prog W = .ok (.agg cs) W := by
  have hi : (Try.prog.info? 24).map (·.size) = some cs.size := by rw [hcs]; kernel_rfl
  have hr : (Try.f33).results = #[ResultVar.cell 4 24] := rfl
  have hp' : t[4]?.getD undef = .pointer (some ⟨g, 0, none⟩) := by simpa using hp
  simp [results, hr, hp', asAddr, run_loadVar_row W g _ 24 cs (0, 0) _ h Try.underlying24 (by rfl) hi]
theorem str_one (c x : UInt8) : ((strOf [c]).toList == [x]) = decide (c = x) := by
  have : (strOf [c]).toList = [c] := by rw [Lib.toList_data]; simp [strOf]
  rw [this]
  rcases Decidable.em (c = x) with h | h
  · subst h; simp
  · rw [decide_eq_false h, beq_eq_false_iff_ne]
    intro e
    cases e
    exact h rfl
theorem rdN_le {f : Nat} {l r : BL} {n m : Nat} {y : Nd} (h : rdN f l n = some (y, r, m)) : m ≤ 4096 ∧ r.length ≤ l.length := by
  rw [Arc.rdN_cut] at h
  cases hf : rfN f l with
  | none => rw [hf] at h; cases h
  | some p =>
    obtain ⟨y', r'⟩ := p
    rw [hf] at h
    have h' : (if n + y'.count ≤ 4096 then some (y', r', n + y'.count) else none) = some (y, r, m) := h
    by_cases hc : n + y'.count ≤ 4096
    · rw [if_pos hc] at h'
      cases h'
      refine ⟨hc, ?_⟩
      rw [Arc.rfN_inv f l y r hf, List.length_append]
      omega
    · rw [if_neg hc] at h'
      cases h'
theorem leaf_end {w W1 W2 : World} {g f k n : Nat} {c : UInt8} {b r : BL} {s : ByteArray} (hE : rdN (f + 1) (c :: b) n = some (⟨k, s, .nil⟩, r, n + 1)) (hc1 : Ch w W1 (One g)) (hc2 : Ch W1 W2 (One g)) (hn : n + 1 ≤ 4096) (hs : s.size + r.length ≤ b.length) (hb : b.length ≤ 10000000)
    (hB : W2.heap[w.heap.size]? = some (ndCells 0 ⟨#[]⟩ (.slice none 0 0))) (hg : g < w.heap.size) (hr : Rdr W2 g r (n + 1)) (hk : k < 256) :
    NPost w g (rdN (f + 1) (c :: b) n) (.returned (.agg #[.int .u8 (k : Int), .string s, .slice none 0 0])) (W2.setRow w.heap.size #[.int .u8 (k : Int), .string s, .slice none 0 0]) := by
  have hgr : W2.grownBy (W2.setRow w.heap.size #[.int .u8 (k : Int), .string s, .slice none 0 0]) (some w.heap.size) := ⟨rfl, rfl, rfl, by simp [World.setRow], fun k hk hn => setRow_other _ _ _ _ (fun e => hn (by rw [e]))⟩
  refine ⟨(hc1.trans hc2 (fun k _ hk => hk)).grown hgr (fun k hk e => by have := Option.some.inj e; omega), ?_⟩
  rw [hE]
  refine ⟨by show r.length ≤ _; omega, hn, (hgr.block g (block_lt hr) (fun e => by have := Option.some.inj e; omega)).trans hr, _, rfl, .slice none 0 0, rfl, EsS.nil _ _, by show s.size ≤ maxLen; unfold maxLen; omega, hk⟩
theorem dir_end {w W1 W2 : World} {g f n n3 : Nat} {c : UInt8} {b r : BL} {es : Es} {ev : Value} (hE : rdN (f + 1) (c :: b) n = some (⟨4, ⟨#[]⟩, es⟩, r, n3)) (hc1 : Ch w W1 (One g)) (hc2 : Ch W1 W2 (One g)) (hn : n3 ≤ 4096) (hl : r.length ≤ 10000000)
    (hB : W2.heap[w.heap.size]? = some (ndCells 0 ⟨#[]⟩ (.slice none 0 0))) (hg : g < w.heap.size) (hr : Rdr W2 g r n3) (hz : w.heap.size + 1 ≤ W1.heap.size) (he : EsS W2 (Nw W1 W2) ev es) :
    NPost w g (rdN (f + 1) (c :: b) n) (.returned (.agg #[.int .u8 4, .string ⟨#[]⟩, ev])) (W2.setRow w.heap.size #[.int .u8 4, .string ⟨#[]⟩, ev]) := by
  have hgr : W2.grownBy (W2.setRow w.heap.size #[.int .u8 4, .string ⟨#[]⟩, ev]) (some w.heap.size) := ⟨rfl, rfl, rfl, by simp [World.setRow], fun k hk hn => setRow_other _ _ _ _ (fun e => hn (by rw [e]))⟩
  refine ⟨(hc1.trans hc2 (fun k _ hk => hk)).grown hgr (fun k hk e => by have := Option.some.inj e; omega), ?_⟩
  rw [hE]
  refine ⟨hl, hn, (hgr.block g (block_lt hr) (fun e => by have := Option.some.inj e; omega)).trans hr, _, rfl, ev, rfl, he.keep fun k hk => ?_, Nat.zero_le _, show (4 : Nat) < 256 by decide⟩
  have h1 : W1.heap.size ≤ k := hk.1
  exact ⟨⟨by omega, Nat.lt_of_lt_of_le hk.2 hgr.size⟩, hgr.block k hk.2 (fun e => by have := Option.some.inj e; omega)⟩
set_option maxRecDepth 1000000 in
set_option maxRecDepth 100000 in
set_option maxHeartbeats 16000000 in
theorem rnode_any (g : Nat) : ∀ (f dep : Nat), f + dep = 33 → ∀ (w : World) (l : BL) (n : Nat), l.length ≤ 10000000 → n ≤ 4096 → Rdr w g l n →
    Calls Try.prog 33 #[.pointer (some ⟨g, 0, none⟩), .int .i64 (dep : Int)] w (NPost w g (rdN f l n)) := by
  intro f
  induction f with
  | zero =>
    intro dep hfd w l n hl hn h
    obtain rfl : dep = 33 := by omega
    obtain ⟨h0, h1, h2, h3⟩ := two_box h
    have hgw : g < w.heap.size := block_lt h
    have hw1 : IntKind.i64.wrap ((n : Int) + 1) = (n : Int) + 1 := IntWalk.i64_in _ (by omega)
    go_enter Try.func33, Try.ntmps33
    go_wp2_with (first | (refine (amust_false _).mono ?_; intro eQ WQ hQ; obtain ⟨hQ1, hQ2⟩ := hQ; have hQ3 := hQ1.symm; subst hQ3; subst hQ2))
    exact ⟨rfl, ((Ch.refl w (One g)).setCell (p := ⟨g, 1, none⟩) rfl _).alloc _, rfl⟩
  | succ f ih =>
    intro dep hfd w l n hl hn h
    obtain ⟨h0, h1, h2, h3⟩ := two_box h
    have hgw : g < w.heap.size := block_lt h
    have hw1 : IntKind.i64.wrap ((n : Int) + 1) = (n : Int) + 1 := IntWalk.i64_in _ (by omega)
    have hdI : decide ((dep : Int) ≤ 32) = true := decide_eq_true (by omega)
    have hdI2 : (dep : Int) ≤ 32 := by omega
    obtain ⟨W0, hW0⟩ : ∃ W0, W0 = (w.setCell ⟨g, 1, none⟩ (.int .i64 ((n : Int) + 1))).alloc (.cells #[.int .u8 0, .string ⟨#[]⟩, .slice none 0 0] 24) := ⟨_, rfl⟩
    have HC0 := Lib.hid (show Ch w W0 (One g) by rw [hW0]; exact ((Ch.refl w (One g)).setCell (p := ⟨g, 1, none⟩) rfl _).alloc _)
    have hrd0 : Rdr W0 g l (n + 1) := by
      rw [hW0]
      exact (old_block _ _ _ (by simp; omega)).trans (Go.Joins.block_setCell (i := 1) h _)
    have HR0 := Lib.hid hrd0
    have HB0 := Lib.hid (show W0.heap[w.heap.size]? = some (ndCells 0 ⟨#[]⟩ (.slice none 0 0)) by
      have := heap_alloc_new (w.setCell ⟨g, 1, none⟩ (.int .i64 ((n : Int) + 1))) (.cells #[.int .u8 0, .string ⟨#[]⟩, .slice none 0 0] 24)
      rw [hW0]
      simpa [ndCells] using this)
    have HZ0 := Lib.hid (show W0.heap.size = w.heap.size + 1 by rw [hW0]; simp)
    have HTK := Lib.hid (take_any W0 g l (n + 1) 1 hrd0 (by omega))
    have HIH := Lib.hid ih
    clear ih h hrd0
    rcases Nat.lt_or_ge 4096 (n + 1) with hbad | hgood
    · have hnI : decide ((n : Int) + 1 ≤ 4096) = false := decide_eq_false (by omega)
      have hnI2 : ¬ (n : Int) + 1 ≤ 4096 := by omega
      have HN := Lib.hid (show rdN (f + 1) l n = none by unfold Arc.rdN; rw [if_neg (by omega)])
      clear hbad
      go_enter Try.func33, Try.ntmps33
      go_wp2_with (first | (refine (amust_false _).mono ?_; intro eQ WQ hQ; obtain ⟨hQ1, hQ2⟩ := hQ; have hQ3 := hQ1.symm; subst hQ3; subst hQ2))
      rw [← hW0]
      refine ⟨rfl, HC0.out, ?_⟩
      rw [HN.out]
    · have hnI : decide ((n : Int) + 1 ≤ 4096) = true := decide_eq_true (by omega)
      have hnI2 : (n : Int) + 1 ≤ 4096 := by omega
      have HGD := Lib.hid hgood
      clear hgood
      go_enter Try.func33, Try.ntmps33
      go_wp2_with (first | (refine (amust_true _).mono ?_; intro eQ WQ hQ; obtain ⟨hQ1, vQ, hQ2⟩ := hQ; have hQ3 := hQ1.symm; subst hQ3; subst hQ2))
      rw [← hW0]
      clear hW0 h0 h1 h2 h3 hw1 hdI hdI2 hnI hnI2
      refine HTK.out.mono ?_
      rintro e W1 ⟨hch, (⟨hle, rfl, hrd⟩ | ⟨hlt, rfl⟩)⟩
      rotate_left
      · refine ⟨rfl, HC0.out.trans hch (fun k _ hk => hk), ?_⟩
        have : l = [] := List.eq_nil_of_length_eq_zero (by omega)
        rw [show rdN (f + 1) l n = none by rw [this]; unfold Arc.rdN; split <;> rfl]
      have HC1 := Lib.hid (HC0.out.trans hch (fun k _ hk => hk))
      have HB1 := Lib.hid (hch.heap HB0.out (fun e => by have : w.heap.size = g := e; omega))
      have hz1 : w.heap.size + 1 ≤ W1.heap.size := by have := hch.size; have := HZ0.out; omega
      clear hch
      cases l with
      | nil => exact absurd hle (by simp)
      | cons c b =>
        have htk : (c :: b).take 1 = [c] := rfl
        have hdr : (c :: b).drop 1 = b := rfl
        rw [htk]
        rw [hdr] at hrd
        clear htk hdr hle
        have hlb : b.length ≤ 10000000 := by simp at hl; omega
        have HTX := Lib.hid (rtext_any W1 g b (n + 1) hlb hrd)
        have HRN := Lib.hid (show rdN (f + 1) (c :: b) n = (if c = 70 then Arc.leafD 1 b (n + 1) else if c = 88 then Arc.leafD 2 b (n + 1) else if c = 76 then Arc.leafD 3 b (n + 1) else if c = 68 then
          (match rd2 b with
          | none => none
          | some (k, b2) => match rdE (rdN f) k b2 (n + 1) with
            | none => none
            | some (es, b3, n3) => some (⟨4, ⟨#[]⟩, es⟩, b3, n3))
          else none) by
          unfold Arc.rdN; rw [if_pos HGD.out]; rfl)
        obtain ⟨hn0, hn1, hn2, hf0, hf1, hf2⟩ := nd_box HB1.out
        obtain ⟨sc, hsc⟩ : ∃ sc, sc = strOf [c] := ⟨_, rfl⟩
        rw [← hsc]
        by_cases h70 : c = 70
        · have e70 : (sc.toList == [70]) = true := by rw [hsc, str_one, decide_eq_true h70]
          have HRL := Lib.hid (show rdN (f + 1) (c :: b) n = Arc.leafD 1 b (n + 1) by rw [HRN.out, if_pos h70])
          clear hsc h70
          clear hn0 hn1 hn2 hf0 hf1 hf2
          go_wp2_with fail
          refine HTX.out.mono ?_
          rintro e W2 ⟨hch2, hm⟩
          cases hT : rdT b with
          | none =>
            rw [hT] at hm
            subst hm
            refine ⟨rfl, HC1.out.trans hch2 (fun k _ hk => hk), ?_⟩
            rw [HRL.out]; unfold Arc.leafD; rw [hT]
          | some p =>
            obtain ⟨s, r⟩ := p
            rw [hT] at hm
            obtain ⟨rfl, hrd2⟩ := hm
            have HE := Lib.hid (show rdN (f + 1) (c :: b) n = some (⟨1, s, .nil⟩, r, n + 1) by rw [HRL.out]; unfold Arc.leafD; rw [hT])
            have hss := rdT_len hT
            have HB2 := Lib.hid (hch2.heap HB1.out (fun e => by have : w.heap.size = g := e; omega))
            have HF := Lib.hid (show NPost w g (rdN (f + 1) (c :: b) n) (.returned (.agg #[.int .u8 1, .string s, .slice none 0 0])) (W2.setRow w.heap.size #[.int .u8 1, .string s, .slice none 0 0]) from leaf_end HE.out HC1.out hch2 HGD.out hss hlb HB2.out hgw hrd2 (by decide))
            clear hch2 hrd2 hT hss
            go_wp2_with (refine wpList_store_row rfl _ _ _ rfl _ _ rfl rfl _ _ HB2.out (by kernel_rfl) (by rfl) (by simp [Value.oneCell']) ?_)
            refine bodyPost_ret (v := .agg #[.int .u8 1, .string s, .slice none 0 0]) (node_results1 (g := w.heap.size) rfl (setRow_heap _ _ _ _ _ _ HB2.out) rfl) rfl HF.out
        have e70 : (sc.toList == [70]) = false := by rw [hsc, str_one, decide_eq_false h70]
        by_cases h88 : c = 88
        · have e88 : (sc.toList == [88]) = true := by rw [hsc, str_one, decide_eq_true h88]
          have HRL := Lib.hid (show rdN (f + 1) (c :: b) n = Arc.leafD 2 b (n + 1) by rw [HRN.out, if_neg h70, if_pos h88])
          clear hsc h88
          clear hn0 hn1 hn2 hf0 hf1 hf2
          go_wp2_with fail
          refine HTX.out.mono ?_
          rintro e W2 ⟨hch2, hm⟩
          cases hT : rdT b with
          | none =>
            rw [hT] at hm
            subst hm
            refine ⟨rfl, HC1.out.trans hch2 (fun k _ hk => hk), ?_⟩
            rw [HRL.out]; unfold Arc.leafD; rw [hT]
          | some p =>
            obtain ⟨s, r⟩ := p
            rw [hT] at hm
            obtain ⟨rfl, hrd2⟩ := hm
            have HE := Lib.hid (show rdN (f + 1) (c :: b) n = some (⟨2, s, .nil⟩, r, n + 1) by rw [HRL.out]; unfold Arc.leafD; rw [hT])
            have hss := rdT_len hT
            have HB2 := Lib.hid (hch2.heap HB1.out (fun e => by have : w.heap.size = g := e; omega))
            have HF := Lib.hid (show NPost w g (rdN (f + 1) (c :: b) n) (.returned (.agg #[.int .u8 2, .string s, .slice none 0 0])) (W2.setRow w.heap.size #[.int .u8 2, .string s, .slice none 0 0]) from leaf_end HE.out HC1.out hch2 HGD.out hss hlb HB2.out hgw hrd2 (by decide))
            clear hch2 hrd2 hT hss
            go_wp2_with (refine wpList_store_row rfl _ _ _ rfl _ _ rfl rfl _ _ HB2.out (by kernel_rfl) (by rfl) (by simp [Value.oneCell']) ?_)
            refine bodyPost_ret (v := .agg #[.int .u8 2, .string s, .slice none 0 0]) (node_results1 (g := w.heap.size) rfl (setRow_heap _ _ _ _ _ _ HB2.out) rfl) rfl HF.out
        have e88 : (sc.toList == [88]) = false := by rw [hsc, str_one, decide_eq_false h88]
        by_cases h76 : c = 76
        · have e76 : (sc.toList == [76]) = true := by rw [hsc, str_one, decide_eq_true h76]
          have HRL := Lib.hid (show rdN (f + 1) (c :: b) n = Arc.leafD 3 b (n + 1) by rw [HRN.out, if_neg h70, if_neg h88, if_pos h76])
          clear hsc h76
          clear hn0 hn1 hn2 hf0 hf1 hf2
          go_wp2_with fail
          refine HTX.out.mono ?_
          rintro e W2 ⟨hch2, hm⟩
          cases hT : rdT b with
          | none =>
            rw [hT] at hm
            subst hm
            refine ⟨rfl, HC1.out.trans hch2 (fun k _ hk => hk), ?_⟩
            rw [HRL.out]; unfold Arc.leafD; rw [hT]
          | some p =>
            obtain ⟨s, r⟩ := p
            rw [hT] at hm
            obtain ⟨rfl, hrd2⟩ := hm
            have HE := Lib.hid (show rdN (f + 1) (c :: b) n = some (⟨3, s, .nil⟩, r, n + 1) by rw [HRL.out]; unfold Arc.leafD; rw [hT])
            have hss := rdT_len hT
            have HB2 := Lib.hid (hch2.heap HB1.out (fun e => by have : w.heap.size = g := e; omega))
            have HF := Lib.hid (show NPost w g (rdN (f + 1) (c :: b) n) (.returned (.agg #[.int .u8 3, .string s, .slice none 0 0])) (W2.setRow w.heap.size #[.int .u8 3, .string s, .slice none 0 0]) from leaf_end HE.out HC1.out hch2 HGD.out hss hlb HB2.out hgw hrd2 (by decide))
            clear hch2 hrd2 hT hss
            go_wp2_with (refine wpList_store_row rfl _ _ _ rfl _ _ rfl rfl _ _ HB2.out (by kernel_rfl) (by rfl) (by simp [Value.oneCell']) ?_)
            refine bodyPost_ret (v := .agg #[.int .u8 3, .string s, .slice none 0 0]) (node_results1 (g := w.heap.size) rfl (setRow_heap _ _ _ _ _ _ HB2.out) rfl) rfl HF.out
        have e76 : (sc.toList == [76]) = false := by rw [hsc, str_one, decide_eq_false h76]
        by_cases h68 : c = 68
        · have e68 : (sc.toList == [68]) = true := by rw [hsc, str_one, decide_eq_true h68]
          have HRL := Lib.hid (show rdN (f + 1) (c :: b) n = (match dirD f b (n + 1) with | none => none | some (es, b3, n3) => some (⟨4, ⟨#[]⟩, es⟩, b3, n3)) by
            rw [HRN.out, if_neg h70, if_neg h88, if_neg h76, if_pos h68]
            unfold dirD
            cases rd2 b with
            | none => rfl
            | some p => rfl)
          have HEN := Lib.hid (entries_any f g dep (by omega) (fun w' l' n' h1 h2 h3 => by have := HIH.out (dep + 1) (by omega) w' l' n' h1 h2 h3; rwa [show ((dep + 1 : Nat) : Int) = (dep : Int) + 1 from rfl] at this) W1 b (n + 1) hlb HGD.out hrd)
          clear hsc h68
          clear hn0 hn1 hn2 hf0 hf1 hf2
          go_wp2_with fail
          refine HEN.out.mono ?_
          rintro e W2 ⟨hch2, hm⟩
          cases hT : dirD f b (n + 1) with
          | none =>
            rw [hT] at hm
            subst hm
            refine ⟨rfl, HC1.out.trans hch2 (fun k _ hk => hk), ?_⟩
            rw [HRL.out, hT]
          | some p =>
            obtain ⟨es, r, n3⟩ := p
            rw [hT] at hm
            obtain ⟨hl3, hn3, hrd2, v, rfl, hes⟩ := hm
            obtain ⟨A, cap, rfl, hcp⟩ := hes.form
            have HE := Lib.hid (show rdN (f + 1) (c :: b) n = some (⟨4, ⟨#[]⟩, es⟩, r, n3) by rw [HRL.out, hT])
            have HB2 := Lib.hid (hch2.heap HB1.out (fun e => by have : w.heap.size = g := e; omega))
            have HF := Lib.hid (dir_end HE.out HC1.out hch2 hn3 hl3 HB2.out hgw hrd2 hz1 hes)
            clear hch2 hrd2 hT hes hl3 hn3 hcp
            go_wp2_with (refine wpList_store_row rfl _ _ _ rfl _ _ rfl rfl _ _ HB2.out (by kernel_rfl) (by rfl) (by simp [Value.oneCell']) ?_)
            refine bodyPost_ret (v := .agg #[.int .u8 4, .string ⟨#[]⟩, .slice A es.len cap]) (node_results1 (g := w.heap.size) rfl (setRow_heap _ _ _ _ _ _ HB2.out) rfl) rfl HF.out
        have e68 : (sc.toList == [68]) = false := by rw [hsc, str_one, decide_eq_false h68]
        have HRL := Lib.hid (show rdN (f + 1) (c :: b) n = none by rw [HRN.out, if_neg h70, if_neg h88, if_neg h76, if_neg h68])
        clear hn0 hn1 hn2 hf0 hf1 hf2 hsc
        go_wp2
        refine ⟨rfl, HC1.out, ?_⟩
        rw [HRL.out]
        rfl
end Go.Proofs.Ytcleebigfbbdbaa
