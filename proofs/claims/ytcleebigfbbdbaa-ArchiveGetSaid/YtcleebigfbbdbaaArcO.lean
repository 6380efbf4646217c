/- archive: the package's reader: entries. -/
import Derived.Test.YtcleebigfbbdbaaAmK
import Derived.Deep.AppendLies
set_option linter.unusedVariables false
set_option linter.unusedSimpArgs false
namespace Go.Proofs.Ytcleebigfbbdbaa
open Go Go.RowKit Go.BigFrame
open Fil (Es Nd Sp)
open Arc (BL num4 num2 encT letK encE encN sizE sizN rfN rdN rfE rdE rdT rd2 beN)

theorem infoEnt8 : (Try.prog.info? 42).map (fun i => (i.zero, i.size, i.bytes)) = some (some (.agg #[.string ⟨#[]⟩, .int .u8 0, .string ⟨#[]⟩, .slice none 0 0]), 4, 64) := by kernel_rfl
theorem str_len (b : ByteArray) : b.data.toList.length = b.size := (Lib.size_eq b).symm
set_option maxRecDepth 1000000 in
set_option maxRecDepth 100000 in
set_option maxHeartbeats 8000000 in
theorem entries_any (f g dep : Nat) (hdep : dep ≤ 32) (ih : ∀ (w : World) (l : BL) (n : Nat), l.length ≤ 10000000 → n ≤ 4096 → Rdr w g l n → Calls Try.prog 33 #[.pointer (some ⟨g, 0, none⟩), .int .i64 ((dep : Int) + 1)] w (NPost w g (rdN f l n)))
    (w : World) (l : BL) (n : Nat) (hl : l.length ≤ 10000000) (hn : n ≤ 4096) (h : Rdr w g l n) :
    Calls Try.prog 46 #[.pointer (some ⟨g, 0, none⟩), .int .i64 (dep : Int)] w (EPost w g (dirD f l n)) := by
  obtain ⟨i0, hi0, hz0, hz1, hz2⟩ := info_parts infoEnt8
  have HIH := Lib.hid ih
  have HNM := Lib.hid (number_any w g l n 2 h (by omega))
  have hgw : g < w.heap.size := block_lt h
  have hwd : IntKind.i64.wrap ((dep : Int) + 1) = (dep : Int) + 1 := IntWalk.i64_in _ (by omega)
  clear ih h
  go_enter Try.func46, Try.ntmps46
  go_wp2_with fail
  refine HNM.out.mono ?_
  rintro e W ⟨hch, (⟨hle, rfl, hrd⟩ | ⟨hlt, rfl⟩)⟩
  rotate_left
  · refine ⟨rfl, hch, ?_⟩
    rw [show dirD f l n = none by unfold dirD Arc.rd2; rw [if_neg (by omega)]]
  obtain ⟨cnt, hcnt⟩ : ∃ cnt, cnt = beN (l.take 2) := ⟨_, rfl⟩
  have hc16 : cnt < 65536 := by
    rw [hcnt]
    exact (Arc.two (l := l.take 2) (by rw [List.length_take]; omega)).2
  have HD := Lib.hid (show dirD f l n = rdE (rdN f) cnt (l.drop 2) n by unfold dirD Arc.rd2; rw [if_pos hle, ← hcnt])
  rw [← hcnt]
  have HI0 := Lib.hid (And.intro (EnM.start w g W hch hgw) (And.intro (EnR.start f cnt (l.drop 2) n (by rw [List.length_drop]; omega) hn) hrd))
  clear hch hle hrd hcnt
  go_wp2
  go_loopg [5, 9] cnt (fun k u5 u9 wx => ∃ i : Nat, u9 = .int .i64 (i : Int) ∧ i + k = cnt ∧ Hid (∃ done rest nn, EnM w wx g i done u5 ∧ EnR f cnt (l.drop 2) n i done rest nn ∧ Rdr wx g rest nn))
  case atStart => exact ⟨0, rfl, by omega, _, _, _, HI0.out⟩
  case round =>
    obtain ⟨i, rfl, hik, HI⟩ := hrel
    obtain ⟨done, rest, nn, hem, her, hrd⟩ := HI.out
    clear HI
    obtain ⟨A, cap, rfl, hcp⟩ := hem.es.form
    have HEM := Lib.hid hem
    have HER := Lib.hid her
    cases gk with
    | zero =>
      obtain rfl : i = cnt := by omega
      have HRD := Lib.hid hrd
      have HRE := Lib.hid (HD.out.trans her.done)
      clear hem her hrd
      go_wp2
      go_ret
      refine ⟨HEM.out.ch, ?_⟩
      rw [HRE.out]
      exact ⟨HER.out.2.2.1, HER.out.2.2.2, HRD.out, _, rfl, HEM.out.es⟩
    | succ q =>
      have hicI : (i : Int) < (cnt : Int) := by omega
      have hic : i < cnt := by omega
      have hw1 : IntKind.i64.wrap ((i : Int) + 1) = (i : Int) + 1 := IntWalk.i64_in _ (by omega)
      have HTX := Lib.hid (rtext_any wr g rest nn her.2.2.1 hrd)
      clear hem her hrd
      go_wp2_with fail
      refine HTX.out.mono ?_
      rintro e W1 ⟨hch1, hm1⟩
      cases hT : rdT rest with
      | none =>
        rw [hT] at hm1
        subst hm1
        refine ⟨rfl, HEM.out.ch.trans hch1 (fun k _ hk => hk), ?_⟩
        rw [HD.out, HER.out.fail1 hic hT]
      | some p =>
        obtain ⟨s, r2⟩ := p
        rw [hT] at hm1
        obtain ⟨rfl, hrd1⟩ := hm1
        have HT := Lib.hid hT
        have HL := Lib.hid (rdT_len hT)
        have HE1 := Lib.hid (HEM.out.step hch1)
        have HND := Lib.hid (HIH.out W1 r2 nn (by have := HL.out; have := HER.out.2.2.1; omega) HER.out.2.2.2 hrd1)
        clear hT hch1 hrd1
        go_wp2_with fail
        refine HND.out.mono ?_
        rintro e W2 ⟨hch2, hm2⟩
        cases hN : rdN f r2 nn with
        | none =>
          rw [hN] at hm2
          subst hm2
          refine ⟨rfl, HE1.out.ch.trans hch2 (fun k _ hk => hk), ?_⟩
          rw [HD.out, HER.out.fail2 hic HT.out hN]
        | some p =>
          obtain ⟨y, r3, n3⟩ := p
          rw [hN] at hm2
          obtain ⟨hl3, hn3, hrd3, v, rfl, ev, rfl, hes, hyd, hyk⟩ := hm2
          dsimp only at hl3 hn3 hrd3 hes hyd hyk
          obtain ⟨A2, c2, rfl, hlc2, hcm2⟩ := hes.form
          have hem2 := HE1.out.step hch2
          have hlt1 : ∀ b, (Value.slice A done.len cap).ownBlock = some b → b < W1.heap.size := by
            obtain ⟨xs, h1, _⟩ := HE1.out.own
            exact fun b hb => (h1.lt b hb).2
          have hbz : w.heap.size ≤ W1.heap.size := HE1.out.ch.size
          obtain ⟨xs, hx, hent⟩ := hem2.own
          have hsz : s.size ≤ maxLen := by have := HL.out; have := HER.out.2.2.1; unfold maxLen; omega
          have hpsh := fun (w1 : World) (gg cc : Nat) (o : Obj) => EnM.push (w1 := w1) (g := gg) (cap := cc) (o := o) hem2 hx hent hsz hes (fun b hb => ⟨by have := hb.1; omega, hb.2, fun e => by have := hlt1 b e; have := hb.1; omega⟩) hyd hyk
          have HPS := Lib.hid hpsh
          have HRN := Lib.hid (HER.out.next hic HT.out hN hl3 hn3)
          have HX := Lib.hid hx
          have HRD3 := Lib.hid hrd3
          have HLB := Lib.hid (show ∀ b, (Value.slice A done.len cap).ownBlock = some b → w.heap.size ≤ b from fun b hb => (hx.lt b hb).1)
          have hz3 : w.heap.size ≤ W2.heap.size := hem2.ch.size
          clear hem2 hx hent hpsh hes hrd3 hyd hyk hN hch2 hlt1 hbz
          have HAL := Lib.hid (World.news_of_block (heap_alloc_new W2 (.cells #[.string s, .int .u8 (y.k : Int), .string y.d, .slice A2 y.es.len c2] 42)))
          go_wp2_with (at_builtin; go_loud (refine wpList_append_lies _ rfl _ _ 22 rfl w.heap.size 42 i0 _ 4 64 Try.underlying22 hi0 hz0 hz1 hz2 rfl (by decide) (.slice A done.len cap) i xs rfl (HX.out.alloc _) ⟨W2.heap.size, 0, none⟩ 1 1 [.string s, .int .u8 (y.k : Int), .string y.d, .slice A2 y.es.len c2] rfl rfl HAL.out (by simp [Value.oneCell']) (by decide) (by unfold maxLen; omega) (by omega) (by simp; omega) _ rfl ?_; intro gg cc w1 hown1 hg1 hat1 hglt))
          obtain ⟨hem3, hch3⟩ := HPS.out w1 gg cc _ hown1 hg1 hat1
          go_roundg q
          case measure => omega
          case rel => exact ⟨i + 1, by simp, by omega, _, _, _, hem3, HRN.out, hch3.heap HRD3.out (fun e => by have := HLB.out _ e; omega)⟩
end Go.Proofs.Ytcleebigfbbdbaa
