/- Contract of the reference's number. -/
import Derived.Test.YtcnedecmmplmoaaGreatDoorCm02
import Derived.Test.YtcnedecmmplmoaaGreatDoorShelf
import Derived.Test.YtcnedecmmplmoaaGreatDoorCm01
import Derived.Deep.RegionLaw
import Derived.OneCell
set_option linter.unusedVariables false
set_option linter.unusedSimpArgs false
namespace Go.Proofs.YtcnedecmmplmoaaGreatDoor
open Go.RowKit Go.BigFrame
open Ver (digB tagB numV okNum okTag)

theorem str_zero (s : ByteArray) (h : s.size = 1) (h0 : 0 < s.size) (hz : (s[0].toNat : Int) = 48) : (s.toList == [48]) = true := by
  have e : s[0] = 48 := UInt8.toNat_inj.1 (by simpa using (by omega : s[0].toNat = 48))
  rw [Lib.toList_data s]
  have hl : s.data.toList.length = 1 := by rw [len_data]; exact h
  obtain ⟨c, hc⟩ := List.length_eq_one_iff.1 hl
  have hh := head_at s h0
  rw [hc, e] at hh
  rw [hc]
  cases hh
  rfl
theorem str_not_zero (s : ByteArray) (h : s.size ≠ 1 ∨ ∃ h0 : 0 < s.size, (s[0].toNat : Int) ≠ 48) : (s.toList == [48]) = false := by
  rw [Lib.toList_data s]
  rw [beq_eq_false_iff_ne]
  intro e
  rcases h with h | ⟨h0, hz⟩
  · have := congrArg List.length e
    rw [len_data] at this
    exact h this
  · have hh := head_at s h0
    rw [e] at hh
    apply hz
    rw [← Option.some.inj hh]; rfl

/-- What the reference's number answers. -/
def RefNum (s : ByteArray) (w : World) (e : Ending) (w' : World) : Prop :=
  (∃ n : Int, e = .returned (.tuple #[.int .i64 n, .bool (okNum s.data.toList)]) ∧ (okNum s.data.toList = true → n = (numV s.data.toList : Int))) ∧ ∃ nq, w' = w.drewN nq
theorem RefNum.mk {s : ByteArray} {w : World} {e : Ending} {w' : World} (n : Int) (b : Bool) (nq : Nat) (he : e = .returned (.tuple #[.int .i64 n, .bool b])) (hb : okNum s.data.toList = b) (hn : b = true → n = (numV s.data.toList : Int)) (hw : w' = w.drewN nq) : RefNum s w e w' :=
  ⟨⟨n, by rw [he, hb], fun h => hn (hb ▸ h)⟩, nq, hw⟩
set_option maxRecDepth 100000 in
set_option maxHeartbeats 800000 in
theorem refNumber_any (s : ByteArray) (w : World) (hs : s.size ≤ maxLen) :
    Calls Tryz.prog 99 #[.string s] w (RefNum s w) := by
  unfold maxLen at hs
  go_enter Tryz.func99, Tryz.ntmps99
  go_wp2
  go_loop [4, 5] (fun n i => ∃ k : Nat, k ≤ s.size ∧ k ≤ 9 ∧ i = .int .i64 k ∧ n = .int .i64 (numV (s.data.toList.take k) : Int) ∧ Hid ((s.data.toList.take k).all digB = true)) (fun _ i => s.size - (intOf i).toNat)
  case atStart => exact ⟨0, by omega, by omega, rfl, rfl, Lib.hid rfl⟩
  case round =>
    obtain ⟨k, hk, hk9, rfl, rfl, HA⟩ := hrel
    have hbd := numV_bd s k HA.out (by omega)
    by_cases hlt : k < s.size
    · have HN := Lib.hid (next_num s k hlt)
      by_cases hd : (s[k].toNat : Int) < 48 ∨ 57 < (s[k].toNat : Int)
      · have HF := Lib.hid (okNum_all s (all_no _ s k hlt (digB_no _ (by omega))))
        go_wp2
        all_goals
          go_ret2
          exact RefNum.mk _ _ 0 rfl HF.out (fun h => by cases h) rfl
      · have hd1 : 48 ≤ (s[k].toNat : Int) := by omega
        have hd2 : (s[k].toNat : Int) ≤ 57 := by omega
        clear hd
        by_cases h8 : k ≤ 8
        · go_wp2
          go_round
          case rel => exact ⟨k + 1, by omega, by omega, by go_num, val_int (by rw [HN.out (by omega)]; omega), Lib.hid (all_step _ s k hlt HA.out (digB_yes _ (by omega)))⟩
          case measure => simp [intOf]; omega
        · have HF := Lib.hid (okNum_long s (by omega))
          go_wp2
          go_ret2
          exact RefNum.mk _ _ 0 rfl HF.out (fun h => by cases h) rfl
    · have hk' : s.size = k := by omega
      have HT := Lib.hid (show s.data.toList.take k = s.data.toList by rw [← hk', take_all])
      by_cases h0 : k = 0
      · subst h0
        have HF := Lib.hid (okNum_nil s hk')
        have hz := str_not_zero s (.inl (by omega))
        have hz' : decide (0 < (s.size : Int)) = false := by rw [hk']; rfl
        clear hk'
        go_wp2
        go_quiet (fail)
        go_wp2
        go_ret2
        exact RefNum.mk _ _ _ rfl HF.out (fun h => by cases h) rfl
      · have hp : 0 < s.size := by omega
        have hp' : decide (0 < (s.size : Int)) = true := by simp; omega
        have HH : (∃ h0 : 0 < s.size, (s[0].toNat : Int) ≠ 48) ∨ ((s[0].toNat : Int) = 48 ∧ s.size = 1) ∨ ((s[0].toNat : Int) = 48 ∧ 1 < s.size) := by
          by_cases e : (s[0].toNat : Int) = 48
          · rcases Nat.lt_or_ge 1 s.size with h | h
            · exact .inr (.inr ⟨e, h⟩)
            · exact .inr (.inl ⟨e, by omega⟩)
          · exact .inl ⟨hp, e⟩
        rcases HH with ⟨_, h⟩ | ⟨h, h2⟩ | ⟨h, h2⟩
        · have HF := Lib.hid (okNum_yes s (by omega) (by omega) hp (.inl h) (by rw [← HT.out]; exact HA.out))
          have hz := str_not_zero s (.inr ⟨hp, h⟩)
          have hb : ((s[0].toNat : Int) != 48) = true := by rw [bne_iff_ne]; exact h
          clear h hk'
          go_wp2
          go_quiet (fail)
          go_wp2
          go_ret2
          exact RefNum.mk _ _ _ rfl HF.out (fun _ => by rw [HT.out]) rfl
        · have HF := Lib.hid (okNum_yes s (by omega) (by omega) hp (.inr (by omega)) (by rw [← HT.out]; exact HA.out))
          have hz := str_zero s h2 hp h
          clear h hk' h2
          go_wp2
          go_quiet (fail)
          go_wp2
          go_ret2
          exact RefNum.mk _ _ _ rfl HF.out (fun _ => by rw [HT.out]) rfl
        · have HF := Lib.hid (okNum_zero s h2 hp h)
          have hz := str_not_zero s (.inl (by omega))
          have hb : ((s[0].toNat : Int) != 48) = false := by rw [h]; rfl
          clear h hk' h2
          go_wp2
          go_quiet (fail)
          go_wp2
          go_ret2
          exact RefNum.mk _ _ _ rfl HF.out (fun h => by cases h) rfl
end Go.Proofs.YtcnedecmmplmoaaGreatDoor

/- Contract of strings.Cut at one byte. -/
namespace Go.Proofs.YtcnedecmmplmoaaGreatDoor
open Go.RowKit Go.BigFrame
open Ver (brk)

def bA (c : UInt8) (s : ByteArray) : ByteArray := ⟨(brk c s.data.toList).1.toArray⟩
def bR (c : UInt8) (s : ByteArray) : ByteArray := ⟨(brk c s.data.toList).2.1.toArray⟩
def bF (c : UInt8) (s : ByteArray) : Bool := (brk c s.data.toList).2.2
theorem bA_list (c : UInt8) (s : ByteArray) : (bA c s).data.toList = (brk c s.data.toList).1 := by simp [bA]
theorem bR_list (c : UInt8) (s : ByteArray) : (bR c s).data.toList = (brk c s.data.toList).2.1 := by simp [bR]
theorem indexByte_brk (c : UInt8) : ∀ l : List UInt8, Lib.indexByte l c = if (brk c l).2.2 = true then ((brk c l).1.length : Int) else -1
  | [] => rfl
  | x :: r => by
    have ih := indexByte_brk c r
    unfold Lib.indexByte brk
    by_cases hx : x = c
    · subst hx; simp
    · rw [if_neg (by simpa using hx), if_neg hx, ih]
      cases hb : (brk c r).2.2
      · simp [hb]
      · simp only [if_pos, hb]
        rw [if_neg (by simp; try omega)]
        simp
theorem cut_no (c : UInt8) (s : ByteArray) (h : bF c s = false) : bA c s = s ∧ bR c s = ⟨#[]⟩ ∧ Lib.indexByte s.data.toList c = -1 := by
  obtain ⟨h1, h2, _⟩ := Ver.brk_no c _ h
  refine ⟨str_ext (by rw [bA_list, h1]), str_ext (by rw [bR_list, h2]), ?_⟩
  rw [indexByte_brk, if_neg (by rw [show (brk c s.data.toList).2.2 = false from h]; simp)]
theorem cut_yes (c : UInt8) (s : ByteArray) (h : bF c s = true) : ∃ i : Nat, Lib.indexByte s.data.toList c = (i : Int) ∧ i < s.size ∧ bA c s = s.extract 0 i ∧ bR c s = s.extract (i + 1) s.size := by
  obtain ⟨h1, _⟩ := Ver.brk_yes c _ h
  have hl := congrArg List.length h1
  rw [len_data, List.length_append, List.length_cons] at hl
  refine ⟨(brk c s.data.toList).1.length, ?_, by omega, str_ext ?_, str_ext ?_⟩
  · rw [indexByte_brk]; exact if_pos h
  · rw [bA_list, Lib.extract_data]
    generalize (brk c s.data.toList).1 = a at *
    generalize (brk c s.data.toList).2.1 = r at *
    simp [h1]
  · rw [bR_list, Lib.extract_data]
    generalize (brk c s.data.toList).1 = a at *
    generalize (brk c s.data.toList).2.1 = r at *
    rw [h1, List.drop_append, List.drop_of_length_le (by omega), show a.length + 1 - a.length = 1 by omega]
    simp
    rw [List.take_of_length_le (by omega)]
theorem ret_cut {a b a' b' : ByteArray} {c c' : Bool} (h : a = a') (h2 : b = b') (h3 : c = c') : Ending.returned (.tuple #[.string a, .string b, .bool c]) = .returned (.tuple #[.string a', .string b', .bool c']) := by rw [h, h2, h3]
def CutPost (c : UInt8) (s : ByteArray) (w : World) (e : Ending) (w' : World) : Prop := e = .returned (.tuple #[.string (bA c s), .string (bR c s), .bool (bF c s)]) ∧ ∃ nq, w' = w.drewN nq
set_option maxRecDepth 100000 in
set_option maxHeartbeats 400000 in
theorem litecut_any (c : UInt8) (s : ByteArray) (w : World) (hs : s.size ≤ maxLen) :
    Calls Tryz.prog 104 #[.string s, .string ⟨#[c]⟩] w (CutPost c s w) := by
  unfold maxLen at hs
  cases hb : bF c s
  · obtain ⟨h1, h2, h3⟩ := cut_no c s hb
    have H1 := Lib.hid h1
    have H2 := Lib.hid h2
    have H3 := Lib.hid h3
    have HB := Lib.hid hb
    clear h1 h2 h3 hb
    go_enter Tryz.func104, Tryz.ntmps104
    go_wp2_with (go_at_call 118; refine (Tryz.stringslite_Index_one _ _ _).mono ?_; rw [H3.out]; rintro e w' ⟨rfl, rfl⟩)
    go_ret3
    exact ⟨ret_cut H1.out.symm H2.out.symm HB.out.symm, 0, rfl⟩
  · obtain ⟨i, h3, hi, h1, h2⟩ := cut_yes c s hb
    have H1 := Lib.hid h1
    have H2 := Lib.hid h2
    have H3 := Lib.hid h3
    have HB := Lib.hid hb
    clear h1 h2 h3 hb
    have hw : IntKind.i64.wrap ((i : Int) + 1) = (i : Int) + 1 := IntWalk.i64_in _ (by omega)
    go_enter Tryz.func104, Tryz.ntmps104
    go_wp2_with (go_at_call 118; refine (Tryz.stringslite_Index_one _ _ _).mono ?_; rw [H3.out]; rintro e w' ⟨rfl, rfl⟩)
    go_quiet (fail)
    go_wp2
    go_ret3
    exact ⟨ret_cut H1.out.symm H2.out.symm HB.out.symm, _, rfl⟩
set_option maxRecDepth 100000 in
set_option maxHeartbeats 400000 in
theorem cut_any (c : UInt8) (s : ByteArray) (w : World) (hs : s.size ≤ maxLen) :
    Calls Tryz.prog 76 #[.string s, .string ⟨#[c]⟩] w (CutPost c s w) := by
  go_enter Tryz.func76, Tryz.ntmps76
  go_wp2_with (go_at_call 104; refine (litecut_any _ _ _ hs).mono ?_; rintro e w' ⟨rfl, nq, rfl⟩)
  go_ret3
  exact ⟨rfl, _, rfl⟩
theorem cut_is (b : Bool) (c : UInt8) (s : ByteArray) (w : World) (hs : s.size ≤ maxLen) (h : bF c s = b) :
    Calls Tryz.prog 76 #[.string s, .string ⟨#[c]⟩] w fun e w' => e = .returned (.tuple #[.string (bA c s), .string (bR c s), .bool b]) ∧ ∃ nq, w' = w.drewN nq := h ▸ cut_any c s w hs
end Go.Proofs.YtcnedecmmplmoaaGreatDoor

/- Laws of append that tell in which block the row lies then; frames with two exceptions. -/
namespace Go.Proofs.YtcnedecmmplmoaaGreatDoor
open Go.ChangeShapes Go.WideShapes Go.ChangeAt Go.RowKit

/-- Where an appended row lies: where it lay, or in a new block. -/
def Moved (w : World) (v v' : Value) : Prop := v'.ownBlock = v.ownBlock ∨ ∃ g, v'.ownBlock = some g ∧ w.heap.size ≤ g
theorem Moved.refl (w : World) (v : Value) : Moved w v v := .inl rfl
theorem Moved.trans {w w1 : World} {a b c : Value} (h : Moved w a b) (h2 : Moved w1 b c) (hz : w.heap.size ≤ w1.heap.size) : Moved w a c := by
  rcases h2 with e | ⟨g, e, hg⟩
  · rcases h with e2 | ⟨g, e2, hg⟩
    · exact .inl (e.trans e2)
    · exact .inr ⟨g, e.trans e2, hg⟩
  · exact .inr ⟨g, e, Nat.le_trans hz hg⟩
theorem Moved.ne {w : World} {v v' : Value} {k : Nat} (h : Moved w v v') (hk : k < w.heap.size) (hne : v.ownBlock ≠ some k) : v'.ownBlock ≠ some k := by
  rcases h with e | ⟨g, e, hg⟩
  · rw [e]; exact hne
  · rw [e]; intro h; cases h; omega

theorem append_moved {P : Program} {w : World} (base : Nat) (t ty e : TypeId) (i : TypeInfo) (z : Value) (size bytes : Nat) (ht : P.underlying t = some (.slice e)) (hi : P.info? e = some i) (hz : i.zero = some z)
    (hsize : i.size = size) (hby : i.bytes = bytes) (hzs : z.cells.size = size) (hsz : 0 < size) (v : Value) (n : Nat) (xs : List Value) (hown : w.ownsRow base e size v n xs)
    (a : Addr) (m c : Nat) (news : List Value) (hl : news.length = m * size) (hnews : ∀ j u, news[j]? = some u → w.cell? (a.add j) = some u) (h1 : ∀ u ∈ news, u.oneCell' = true)
    (h63 : n + m ≤ maxLen) (hbytes : (n + m) * bytes ≤ 140737488355328) (v' : Value) (w' : World) (hr : (Builtin.append_ #[t, t] ty #[v, .slice (some a) m c]).run P w = .ok v' w') : Moved w v v' := by
  have hsmall : n + m ≤ 9223372036854775807 := by simp only [maxLen] at h63; omega
  subst hsize
  subst hby
  rcases hown.2 with ⟨rfl, rfl⟩ | ⟨g, cap, cur, rfl, hbg, hg, hnc, hcm, hcs, htake⟩
  · obtain ⟨v2, w2, hr2, ho2, _, hnil⟩ := run_append_own (P := P) w w.heap.size t ty e i z i.size i.bytes ht hi hz rfl rfl hzs hsz _ 0 xs ⟨hown.1, .inl ⟨rfl, rfl⟩⟩ a m c news hl hnews h1 h63 hbytes (Nat.le_refl _)
    rw [hr] at hr2
    cases hr2
    cases hb : v'.ownBlock with
    | none => exact .inl hb
    | some g => exact .inr ⟨g, hb, (ho2.lt g hb).1⟩
  · by_cases hroom : n + m ≤ cap
    · have hfit : n * i.size + news.length ≤ cur.size := by rw [hl, hcs, ← Nat.add_mul]; exact Nat.mul_le_mul_right _ hroom
      have hr2 := run_append_room (P := P) w t ty e i ht hi g n cap cur hg a m c news hl hnews h1 hroom hfit
      rw [hr] at hr2
      cases hr2
      exact .inl rfl
    · have holds : ∀ j u, xs[j]? = some u → w.cell? ((⟨g, 0, none⟩ : Addr).add j) = some u := hown.cells (g := g) rfl
      have hr2 := run_append_grow (P := P) w t ty e i z ht hi hz ⟨g, 0, none⟩ n cap xs hown.1 holds a m c news hl hnews (by omega) (by omega) (growslice_fits (by omega) hbytes)
      rw [hr] at hr2
      cases hr2
      exact .inr ⟨_, rfl, Nat.le_refl _⟩

/-- append to a row of the call's own, of what another slice holds. -/
theorem wpList_app {P : Program} {w : World} {ops : Array Oper} {rest : List Oper} {o : Oper} {a : Act} {Q : Exit → Act → World → Prop} (hgd : o.guard = none) (s x : Operand) (t : TypeId)
    (ho : o.op = .call { callee := .builtin .append, args := #[s, x], argTypes := #[t, t] })
    (base : Nat) (e : TypeId) (i : TypeInfo) (z : Value) (bytes : Nat) (ht : P.underlying t = some (.slice e)) (hi : P.info? e = some i) (hz : i.zero = some z) (hs1 : i.size = 1) (hb1 : i.bytes = bytes) (hzs : z.cells.size = 1)
    (v : Value) (n : Nat) (xs : List Value) (hs : a.eval s = v) (hown : w.ownsRow base e 1 v n xs) (ad : Addr) (m c : Nat) (news : List Value) (hx : a.eval x = .slice (some ad) m c) (hl : news.length = m)
    (hnews : ∀ j u, news[j]? = some u → w.cell? (ad.add j) = some u) (h1 : ∀ u ∈ news, u.oneCell' = true)
    (h63 : n + m ≤ maxLen) (hbytes : (n + m) * bytes ≤ 140737488355328) (hbase : base ≤ w.heap.size)
    (h : ∀ v' w', w'.ownsRow base e 1 v' (n + m) (xs ++ news) → w.grownBy w' v.ownBlock → Moved w v v' → wpList P ops Q rest (a.put o.dst v') w') : wpList P ops Q (o :: rest) a w :=
  wpList_plain hgd fun _ hK => by
    have hl1 : news.length = m * 1 := by rw [hl, Nat.mul_one]
    obtain ⟨v', w', hr, h2, h3, _⟩ := run_append_own (P := P) w base t o.type e i z 1 bytes ht hi hz hs1 hb1 hzs (by decide) v n xs hown ad m c news hl1 hnews h1 h63 hbytes hbase
    have hm := append_moved base t o.type e i z 1 bytes ht hi hz hs1 hb1 hzs (by decide) v n xs hown ad m c news hl1 hnews h1 h63 hbytes v' w' hr
    unfold Oper.wp execOp
    simp only [ho, resolve, invoke, builtin, Sem.run_bind, Sem.run_pure, Result.andThen_ok, List.map_toArray, List.map_cons, List.map_nil, hs, hx, hr]
    exact hK _ _ (h v' w' h2 h3 hm)
/-- The same, of bytes that a slice holds. -/
theorem wpList_app_holds {P : Program} {w : World} {ops : Array Oper} {rest : List Oper} {o : Oper} {a : Act} {Q : Exit → Act → World → Prop} (hgd : o.guard = none) (s x : Operand) (t : TypeId)
    (ho : o.op = .call { callee := .builtin .append, args := #[s, x], argTypes := #[t, t] })
    (base : Nat) (e : TypeId) (i : TypeInfo) (ht : P.underlying t = some (.slice e)) (hi : P.info? e = some i) (hz : i.zero = some (.int .u8 0)) (hs1 : i.size = 1) (hb1 : i.bytes = 1)
    (v : Value) (n : Nat) (xs : List Value) (hs : a.eval s = v) (hown : w.ownsRow base e 1 v n xs) (B : Nat) (A : Option Addr) (m c : Nat) (d : Nat → Nat) (hx : a.eval x = .slice A m c) (hr : Holds w B A m d) (hA : A = none → c = 0) (hmc : m ≤ c)
    (h63 : n + m ≤ maxLen) (hbytes : n + m ≤ 140737488355328) (hbase : base ≤ w.heap.size)
    (h : ∀ v' w', w'.ownsRow base e 1 v' (n + m) (xs ++ cells d m) → w.grownBy w' v.ownBlock → Moved w v v' → wpList P ops Q rest (a.put o.dst v') w') : wpList P ops Q (o :: rest) a w := by
  cases A with
  | none =>
    have hc := hA rfl
    subst hc
    obtain rfl : m = 0 := by omega
    refine wpList_append_own_none hgd s x t ho base e i 1 ht hi v n xs hs hown hx ?_
    exact h v w (by simpa [cells] using hown) (World.grownBy.refl w _) (Moved.refl w v)
  | some ad =>
    refine wpList_app hgd s x t ho base e i (.int .u8 0) 1 ht hi hz hs1 hb1 rfl v n xs hs hown ad m c (cells d m) hx (by rw [cells_len]) ?_ ?_ h63 (by omega) hbase h
    · intro j u hu
      have hj : j < m := by
        have := (List.getElem?_eq_some_iff.1 hu).1
        rwa [cells_len] at this
      obtain ⟨ad', e', _, hc⟩ := hr (by omega)
      cases e'
      rw [cells_get _ _ _ hj] at hu
      rw [hc j hj, hu]
    · intro u hu
      simp [cells] at hu
      obtain ⟨_, _, rfl⟩ := hu
      rfl

/-- All blocks stand but block g, and the block r. -/
structure KeptBut (w w' : World) (g : Nat) (r : Option Nat) : Prop where
  os : w'.os = w.os
  tape : w'.tape = w.tape
  output : w'.output = w.output
  size : w.heap.size ≤ w'.heap.size
  block : ∀ k, k < w.heap.size → k ≠ g → some k ≠ r → w'.heap[k]? = w.heap[k]?
theorem KeptBut.refl (w : World) (g : Nat) (r : Option Nat) : KeptBut w w g r := ⟨rfl, rfl, rfl, Nat.le_refl _, fun _ _ _ _ => rfl⟩
theorem KeptBut.grown {w w1 w2 : World} {g : Nat} {v v1 : Value} (h : KeptBut w w1 g v.ownBlock) (hm : Moved w v v1) (h2 : w1.grownBy w2 v1.ownBlock) : KeptBut w w2 g v.ownBlock :=
  ⟨h2.os.trans h.os, h2.tape.trans h.tape, h2.output.trans h.output, Nat.le_trans h.size h2.size, fun k hk h0 h1 =>
    (h2.block k (Nat.lt_of_lt_of_le hk h.size) (fun e => hm.ne hk (fun e' => h1 e'.symm) e.symm)).trans (h.block k hk h0 h1)⟩
theorem KeptBut.setCell {w w1 : World} {g : Nat} {r : Option Nat} (h : KeptBut w w1 g r) {p : Addr} (hp : p.block = g) (u : Value) : KeptBut w (w1.setCell p u) g r :=
  ⟨h.os, h.tape, h.output, by simp; exact h.size, fun k hk h0 h1 => (heap_setCell_other w1 p k u (by rw [hp]; exact h0)).trans (h.block k hk h0 h1)⟩
theorem KeptBut.drew {w w1 : World} {g : Nat} {r : Option Nat} (h : KeptBut w w1 g r) : KeptBut w w1.drew g r := ⟨h.os, h.tape, h.output, h.size, h.block⟩
theorem KeptBut.alloc {w w1 : World} {g : Nat} {r : Option Nat} (h : KeptBut w w1 g r) (o : Obj) : KeptBut w (w1.alloc o) g r :=
  ⟨h.os, h.tape, h.output, by simp; exact Nat.le_succ_of_le h.size, fun k hk h0 h1 => (old_block w1 o k (Nat.lt_of_lt_of_le hk h.size)).trans (h.block k hk h0 h1)⟩
theorem KeptBut.trans {w w1 w2 : World} {g : Nat} {v v1 : Value} (h : KeptBut w w1 g v.ownBlock) (hm : Moved w v v1) (h2 : KeptBut w1 w2 g v1.ownBlock) : KeptBut w w2 g v.ownBlock :=
  ⟨h2.os.trans h.os, h2.tape.trans h.tape, h2.output.trans h.output, Nat.le_trans h.size h2.size, fun k hk h0 h1 =>
    (h2.block k (Nat.lt_of_lt_of_le hk h.size) h0 (fun e => hm.ne hk (fun e' => h1 e'.symm) e.symm)).trans (h.block k hk h0 h1)⟩
theorem KeptBut.below {w w1 : World} {g B : Nat} {r : Option Nat} {W : World} (hb : Below B W w) (h : KeptBut w w1 g r) (hg : B ≤ g) (hr : ∀ k, r = some k → B ≤ k) (hB : B ≤ w.heap.size) : Below B W w1 :=
  ⟨h.os.trans hb.os, h.tape.trans hb.tape, h.output.trans hb.output, Nat.le_trans hb.size h.size, fun k hk =>
    (h.block k (Nat.lt_of_lt_of_le hk hB) (by omega) (fun e => by have := hr k e.symm; omega)).trans (hb.block k hk)⟩
theorem KeptBut.of_below {w w1 : World} (g : Nat) (r : Option Nat) (h : Below w.heap.size w w1) : KeptBut w w1 g r := ⟨h.os, h.tape, h.output, h.size, fun k hk _ _ => h.block k hk⟩
/-- One row behind another one. -/
def joinD (n : Nat) (d e : Nat → Nat) (i : Nat) : Nat := if i < n then d i else e (i - n)
theorem join_cells (n m : Nat) (d e : Nat → Nat) : cells d n ++ cells e m = cells (joinD n d e) (n + m) :=
  cells_append _ _ _ _ _ (fun i hi => by rw [joinD, if_pos hi]) fun i _ => by rw [joinD, if_neg (by omega)]; congr 1; omega
theorem join_lt (n : Nat) (d e : Nat → Nat) (hd : ∀ i, d i < 256) (he : ∀ i, e i < 256) (i : Nat) : joinD n d e i < 256 := by
  unfold joinD; split; exact hd _; exact he _
theorem join_at (n : Nat) (d e : Nat → Nat) (j : Nat) : joinD n d e (n + j) = e j := by rw [joinD, if_neg (by omega), Nat.add_sub_cancel_left]
theorem join_low (n : Nat) (d e : Nat → Nat) (j : Nat) (h : j < n) : joinD n d e j = d j := by rw [joinD, if_pos h]
theorem cells_congr (d e : Nat → Nat) (n : Nat) (h : ∀ i, i < n → d i = e i) : cells d n = cells e n := by
  unfold cells
  exact List.map_congr_left fun i hi => by rw [h i (by simpa using hi)]
end Go.Proofs.YtcnedecmmplmoaaGreatDoor
