/-
  CONTRACTS of package code's readNumber and readText.
  CONDITIONS: each theorem's own hypotheses.
-/
import Derived.Test.YtjllecmlabodaabDoorCodeE
namespace Go.Proofs.YtjllecmlabodaabDoor
open Go.RowKit CodeMath
set_option linter.unusedVariables false

theorem rest_add (l : List UInt8) (d : Bool) (p t : Nat) : rest l d (p + t) = (rest l d p).drop t := by unfold rest; rw [List.drop_drop]
theorem rest_length (l : List UInt8) (d : Bool) (p : Nat) : (rest l d p).length = l.length - p := by unfold rest; rw [List.length_drop, turnL_length]
theorem num_snoc : ∀ (l : List UInt8) (a : Int) (c : UInt8), num (l ++ [c]) a = num l a * 256 + c.toNat
  | [], a, c => rfl
  | x :: l, a, c => by simp only [List.cons_append, num]; exact num_snoc l _ c
theorem num_take (l : List UInt8) (t : Nat) (c : UInt8) (r : List UInt8) (h : l.drop t = c :: r) : num (l.take (t + 1)) 0 = num (l.take t) 0 * 256 + c.toNat := by
  have ht : t < l.length := by
    have := congrArg List.length h
    simp at this; omega
  rw [List.drop_eq_getElem_cons ht] at h
  simp only [List.cons.injEq] at h
  rw [List.take_succ_eq_append_getElem ht, h.1, num_snoc]
def two56 : Int := 72057594037927936
set_option maxRecDepth 100000 in
theorem num7 (l : List UInt8) (t : Nat) (ht : t ≤ 7) : 0 ≤ num (l.take t) 0 ∧ num (l.take t) 0 < two56 := by
  have h := num_range (l.take t) 0
  have h2 : (256 : Int) ^ (l.take t).length ≤ 256 ^ 7 := by
    have : (l.take t).length ≤ 7 := by rw [List.length_take]; omega
    have := Nat.pow_le_pow_right (n := 256) (by decide) this
    have h3 : ((256 ^ (l.take t).length : Nat) : Int) ≤ ((256 ^ 7 : Nat) : Int) := Int.ofNat_le.2 this
    rw [Int.natCast_pow, Int.natCast_pow] at h3
    exact h3
  have e : (256 : Int) ^ 7 = two56 := by decide
  rw [e] at h2
  omega
theorem or_byte (N : Int) (c : UInt8) (h0 : 0 ≤ N) (h1 : N < two56) : bits .or .u64 (N * 256) (IntKind.u64.wrap c.toNat) = N * 256 + c.toNat := by
  unfold two56 at h1
  have hc := byte_lt c
  rw [IntKind.wrap_u64, Int.emod_eq_of_lt (by omega) (by omega)]
  rw [u64_or _ _ (by omega) (by omega) (by omega) (by omega)]
  rw [nat_join 8 _ _ (by omega) (by simp; omega)]
  omega

def NumPost (M : Nat) (P B F D : Nat) (ao : Option Addr) (cap : Nat) (l : List UInt8) (d : Bool) (p : Nat) (R : List UInt8) (w : World) (e : Ending) (w' : World) : Prop :=
  if R.length < 8 then Reads M P B F D ao cap l d p 0 4 (.tuple #[.int .u64 0, .int .i64 4]) w e w' else Reads M P B F D ao cap l d p 8 0 (.tuple #[.int .u64 (num (R.take 8) 0), .int .i64 0]) w e w'
set_option maxRecDepth 100000 in
set_option maxHeartbeats 1000000 in
theorem readNumber_any {M : Nat} {w : World} {P B F D : Nat} {ao : Option Addr} {cap : Nat} {l : List UInt8} {d : Bool} {p : Nat} (h : Src M w P B F D ao cap l d p) (R : List UInt8) (hR : rest l d p = R) :
    Calls Tryd.prog 62 #[td F D] w (NumPost M P B F D ao cap l d p R w) := by
  have HR := Lib.hid hR
  clear hR
  go_enter Tryd.func62, Tryd.ntmps62
  go_wp2
  go_loopw [4, 7] (fun n i wr => ∃ t : Nat, t ≤ 8 ∧ t ≤ R.length ∧ i = .int .i64 t ∧ n = .int .u64 (num (R.take t) 0) ∧ Src M wr P B F D ao cap l d (p + t) ∧ w.grownBy wr (some P)) (fun _ i _ => 8 - (intOf i).toNat)
  case atStart => exact ⟨0, by omega, by omega, rfl, rfl, h, moved_refl _ _⟩
  case round =>
    obtain ⟨t, ht, htR, rfl, rfl, hs, hg⟩ := hrel
    clear h
    by_cases h8 : t < 8
    · have hra : rest l d (p + t) = R.drop t := by rw [rest_add, HR.out]
      cases hd : R.drop t with
      | nil =>
        have c49 := turned1_end hs (by rw [hra, hd])
        have hlen : R.length < 8 := by
          have := List.drop_eq_nil_iff.1 hd
          omega
        have HL := Lib.hid hlen
        clear hra hd hs hlen
        generalize ((turnB d 0).toNat : Int) = q at c49
        go_wp2_with fail
        refine c49.mono ?_
        rintro e w1 ⟨rfl, rfl⟩
        clear c49
        go_wp2_with fail
        go_ret2
        unfold NumPost
        rw [if_pos HL.out]
        exact ⟨rfl, hg, fun h => by cases h⟩
      | cons c r =>
        have c49 := turned1_more hs c r (by rw [hra, hd])
        have hnt := Lib.hid (num_take R t c r hd)
        have hn7 := num7 R t (by omega)
        have htl : t + 1 ≤ R.length := by
          have := congrArg List.length hd
          simp at this; omega
        have hor := Lib.hid (or_byte (num (R.take t) 0) c hn7.1 hn7.2)
        obtain ⟨N, hN⟩ : ∃ N, num (R.take t) 0 = N := ⟨_, rfl⟩
        obtain ⟨N2, hN2⟩ : ∃ N2, num (R.take (t + 1)) 0 = N2 := ⟨_, rfl⟩
        rw [hN] at hnt hn7 hor ⊢
        rw [hN2] at hnt
        have hn0 := hn7.1
        have hn1 : N ≤ 72057594037927935 := by have := hn7.2; unfold two56 at this; omega
        have HN2 := Lib.hid hN2
        clear hra hd hs hN hN2 hn7
        go_wp2_with fail
        refine c49.mono ?_
        rintro e w1 ⟨rfl, hs, hg2⟩
        clear c49
        go_wp2_with fail
        go_roundw
        case rel => exact ⟨t + 1, by omega, htl, by go_num, by rw [hor.out, HN2.out, hnt.out], hs, grown_trans hg hg2⟩
        case measure => simp [intOf]; omega
    · have hge : ¬ R.length < 8 := by omega
      obtain rfl : t = 8 := by omega
      have HL := Lib.hid hge
      clear hge
      go_wp2_with fail
      go_ret2
      unfold NumPost
      rw [if_neg HL.out]
      exact ⟨rfl, hg, fun _ => hs⟩

/-! ### texts -/
theorem tbyte_err {r acc : List UInt8} {k : Nat} (h : (tbyte r).e ≠ 0) : txt r acc k = .err (tbyte r).e := by
  match r with
  | [] => rfl
  | c :: l =>
    by_cases hc : c = 0
    · subst hc
      match l with
      | [] => simp [txt, tbyte]
      | m :: l' =>
        by_cases h1 : m = 255
        · simp [tbyte, h1] at h
        · by_cases h2 : m = 1
          · simp [tbyte, h2] at h
          · simp [txt, tbyte, h1, h2]
    · simp [tbyte, hc] at h
theorem tbyte_ends {r acc : List UInt8} {k : Nat} (h : (tbyte r).e = 0) (he : (tbyte r).ends = true) : txt r acc k = .ok acc (k + (tbyte r).k) := by
  match r with
  | [] => simp [tbyte] at h
  | c :: l =>
    by_cases hc : c = 0
    · subst hc
      match l with
      | [] => simp [tbyte] at h
      | m :: l' =>
        by_cases h1 : m = 255
        · simp [tbyte, h1] at he
        · by_cases h2 : m = 1
          · subst h2; simp [txt, tbyte]
          · simp [tbyte, h1, h2] at h
    · simp [tbyte, hc] at he
theorem tbyte_more {r acc : List UInt8} {k : Nat} (h : (tbyte r).e = 0) (he : (tbyte r).ends = false) : (txt r acc k = if acc.length = 40 then .err 1 else txt (r.drop (tbyte r).k) (acc ++ [(tbyte r).c]) (k + (tbyte r).k)) ∧ 0 < (tbyte r).k ∧ (tbyte r).k ≤ r.length := by
  match r with
  | [] => simp [tbyte] at h
  | c :: l =>
    by_cases hc : c = 0
    · subst hc
      match l with
      | [] => simp [tbyte] at h
      | m :: l' =>
        by_cases h1 : m = 255
        · subst h1; simp [txt, tbyte]
        · by_cases h2 : m = 1
          · simp [tbyte, h2] at he
          · simp [tbyte, h1, h2] at h
    · simp only [tbyte, if_neg hc]
      exact ⟨txt_cons c l acc k hc, by simp, by simp⟩

def _root_.Go.Proofs.YtjllecmlabodaabDoor.CodeMath.TRes.e : TRes → Int
  | .err e => e
  | .ok _ _ => 0
def _root_.Go.Proofs.YtjllecmlabodaabDoor.CodeMath.TRes.str : TRes → ByteArray
  | .err _ => ⟨#[]⟩
  | .ok s _ => ⟨s.toArray⟩
def _root_.Go.Proofs.YtjllecmlabodaabDoor.CodeMath.TRes.k : TRes → Nat
  | .err _ => 0
  | .ok _ k => k

theorem ownB_string {w : World} {base : Nat} {v : Value} {l : List UInt8} (h : OwnB w base v l) : (convert 23 9 v).run Tryd.prog w = .ok (.string ⟨l.toArray⟩) w := by
  rcases h.2 with ⟨rfl, h0⟩ | ⟨g, cap, cur, rfl, _⟩
  · obtain rfl : l = [] := List.eq_nil_of_length_eq_zero h0
    exact run_convert_bytes_nil w 23 5 Tryd.underlying23 Tryd.underlying5 0 0 9 Tryd.underlying9
  · refine run_convert_bytes_back w 23 9 5 ⟨g, 0, none⟩ cap l Tryd.underlying23 Tryd.underlying5 Tryd.underlying9 (fun j hj => ?_)
    have := World.ownsRow.cells h (g := g) rfl j (.int .u8 l[j].toNat) (by simp [cellsB, hj])
    exact this
def placeOf (w : World) (P : Nat) : Nat := match w.cell? ⟨P, 0, none⟩ with
  | some (.int _ q) => q.toNat
  | _ => 0
theorem place_of {M : Nat} {w : World} {P B : Nat} {ao : Option Addr} {cap : Nat} {l : List UInt8} {p : Nat} (h : Rdr M w P B ao cap l p) : placeOf w P = p := by
  unfold placeOf
  rw [cell_of_one h.place]
  simp

set_option maxRecDepth 100000 in
set_option maxHeartbeats 1000000 in
theorem readText_any {M : Nat} {w : World} {P B F D : Nat} {ao : Option Addr} {cap : Nat} {l : List UInt8} {d : Bool} {p : Nat} (h : Src M w P B F D ao cap l d p) (A : TRes) (hA : txt (rest l d p) [] 0 = A) :
    Calls Tryd.prog 64 #[td F D] w (Reads M P B F D ao cap l d p A.k A.e (.tuple #[.string A.str, .int .i64 A.e]) w) := by
  have hPM := h.r.pm
  have hM := h.r.m
  go_enter Tryd.func64, Tryd.ntmps64
  go_wp2
  go_loopw [4] (fun u wr => ∃ (acc : List UInt8) (j : Nat), acc.length ≤ 40 ∧ OwnB wr w.heap.size u acc ∧ Src M wr P B F D ao cap l d (p + j) ∧ w.grownBy wr (some P) ∧ Hid (txt (rest l d (p + j)) acc j = A)) (fun _ wr => l.length - placeOf wr P)
  case atStart => exact ⟨[], 0, by simp, OwnB.nil _ _, h, moved_refl _ _, hA⟩
  case round =>
    obtain ⟨acc, j, hacc, ho, hs, hg, hx⟩ := hrel
    clear h hA
    obtain ⟨t, ht⟩ : ∃ t, tbyte (rest l d (p + j)) = t := ⟨_, rfl⟩
    have c78 := readTextByte_any hs t ht
    have hpl := Lib.hid (place_of hs.r)
    have hlen := rest_length l d (p + j)
    have hx' := hx.out
    clear hx hs
    by_cases he : t.e = 0
    · cases hends : t.ends with
      | true =>
        rw [tbyte_ends (by rw [ht]; exact he) (by rw [ht]; exact hends), ht] at hx'
        have HX := Lib.hid hx'
        rw [he, hends] at c78
        clear hx' he hends hlen ht
        go_wp2_with fail
        refine c78.mono ?_
        rintro e w1 ⟨rfl, hg1, hs1⟩
        have hs2 := hs1 rfl
        have ho1 := ho.moved (Nat.lt_of_lt_of_le hPM hM) hg1
        have hcv := ownB_string ho1
        clear hs1 ho ho1 c78
        go_wp2_with fail
        go_ret2
        rw [← HX.out]
        refine ⟨rfl, grown_trans hg hg1, fun _ => ?_⟩
        show Src M w1 P B F D ao cap l d (p + (j + t.k))
        rw [← Nat.add_assoc]; exact hs2
      | false =>
        obtain ⟨h1, h2, h3⟩ := tbyte_more (acc := acc) (k := j) (by rw [ht]; exact he) (by rw [ht]; exact hends)
        rw [hx', ht] at h1
        rw [ht] at h2 h3
        rw [he, hends] at c78
        obtain ⟨ao', cp', rfl⟩ := ho.shape
        by_cases h40 : acc.length = 40
        · rw [if_pos h40] at h1
          have HX := Lib.hid h1
          rw [h40]
          clear h1 hx' he hends hlen ht h2 h3 h40 ho
          go_wp2_with fail
          refine c78.mono ?_
          rintro e w1 ⟨rfl, hg1, -⟩
          clear c78
          go_wp2_with fail
          go_ret2
          rw [HX.out]
          exact ⟨rfl, grown_trans hg hg1, fun h => by cases h⟩
        · rw [if_neg h40] at h1
          have HX := Lib.hid h1
          have hne : ((acc.length : Int) == 40) = false := by simp; omega
          have hl1 : acc.length ≤ 1000000 := by omega
          have ht40 : (acc ++ [t.c]).length ≤ 40 := by simp; omega
          have hdr : rest l d (p + j + t.k) = (rest l d (p + j)).drop t.k := rest_add _ _ _ _
          have HD := Lib.hid hdr
          have hwr : w.heap.size ≤ wr.heap.size := hg.size
          clear h1 hx' he hends ht h40 hdr
          go_wp2_with fail
          refine c78.mono ?_
          rintro e w1 ⟨rfl, hg1, hs1⟩
          have hs2 := hs1 rfl
          have ho1 := ho.moved (Nat.lt_of_lt_of_le hPM hM) hg1
          have hbb : w.heap.size ≤ w1.heap.size := Nat.le_trans hwr hg1.size
          clear hs1 ho c78
          obtain ⟨n, hn⟩ : ∃ n, acc.length = n := ⟨_, rfl⟩
          rw [hn] at hne ho1 ⊢
          clear hn
          go_wp2_with (first | (at_builtin; refine wpList_append_byte rfl (.tmp 23) (.tmp 25) rfl w.heap.size _ _ rfl ho1 _ t.c _ rfl (by first | rfl | simp) rfl hl1 hbb ?_; intro v1 w2 ho2 hb2 hgg) | fail)
          clear hgg
          have hs3 := hs2.below (hb2.mono hM)
          go_roundw
          case rel => exact ⟨acc ++ [t.c], j + t.k, ht40, ho2, by rw [← Nat.add_assoc]; exact hs3, moved_below (grown_trans hg hg1) hb2, by rw [← Nat.add_assoc, HD.out]; exact HX.out.symm⟩
          case measure =>
            rw [place_of hs3.r, hpl.out]
            omega
    · rw [tbyte_err (by rw [ht]; exact he), ht] at hx'
      have HX := Lib.hid hx'
      have hne : (t.e != 0) = true := by simpa using he
      have HE := Lib.hid he
      clear hx' hlen ht he
      go_wp2_with fail
      refine c78.mono ?_
      rintro e w1 ⟨rfl, hg1, -⟩
      clear c78
      go_wp2_with fail
      go_ret2
      rw [← HX.out]
      exact ⟨rfl, grown_trans hg hg1, fun h => absurd h HE.out⟩
end Go.Proofs.YtjllecmlabodaabDoor
