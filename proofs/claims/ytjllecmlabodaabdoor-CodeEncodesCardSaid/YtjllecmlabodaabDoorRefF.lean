/-
  CONTRACT of the reference's RowBytes.
  CONDITIONS: package unicode/utf8's two tables hold what their initialisers lay ('Tabs'); bytealg's variable MaxLen holds some number ('MaxL').
-/
import Derived.Test.YtjllecmlabodaabDoorRefE
import Derived.Test.YtjllecmlabodaabDoorLawG
namespace Go.Proofs.YtjllecmlabodaabDoor
open Go.RowKit CodeMath
set_option linter.unusedVariables false

theorem firstFault_zero : ∀ l : List V, firstFault l = 0 → ∀ v ∈ l, v.chk = 0
  | [], _, v, hv => by cases hv
  | u :: l, h, v, hv => by
    rw [firstFault_cons] at h
    by_cases hu : u.chk = 0
    · rw [if_pos hu] at h
      rcases List.mem_cons.1 hv with rfl | hv
      · exact hu
      · exact firstFault_zero l h v hv
    · rw [if_neg hu] at h; exact absurd h hu
theorem faults_nil (ao : Option Addr) (cap : Nat) (w : World) :
    Calls Tryd.prog 26 #[.slice ao 0 cap] w fun e w' => e = .returned (.int .i64 0) ∧ Below w.heap.size w w' := by
  go_enter Tryd.func26, Tryd.ntmps26
  go_wp2
  refine wp_loop_rounds 1 ?_
  rw [rounds_succ]
  go_wp2
  go_ret
  exact ⟨rfl, Below.refl _ _⟩
/-- []byte(s). -/
theorem bytesOf (l : List UInt8) (w : World) : ∃ cap W1, (convert 9 23 (.string (str l))).run Tryd.prog w = .ok (.slice (some ⟨w.heap.size, 0, none⟩) l.length cap) W1 ∧ Bytes W1 (some ⟨w.heap.size, 0, none⟩) l ∧ Below w.heap.size w W1 := by
  have hcv := run_bytes_of_string (P := Tryd.prog) w 9 23 5 (str l) Tryd.underlying9 Tryd.underlying23 Tryd.underlying5
  have hsz := str_size l
  generalize hcap : grownCap w (str l).size 0 5 = cap at hcv
  refine ⟨_, _, hcv.trans (by rw [hsz]), .inr ⟨w.heap.size, 0, rfl, by simp, fun j x hx => ?_⟩, (Below.refl w.heap.size w).drew.alloc (Nat.le_refl _) _⟩
  have hj : j < l.length := (List.getElem?_eq_some_iff.1 hx).1
  have h := World.cell?_alloc_mark w.drew (bytesRow (str l) cap) 5 ((bytesRow (str l) cap).size, (bytesRow (str l) cap).size + 1) j
  have e : w.drew.heap.size = w.heap.size := rfl
  rw [e] at h
  rw [Nat.zero_add, h, bytesRow_at (str l) cap j (by show j < (str l).size; rw [hsz]; exact hj)]
  have : (str l).data[j]'(by show j < (str l).size; rw [hsz]; exact hj) = x := by
    have := (List.getElem?_eq_some_iff.1 hx).2
    rw [← this]; rfl
  rw [this]

def RefOk (l : List V) (down : Int) (w : World) (e : Ending) (w' : World) : Prop := ∃ ao cap, e = .returned (.tuple #[.slice ao (encB down l).length cap, .int .i64 (encE l)]) ∧ Bytes w' ao (encB down l) ∧ Below w.heap.size w w'
theorem refOk_bad (l : List V) (down : Int) (w w' : World) (E : Int) (hE : encE l = E) (h0 : ¬ E = 0) (hb : Below w.heap.size w w') : RefOk l down w (.returned (.tuple #[.slice none 0 0, .int .i64 E])) w' := by
  have hB : encB down l = [] := by unfold encB; rw [if_neg (by rw [hE]; exact h0)]
  exact ⟨none, 0, by rw [hB, hE]; rfl, by rw [hB]; exact .inl rfl, hb⟩

set_option maxRecDepth 100000 in
theorem rowBytes_many (l : List V) (ao : Option Addr) (cap : Nat) (down : Int) (w : World) (h5 : 5 < l.length) :
    Calls Tryd.prog 11 #[.slice ao l.length cap, .int .i64 down] w (RefOk l down w) := by
  have hK := fun w' hb => refOk_bad l down w w' 1 (by unfold encE; rw [if_pos h5]) (by decide) hb
  go_enter Tryd.func11, Tryd.ntmps11
  go_wp2
  go_ret2
  exact hK _ (Below.refl _ _)

set_option maxRecDepth 100000 in
set_option maxHeartbeats 2000000 in
theorem rowBytes_bad (l : List V) (ao : Option Addr) (cap : Nat) (down : Int) (w : World) (h5 : l.length ≤ 5) (h0 : ¬ firstFault l = 0) (hv : Vals w ao l) (hT : Tabs w) :
    Calls Tryd.prog 11 #[.slice ao l.length cap, .int .i64 down] w (RefOk l down w) := by
  have hK := fun w' hb => refOk_bad l down w w' (firstFault l) (by unfold encE; rw [if_neg (by omega)]) h0 hb
  have cF : Calls Tryd.prog 26 #[.slice ao l.length cap] w fun e w' => e = .returned (.int .i64 (firstFault l)) ∧ Below w.heap.size w w' := by
    rcases hv.2 with rfl | ⟨a, o, rfl, ha, hc⟩
    · exact faults_nil ao cap w
    · exact faults_any l a o cap w hv.1 (by omega) ha hc hT
  obtain ⟨n, hn⟩ : ∃ n, l.length = n := ⟨_, rfl⟩
  rw [hn] at h5 cF ⊢
  generalize firstFault l = E at hK cF h0
  have kE : (E != 0) = true := by simpa using h0
  have HK := Lib.hid hK
  clear hK h0 hv hT hn
  go_enter Tryd.func11, Tryd.ntmps11
  go_wp2_with fail
  refine cF.mono ?_
  rintro e w1 ⟨rfl, hb⟩
  go_wp2_with fail
  go_ret2
  exact HK.out _ hb

theorem refOk_good (l : List V) (down : Int) (w w' : World) (hE : encE l = 0) (ao : Option Addr) (cap : Nat) (N : Nat) (hN : (upTo down l l.length).length = N) (hy : Bytes w' ao (upTo down l l.length)) (hb : Below w.heap.size w w') : RefOk l down w (.returned (.tuple #[.slice ao N cap, .int .i64 0])) w' := by
  have hB : encB down l = upTo down l l.length := by unfold encB upTo; rw [if_pos hE, List.take_length]
  exact ⟨ao, cap, by rw [hB, hE, hN], by rw [hB]; exact hy, hb⟩

set_option maxRecDepth 100000 in
set_option maxHeartbeats 4000000 in
theorem rowBytes_some (l : List V) (a o cap : Nat) (down : Int) (w : World) (hw : ∀ v ∈ l, v.Fits) (h5 : l.length ≤ 5) (h0 : firstFault l = 0) (ha : a < w.heap.size) (hc : Lies w a o l) (hT : Tabs w) (hM : MaxL w) :
    Calls Tryd.prog 11 #[.slice (some ⟨a, o, none⟩) l.length cap, .int .i64 down] w (RefOk l down w) := by
  have hE : encE l = 0 := by unfold encE; rw [if_neg (by omega), h0]
  have hK := refOk_good l down w
  have cF := faults_any l a o cap w hw (by omega) ha hc hT
  rw [h0] at cF
  have hg := firstFault_zero l h0
  obtain ⟨n, hn⟩ : ∃ n, l.length = n := ⟨_, rfl⟩
  rw [hn] at h5 cF hK ⊢
  have HK := Lib.hid hK
  have HN := Lib.hid hn
  have HC := Lib.hid hc
  have HM := Lib.hid hM
  have HW := Lib.hid hw
  have HG := Lib.hid hg
  have HE := Lib.hid hE
  clear hK hn hc hM hw hg hT h0 hE
  go_enter Tryd.func11, Tryd.ntmps11
  go_wp2_with fail
  refine cF.mono ?_
  rintro e w1 ⟨rfl, hb1⟩
  clear cF
  go_wp2_with fail
  go_loopw [7, 21] (fun s i wr => ∃ j : Nat, j ≤ n ∧ i = .int .i64 j ∧ s = .string (str (upTo down l j)) ∧ Below w.heap.size w wr) (fun _ i _ => n - (intOf i).toNat)
  case atStart => exact ⟨0, Nat.zero_le _, rfl, rfl, hb1⟩
  case round =>
    obtain ⟨j, hj, rfl, rfl, hbw⟩ := hrel
    have hul := upTo_length down l j (by omega) (fun v hv => facts_of v (HW.out v (List.mem_of_mem_take hv)) (HG.out v (List.mem_of_mem_take hv)))
    by_cases h1 : j < n
    · have hlt : j < l.length := by rw [HN.out]; exact h1
      obtain ⟨v, hv⟩ : ∃ v, l[j]? = some v := ⟨l[j], List.getElem?_eq_getElem hlt⟩
      have hfit := HW.out v (List.mem_of_getElem? hv)
      have hchk := HG.out v (List.mem_of_getElem? hv)
      obtain ⟨c0, c1, c2, c3⟩ := HC.out j v hv
      have d0 := (hbw.cell (p := ⟨a, o + j * 4, none⟩) ha).trans c0
      have d1 := (hbw.cell (p := ⟨a, o + j * 4 + 1, none⟩) ha).trans c1
      have d2 := (hbw.cell (p := ⟨a, o + j * 4 + 2, none⟩) ha).trans c2
      have d3 := (hbw.cell (p := ⟨a, o + j * 4 + 3, none⟩) ha).trans c3
      have hM1 : ∀ o, MaxL (wr.alloc o) := fun o => (HM.out.keep hbw).keep ((Below.refl _ _).alloc (Nat.le_refl _) o)
      have cV := fun w => valueBytes_any v.k v.i v.b v.s w hfit hchk
      have eV : enc ⟨v.k, v.i, v.b, v.s.data.toList⟩ = enc v.val := rfl
      rw [eV] at cV
      have hus := upTo_succ down l j v hv
      have hul2 := upTo_length down l (j + 1) (by omega) (fun v hv => facts_of v (HW.out v (List.mem_of_mem_take hv)) (HG.out v (List.mem_of_mem_take hv)))
      rw [hus, List.length_append, turnL_length] at hul2
      have cD := fun w => downs_any down j (by omega) w
      obtain ⟨UQ, hUQ⟩ : ∃ UQ, upTo down l (j + 1) = UQ := ⟨_, rfl⟩
      obtain ⟨EV, hEV⟩ : ∃ EV, enc v.val = EV := ⟨_, rfl⟩
      have HUQ := Lib.hid hUQ
      rw [hEV] at cV hus hul2
      rw [hUQ] at hus
      obtain ⟨UP, hUP⟩ : ∃ UP, upTo down l j = UP := ⟨_, rfl⟩
      rw [hUP] at hul hus hul2 ⊢
      have cFl := fun w => flipped_any EV w (by omega)
      clear eV hUQ hEV hUP c0 c1 c2 c3 hfit hchk hv
      cases hd : dn down j with
      | false =>
        rw [hd] at cD hus
        rw [turnL_false] at hus
        have happ : str UP ++ str EV = str UQ := by rw [str_append, hus]
        have hsz : ¬ 9223372036854775807 < (str UP).size + (str EV).size := by rw [str_size, str_size]; omega
        generalize str UP = S at happ hsz ⊢
        generalize str EV = B at happ hsz cV
        obtain ⟨S2, hS2⟩ : ∃ S2, str UQ = S2 := ⟨_, rfl⟩
        rw [hS2] at happ
        have HS2 := Lib.hid hS2
        clear hS2 hus cFl hd hul hul2
        go_wp2_with fail
        refine (cV _ (hM1 _)).mono ?_
        rintro e w2 ⟨rfl, hb2⟩
        have hbf := (hbw.alloc hbw.size _).trans (hb2.mono (by have := hbw.size; simp; omega))
        clear cV hM1
        go_wp2_with fail
        refine (cD _).mono ?_
        rintro e w3 ⟨rfl, rfl⟩
        clear cD
        go_wp2_with fail
        go_roundw
        case rel => exact ⟨j + 1, by omega, by go_num, by rw [HUQ.out, HS2.out], hbf⟩
        case measure => simp [intOf]; omega
      | true =>
        rw [hd] at cD hus
        have happ : str UP ++ str (turnL true EV) = str UQ := by rw [str_append, hus]
        have hsz : ¬ 9223372036854775807 < (str UP).size + (str (turnL true EV)).size := by rw [str_size, str_size, turnL_length]; omega
        generalize str UP = S at happ hsz ⊢
        generalize str (turnL true EV) = B at happ hsz cFl
        generalize str EV = B0 at cV cFl
        obtain ⟨S2, hS2⟩ : ∃ S2, str UQ = S2 := ⟨_, rfl⟩
        rw [hS2] at happ
        have HS2 := Lib.hid hS2
        clear hS2 hus hd hul hul2
        go_wp2_with fail
        refine (cV _ (hM1 _)).mono ?_
        rintro e w2 ⟨rfl, hb2⟩
        have hbf := (hbw.alloc hbw.size _).trans (hb2.mono (by have := hbw.size; simp; omega))
        clear cV hM1
        go_wp2_with fail
        refine (cD _).mono ?_
        rintro e w3 ⟨rfl, rfl⟩
        clear cD
        go_wp2_with fail
        refine (cFl _).mono ?_
        rintro e w4 ⟨rfl, hb4⟩
        have hbg := hbf.trans (hb4.mono hbf.size)
        clear cFl
        go_wp2_with fail
        go_roundw
        case rel => exact ⟨j + 1, by omega, by go_num, by rw [HUQ.out, HS2.out], hbg⟩
        case measure => simp [intOf]; omega
    · have hjn : j = n := by omega
      subst hjn
      obtain ⟨cap1, W1, hcv, hy, hb2⟩ := bytesOf (upTo down l j) wr
      have hK := HK.out W1 HE.out (some ⟨wr.heap.size, 0, none⟩) cap1 _ rfl hy (hbw.trans (hb2.mono hbw.size))
      have HK2 := Lib.hid hK
      obtain ⟨N, hN⟩ : ∃ N, (upTo down l j).length = N := ⟨_, rfl⟩
      rw [hN] at hcv HK2
      generalize str (upTo down l j) = S at hcv ⊢
      clear hy hb2 hK hul hN
      go_wp2_with fail
      go_ret2
      exact HK2.out

set_option maxRecDepth 100000 in
theorem rowBytes_nil (ao : Option Addr) (cap : Nat) (down : Int) (w : World) :
    Calls Tryd.prog 11 #[.slice ao 0 cap, .int .i64 down] w (RefOk [] down w) := by
  have hK := refOk_good [] down w
  have cF := faults_nil ao cap w
  have hcv : ∀ wr, ∃ cap W1, (convert 9 23 (.string ⟨#[]⟩)).run Tryd.prog wr = .ok (.slice (some ⟨wr.heap.size, 0, none⟩) 0 cap) W1 ∧ Bytes W1 (some ⟨wr.heap.size, 0, none⟩) [] ∧ Below wr.heap.size wr W1 := fun wr => bytesOf [] wr
  have HK := Lib.hid hK
  clear hK
  go_enter Tryd.func11, Tryd.ntmps11
  go_wp2_with fail
  refine cF.mono ?_
  rintro e w1 ⟨rfl, hb1⟩
  obtain ⟨cap1, W1, hcv, hy, hb2⟩ := hcv w1
  clear cF
  go_wp2_with fail
  refine wp_loop_rounds 1 ?_
  rw [rounds_succ]
  go_wp2
  go_ret2
  exact HK.out W1 rfl (some ⟨w1.heap.size, 0, none⟩) cap1 0 rfl hy (hb1.trans (hb2.mono hb1.size))

theorem rowBytes_any (l : List V) (ao : Option Addr) (cap : Nat) (down : Int) (w : World) (hv : Vals w ao l) (hT : Tabs w) (hM : MaxL w) :
    Calls Tryd.prog 11 #[.slice ao l.length cap, .int .i64 down] w (RefOk l down w) := by
  by_cases h5 : 5 < l.length
  · exact rowBytes_many l ao cap down w h5
  · by_cases h0 : firstFault l = 0
    · rcases hv.2 with rfl | ⟨a, o, rfl, ha, hc⟩
      · exact rowBytes_nil ao cap down w
      · exact rowBytes_some l a o cap down w hv.1 (by omega) h0 ha hc hT hM
    · exact rowBytes_bad l ao cap down w (by omega) h0 hv hT
end Go.Proofs.YtjllecmlabodaabDoor
