/- The walk of the law PathCalls. -/
import Derived.Test.YtkffijgmcekboaaDoorPtRefG
namespace Go.Proofs.YtkffijgmcekboaaDoor
open Go.RowKit
open Go.Lib (decDigits)
set_option linter.unusedVariables false

set_option maxRecDepth 100000 in
set_option maxHeartbeats 8000000 in
theorem calls_in (w : World) (s t : List UInt8) (d n : Int) (hs : s.length ≤ maxLen) (ht : t.length ≤ maxLen) (hT : Tab w) :
    Calls Tryd.prog 4 #[.string (S s), .string (S t), .int .i64 d, .int .i64 n] w fun e w' => e = .returned (.bool true) ∧ Nx w w' := by
  have LV := Lib.hid (lives_any w hT)
  have T := Lib.hid hT
  have zs := S_size s
  have zt := S_size t
  clear hT
  unfold maxLen at hs ht
  by_cases hlong : 300 < s.length ∨ (¬ 300 < s.length ∧ 300 < t.length)
  · rcases hlong with h | ⟨h, h1⟩
    all_goals
      have i1 : decide ((300 : Int) < (s.length : Int)) = decide (300 < s.length) := by congr 1; simp; omega
      have i2 : decide ((300 : Int) < (t.length : Int)) = decide (300 < t.length) := by congr 1; simp; omega
      generalize S s = ss at *
      generalize S t = st at *
      go_enter Tryd.func4, Tryd.ntmps4
      go_wp2_with fail
      refine LV.out.mono ?_
      rintro e w0 ⟨rfl, hb⟩
      have H0 := Lib.hid hb
      clear hb LV
      go_wp2
      all_goals go_ret
      all_goals exact ⟨rfl, H0.out⟩
  have l1 : s.length ≤ 300 := by omega
  have l2 : t.length ≤ 300 := by omega
  clear hlong hs ht
  have i1 : ¬ (300 : Int) < (s.length : Int) := by omega
  have i2 : ¬ (300 : Int) < (t.length : Int) := by omega
  obtain ⟨D, N, ok, hM⟩ := mark_ex (parts3 (base (pathOr s))).2.1
  have hC := copied_of hM
  have HC := Lib.hid hC
  have SP := Lib.hid (fun W => split_any W s)
  have RSP := Lib.hid (fun W => rsplit_any W s)
  have EN := Lib.hid (fun W => end_any W s)
  have REN := Lib.hid (fun W => rend_any W s)
  have CP := Lib.hid (fun W h => copy_any W s d n h)
  have RCP := Lib.hid (fun W => rcopy_any W s d n)
  have CD := Lib.hid (fun W => copied_any W s _ D N ok hC)
  have RCD := Lib.hid (fun W => rcopied_any W s)
  have TM := Lib.hid (fun W => temp_any W s)
  have RTM := Lib.hid (fun W => rtemp_any W s)
  have TD := Lib.hid (fun W => temped_any W s)
  have RTD := Lib.hid (fun W => rtemped_any W s (by omega))
  have CK := Lib.hid (fun W => check_any W s)
  have RCK := Lib.hid (fun W => rcheck_any W s)
  have NM := Lib.hid (fun W => name_any W s (by omega))
  have RNM := Lib.hid (fun W => rname_any W s (by omega))
  have WI := Lib.hid (fun W => within_any W t s (by omega))
  have RWI := Lib.hid (fun W => rwithin_any W t s (by omega))
  clear hM hC
  generalize (if ok = true then joined (folder (pathOr s)) ((parts3 (base (pathOr s))).1 ++ (parts3 (base (pathOr s))).2.2) else []) = P at *
  generalize S (folder (pathOr s)) = a1 at *
  generalize S (stem (base (pathOr s))) = a3 at *
  generalize S (ending (base (pathOr s))) = a4 at *
  generalize S (base (pathOr s)) = a2 at *
  generalize S (copyR s d n).1 = a5 at *
  generalize (copyR s d n).2 = a6 at *
  generalize S (tempR s).1 = a7 at *
  generalize (tempR s).2 = a8 at *
  generalize S (tempedR s).1 = a9 at *
  generalize (tempedR s).2 = b1 at *
  generalize chk s = b2 at *
  generalize isName s = b3 at *
  generalize within t s = b4 at *
  generalize S s = ss at *
  generalize S t = st at *
  go_enter Tryd.func4, Tryd.ntmps4
  go_wp2_with fail
  refine LV.out.mono ?_
  rintro e w0 ⟨rfl, hb⟩
  have H0 := Lib.hid hb
  clear hb LV
  go_wp2_with fail
  refine (SP.out w0).mono ?_
  rintro e w1 ⟨rfl, hb⟩
  have H1 := Lib.hid (Nx.trans H0.out hb)
  clear hb H0 SP
  go_wp2_with fail
  refine (RSP.out w1).mono ?_
  rintro e w2 ⟨rfl, hb⟩
  have H2 := Lib.hid (Nx.trans H1.out hb)
  clear hb H1 RSP
  go_wp2_with fail
  refine (EN.out w2).mono ?_
  rintro e w3 ⟨rfl, hb⟩
  have H3 := Lib.hid (Nx.trans H2.out hb)
  clear hb H2 EN
  go_wp2_with fail
  refine (REN.out w3).mono ?_
  rintro e w4 ⟨rfl, hb⟩
  have H4 := Lib.hid (Nx.trans H3.out hb)
  clear hb H3 REN
  go_wp2_with fail
  refine (CP.out w4 (T.out.next H4.out)).mono ?_
  rintro e w5 ⟨rfl, hb⟩
  have H5 := Lib.hid (Nx.trans H4.out hb)
  clear hb H4 CP
  go_wp2_with fail
  refine (RCP.out w5).mono ?_
  rintro e w6 ⟨rfl, hb⟩
  have H6 := Lib.hid (Nx.trans H5.out hb)
  clear hb H5 RCP
  go_wp2_with fail
  refine (CD.out w6).mono ?_
  rintro e w7 ⟨rfl, hb⟩
  have H7 := Lib.hid (Nx.trans H6.out hb)
  clear hb H6 CD
  go_wp2_with fail
  refine (RCD.out w7).mono ?_
  rintro e9 w8 ⟨⟨P', D', N', ok', rfl, hC'⟩, hb⟩
  have H8 := Lib.hid (Nx.trans H7.out hb)
  obtain ⟨rfl, rfl, rfl, rfl⟩ := copied_unique HC.out hC'
  clear hb H7 RCD hC'
  generalize S P = c1 at *
  go_wp2_with fail
  refine (TM.out w8).mono ?_
  rintro e w9 ⟨rfl, hb⟩
  have H9 := Lib.hid (Nx.trans H8.out hb)
  clear hb H8 TM
  go_wp2_with fail
  refine (RTM.out w9).mono ?_
  rintro e w10 ⟨rfl, hb⟩
  have H10 := Lib.hid (Nx.trans H9.out hb)
  clear hb H9 RTM
  go_wp2_with fail
  refine (TD.out w10).mono ?_
  rintro e w11 ⟨rfl, hb⟩
  have H11 := Lib.hid (Nx.trans H10.out hb)
  clear hb H10 TD
  go_wp2_with fail
  refine (RTD.out w11).mono ?_
  rintro e w12 ⟨rfl, hb⟩
  have H12 := Lib.hid (Nx.trans H11.out hb)
  clear hb H11 RTD
  go_wp2_with fail
  refine (CK.out w12).mono ?_
  rintro e w13 ⟨rfl, hb⟩
  have H13 := Lib.hid (Nx.trans H12.out hb)
  clear hb H12 CK
  go_wp2_with fail
  refine (RCK.out w13).mono ?_
  rintro e w14 ⟨rfl, hb⟩
  have H14 := Lib.hid (Nx.trans H13.out hb)
  clear hb H13 RCK
  go_wp2_with fail
  refine (NM.out w14).mono ?_
  rintro e w15 ⟨rfl, hb⟩
  have H15 := Lib.hid (Nx.trans H14.out hb)
  clear hb H14 NM
  go_wp2_with fail
  refine (RNM.out w15).mono ?_
  rintro e9 w99 ⟨rfl, rfl⟩
  clear RNM
  go_wp2_with fail
  refine (WI.out w15).mono ?_
  rintro e w16 ⟨rfl, hb⟩
  have H16 := Lib.hid (Nx.trans H15.out hb)
  clear hb H15 WI
  go_wp2_with fail
  refine (RWI.out w16).mono ?_
  rintro e w17 ⟨rfl, hb⟩
  have H17 := Lib.hid (Nx.trans H16.out hb)
  clear hb H16 RWI
  go_wp2
  all_goals go_ret
  all_goals exact ⟨by simp, H17.out⟩

theorem calls_walk (w : World) (s t : ByteArray) (d n : Int) (hs : s.size ≤ maxLen) (ht : t.size ≤ maxLen) (hd : -9223372036854775808 ≤ d ∧ d ≤ 9223372036854775807) (hn : -9223372036854775808 ≤ n ∧ n ≤ 9223372036854775807) (hT : Tab w) :
    Calls Tryd.prog 4 #[.string s, .string t, .int .i64 d, .int .i64 n] w fun e w' => e = .returned (.bool true) ∧ Nx w w' := by
  have h := calls_in w s.data.toList t.data.toList d n hs ht hT
  rwa [S_of, S_of] at h
end Go.Proofs.YtkffijgmcekboaaDoor
