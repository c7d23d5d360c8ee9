/- The law FrameLong, walked. -/
import Derived.Test.YtnmbojgjefhoaaaAlive
namespace Go.Proofs.Ytnmbojgjefhoaaa
open Go Go.RowKit
/-- So many bytes 0. -/
def zt (n : Nat) : ByteArray := ⟨(List.replicate n 0).toArray⟩
theorem zt_size (n : Nat) : (zt n).size = n := by
  show (List.replicate n (0 : UInt8)).toArray.size = n
  simp
theorem info5 : (Try.prog.info? 5).map (fun i => (i.zero, i.size, i.bytes)) = some (some (.int .u8 0), 1, 1) := by kernel_rfl
theorem made_text {base n g : Nat} {w : World} (h : w.ownsRow base 5 1 (.slice (some ⟨g, 0, none⟩) n n) n (madeCells (Value.int .u8 0).cells (n * 1)).toList) :
    (convert 40 9 (.slice (some ⟨g, 0, none⟩) n n)).run Try.prog w = .ok (.string (zt n)) w := by
  have key := run_convert_bytes_back (P := Try.prog) w 40 9 5 ⟨g, 0, none⟩ n (List.replicate n 0) Try.underlying40 Try.underlying5 Try.underlying9 (fun j hj => by
    have hj' : j < n := by simpa using hj
    have hadd : (⟨g, 0, none⟩ : Addr).add j = ⟨g, j, none⟩ := by unfold Addr.add; split <;> simp_all
    rw [hadd, World.ownsRow.cellAt h j (by omega)]
    simp [madeCells, hj', Value.cells, Nat.mod_one])
  rw [List.length_replicate] at key
  exact key
set_option maxRecDepth 10000 in
set_option maxHeartbeats 1000000 in
theorem FrameLong_fits (o : Int) (w : World) (h0 : o ≤ 0) (h1 : -128 ≤ o) :
    Calls Try.prog 4 #[.int .i8 o] w fun e w' => e = .returned (.bool true) ∧ Below w.heap.size w w' := by
  obtain ⟨i0, hi, hz0, hz1, hz2⟩ := info_parts info5
  obtain ⟨n, hn⟩ : ∃ n : Nat, 65536 + o = (n : Int) := ⟨(65536 + o).toNat, by omega⟩
  have K1 := hide (fun u => frame_any (zt n) u (by rw [zt_size]; omega))
  have K2 := hide (fun u => read_any (frm (zt n)) u (by rw [frm_size, zt_size]; omega))
  have hr : rdf (frm (zt n)) = (zt n, n + 8, 0) := by
    have h := rdf_frm (zt n) ⟨#[]⟩ (by rw [zt_size]; omega)
    rw [append_nil, zt_size] at h
    exact h
  rw [hr] at K2
  clear hr
  have hsz := zt_size n
  have hnl : (n : Int) ≤ 65536 := by omega
  generalize frm (zt n) = F at *
  have HI := hide (And.intro hi (And.intro hz0 (And.intro hz1 hz2)))
  have HN := hide hn
  have HT : Hid (∀ u : World, u.ownsRow w.heap.size 5 1 (.slice (some ⟨w.heap.size, 0, none⟩) n n) n (madeCells (Value.int .u8 0).cells (n * 1)).toList → (convert 40 9 (.slice (some ⟨w.heap.size, 0, none⟩) n n)).run Try.prog u = .ok (.string (zt n)) u) := fun u h => made_text h
  generalize zt n = Z at *
  clear hi hz0 hz1 hz2 hn
  go_enter Try.func4, Try.ntmps4
  go_wp2_with (at_make; refine wpList_make_full _ rfl _ _ 40 rfl w.heap.size 5 i0 (.int .u8 0) 1 Try.underlying40 HI.out.1 HI.out.2.1 HI.out.2.2.1 .i64 .i64 _ _ n rfl rfl HN.out HN.out (by rw [HI.out.2.2.2]; omega) (by unfold maxLen; omega) (Nat.le_refl _) ?_; intro w1 hown hgrow; have hcv := HT.out _ hown; have HB1 := hide ((Below.refl w.heap.size w).grown hgrow (Nat.le_refl _) (fun k e => by cases e)); clear hown hgrow)
  clear hcv
  refine (K1.out _).mono ?_
  rintro e w2 ⟨rfl, hb⟩
  have HB2 := hide (bnext HB1.out hb)
  clear hb HB1
  go_wp2_with fail
  refine (K2.out _).mono ?_
  rintro e w3 ⟨rfl, hb⟩
  have HB3 := hide (bnext HB2.out hb)
  clear hb HB2
  go_wp2_with fail
  refine (alive_any _).mono ?_
  rintro e w4 ⟨rfl, hb⟩
  have HB4 := hide (bnext HB3.out hb)
  clear hb HB3
  go_wp2
  go_ret
  exact ⟨rfl, HB4.out⟩
set_option maxRecDepth 10000 in
set_option maxHeartbeats 1000000 in
theorem FrameLong_over (o : Int) (w : World) (h0 : 0 < o) (h1 : o ≤ 127) :
    Calls Try.prog 4 #[.int .i8 o] w fun e w' => e = .returned (.bool true) ∧ Below w.heap.size w w' := by
  obtain ⟨i0, hi, hz0, hz1, hz2⟩ := info_parts info5
  obtain ⟨n, hn⟩ : ∃ n : Nat, 65536 + o = (n : Int) := ⟨(65536 + o).toNat, by omega⟩
  have K1 := hide (fun u => frame_long (zt n) u (by rw [zt_size]; omega) (by rw [zt_size]; unfold maxLen; omega))
  have K2 := hide (fun u => read_any (w4 n ++ zt n ++ ⟨#[49, 50, 51, 52]⟩) u (by rw [ByteArray.size_append, ByteArray.size_append, w4_size, zt_size]; show 4 + n + 4 ≤ _; omega))
  have hr : rdf (w4 n ++ zt n ++ ⟨#[49, 50, 51, 52]⟩) = (⟨#[]⟩, 0, 4) := by
    have h4 : num4 (bytesOf (w4 n ++ zt n ++ ⟨#[49, 50, 51, 52]⟩)) = n := by
      rw [append_assoc, bytesOf_append, w4_bytes]
      exact num4_four _ _ (by omega)
    unfold rdf
    rw [h4, if_neg (by rw [ByteArray.size_append, ByteArray.size_append, w4_size]; omega), if_pos (by omega)]
  rw [hr] at K2
  clear hr
  change Hid (∀ u, Calls Try.prog 8 #[.string (zt n)] u fun e w' => e = .returned (.tuple #[.string ⟨#[]⟩, .int .i64 4]) ∧ w' = u) at K1
  have hsz := zt_size n
  have hnl : (65536 : Int) < (n : Int) := by omega
  have hnu : (n : Int) ≤ 65663 := by omega
  have HI := hide (And.intro hi (And.intro hz0 (And.intro hz1 hz2)))
  have HN := hide hn
  have HT : Hid (∀ u : World, u.ownsRow w.heap.size 5 1 (.slice (some ⟨w.heap.size, 0, none⟩) n n) n (madeCells (Value.int .u8 0).cells (n * 1)).toList → (convert 40 9 (.slice (some ⟨w.heap.size, 0, none⟩) n n)).run Try.prog u = .ok (.string (zt n)) u) := fun u h => made_text h
  have HW := hide (fun u : World => word_text u n 0 (by omega))
  rw [show (n : Int) / 65536 % 256 = (n : Int) / 65536 from by omega] at HW
  have hws : (w4 n).size ≤ 4 := Nat.le_refl _
  generalize zt n = Z at *
  generalize w4 n = T at *
  clear hi hz0 hz1 hz2 hn
  go_enter Try.func4, Try.ntmps4
  go_wp2_with (at_make; refine wpList_make_full _ rfl _ _ 40 rfl w.heap.size 5 i0 (.int .u8 0) 1 Try.underlying40 HI.out.1 HI.out.2.1 HI.out.2.2.1 .i64 .i64 _ _ n rfl rfl HN.out HN.out (by rw [HI.out.2.2.2]; omega) (by unfold maxLen; omega) (Nat.le_refl _) ?_; intro w1 hown hgrow; have hcv := HT.out _ hown; have HB1 := hide ((Below.refl w.heap.size w).grown hgrow (Nat.le_refl _) (fun k e => by cases e)); clear hown hgrow)
  clear hcv
  refine (K1.out _).mono ?_
  rintro e w2 ⟨rfl, rfl⟩
  have hw := HW.out w2
  have HB2 := hide (HB1.out.alloc HB1.out.size (.cells #[.int .u8 ((n : Int) % 256), .int .u8 ((n : Int) / 256 % 256), .int .u8 ((n : Int) / 65536), .int .u8 0] 5))
  go_wp2_with fail
  clear hw
  refine (K2.out _).mono ?_
  rintro e w3 ⟨rfl, hb⟩
  have HB3 := hide (bnext HB2.out hb)
  clear hb HB1 HB2
  go_wp2_with fail
  refine (alive_any _).mono ?_
  rintro e w4 ⟨rfl, hb⟩
  have HB4 := hide (bnext HB3.out hb)
  clear hb HB3
  go_wp2
  go_ret
  exact ⟨rfl, HB4.out⟩
theorem FrameLong_any (o : Int) (w : World) (h0 : -128 ≤ o) (h1 : o ≤ 127) :
    Calls Try.prog 4 #[.int .i8 o] w fun e w' => e = .returned (.bool true) ∧ Below w.heap.size w w' := by
  by_cases h : o ≤ 0
  · exact FrameLong_fits o w h h0
  · exact FrameLong_over o w (by omega) h1
end Go.Proofs.Ytnmbojgjefhoaaa
