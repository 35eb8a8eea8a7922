/- Texts of one layer, one behind the other: DA. -/
import Derived.Test.YtpkegjbmnilmdaaDoorProg
import Derived.WalkKit
import Derived.WalkSpells
import Derived.WalkLawsBesides
import Derived.OwnWalk
import Derived.Maps.AppendAt
import Derived.Laws.AppendOwnNone
import Derived.Laws.Concat
import Derived.Laws.OwnMore
import Derived.Deep.QuietTactic
import Derived.BigQuiet
import Derived.RegionTactic
import Derived.Laws.Tables
import Derived.Laws.Rows
import Derived.Deep.WholeRow
import Derived.KernelRfl
/- The tables of the program and of the document, as lists; the calls that make them. -/
namespace Go.Proofs.YtpkegjbmnilmdaaDoor.D
open Go.RowKit
set_option linter.unusedVariables false

/-- A row of the program's table: from, to, status, script, bidi, class, mark, joining. -/
abbrev Rw := Int × Int × Int × Int × Int × Int × Bool × Int
/-- A row of the document's table: from, to, status, shift, a, b, script, bidi, class, mark, joining. -/
abbrev Rr := Int × Int × Int × Int × Int × Int × Int × Int × Int × Bool × Int
/-- A pair: the whole, the first, the second. -/
abbrev Tri := Int × Int × Int
def latin : List Rw := [
  (45, 45, 1, 0, 5, 0, false, 0),
  (46, 46, 1, 0, 6, 0, false, 0),
  (48, 57, 1, 0, 4, 0, false, 0),
  (65, 90, 3, 2, 1, 0, false, 0),
  (95, 95, 1, 0, 0, 0, false, 0),
  (97, 122, 1, 2, 1, 0, false, 0),
  (170, 170, 3, 2, 1, 0, false, 0),
  (173, 173, 2, 0, 9, 0, false, 0),
  (178, 179, 3, 0, 4, 0, false, 0),
  (185, 185, 3, 0, 4, 0, false, 0),
  (186, 186, 3, 2, 1, 0, false, 0),
  (192, 214, 3, 2, 1, 0, false, 0),
  (216, 222, 3, 2, 1, 0, false, 0),
  (223, 223, 4, 2, 1, 0, false, 0),
  (224, 246, 1, 2, 1, 0, false, 0),
  (248, 255, 1, 2, 1, 0, false, 0),
  (376, 376, 3, 2, 1, 0, false, 0),
  (469, 469, 3, 2, 1, 0, false, 0),
  (470, 470, 1, 2, 1, 0, false, 0)]
def greek : List Rw := [
  (768, 772, 1, 1, 8, 230, true, 4),
  (774, 776, 1, 1, 8, 230, true, 4),
  (778, 778, 1, 1, 8, 230, true, 4),
  (803, 803, 1, 1, 8, 220, true, 4),
  (807, 808, 1, 1, 8, 202, true, 4),
  (902, 902, 3, 3, 1, 0, false, 0),
  (904, 906, 3, 3, 1, 0, false, 0),
  (908, 908, 3, 3, 1, 0, false, 0),
  (910, 911, 3, 3, 1, 0, false, 0),
  (913, 929, 3, 3, 1, 0, false, 0),
  (931, 937, 3, 3, 1, 0, false, 0),
  (940, 943, 1, 3, 1, 0, false, 0),
  (945, 961, 1, 3, 1, 0, false, 0),
  (962, 962, 4, 3, 1, 0, false, 0),
  (963, 969, 1, 3, 1, 0, false, 0),
  (972, 974, 1, 3, 1, 0, false, 0),
  (1025, 1025, 3, 4, 1, 0, false, 0),
  (1029, 1030, 3, 4, 1, 0, false, 0),
  (1032, 1032, 3, 4, 1, 0, false, 0),
  (1040, 1071, 3, 4, 1, 0, false, 0),
  (1072, 1103, 1, 4, 1, 0, false, 0),
  (1105, 1105, 1, 4, 1, 0, false, 0),
  (1109, 1110, 1, 4, 1, 0, false, 0),
  (1112, 1112, 1, 4, 1, 0, false, 0)]
def hebrew : List Rw := [
  (1488, 1514, 1, 5, 2, 0, false, 0),
  (1575, 1575, 1, 6, 3, 0, false, 2),
  (1576, 1576, 1, 6, 3, 0, false, 3),
  (1578, 1578, 1, 6, 3, 0, false, 3),
  (1583, 1583, 1, 6, 3, 0, false, 2),
  (1587, 1587, 1, 6, 3, 0, false, 3),
  (1604, 1606, 1, 6, 3, 0, false, 3),
  (1608, 1608, 1, 6, 3, 0, false, 2),
  (1610, 1610, 1, 6, 3, 0, false, 3),
  (1611, 1611, 1, 1, 8, 27, true, 4),
  (1632, 1641, 1, 6, 7, 0, false, 0),
  (1776, 1785, 1, 6, 4, 0, false, 0),
  (2325, 2361, 1, 7, 1, 0, false, 0),
  (2367, 2367, 1, 7, 1, 0, true, 0),
  (2381, 2381, 1, 7, 8, 9, true, 4)]
def later : List Rw := [
  (7776, 7776, 3, 2, 1, 0, false, 0),
  (7777, 7777, 1, 2, 1, 0, false, 0),
  (7778, 7778, 3, 2, 1, 0, false, 0),
  (7779, 7779, 1, 2, 1, 0, false, 0),
  (7784, 7784, 3, 2, 1, 0, false, 0),
  (7785, 7785, 1, 2, 1, 0, false, 0),
  (7838, 7838, 3, 2, 1, 0, false, 0),
  (8204, 8204, 4, 1, 9, 0, false, 0),
  (8205, 8205, 4, 1, 9, 0, false, 5),
  (8486, 8486, 3, 3, 1, 0, false, 0),
  (8490, 8490, 3, 2, 1, 0, false, 0),
  (8491, 8491, 3, 2, 1, 0, false, 0),
  (9731, 9731, 1, 0, 0, 0, false, 0),
  (12290, 12290, 3, 0, 0, 0, false, 0),
  (12353, 12438, 1, 8, 1, 0, false, 0),
  (12449, 12538, 1, 9, 1, 0, false, 0),
  (12540, 12540, 1, 0, 1, 0, false, 0),
  (19968, 20108, 1, 10, 1, 0, false, 0),
  (64257, 64257, 3, 2, 1, 0, false, 0),
  (65285, 65285, 3, 0, 0, 0, false, 0),
  (65293, 65293, 3, 0, 5, 0, false, 0),
  (65294, 65294, 3, 0, 6, 0, false, 0),
  (65295, 65295, 3, 0, 6, 0, false, 0),
  (65296, 65305, 3, 0, 4, 0, false, 0),
  (65313, 65338, 3, 2, 1, 0, false, 0),
  (65345, 65370, 3, 2, 1, 0, false, 0),
  (65377, 65377, 3, 0, 0, 0, false, 0),
  (66560, 66599, 3, 11, 1, 0, false, 0),
  (66600, 66639, 1, 11, 1, 0, false, 0),
  (128512, 128512, 1, 0, 0, 0, false, 0)]
def prs : List Tri := [
  (192, 65, 768),
  (193, 65, 769),
  (194, 65, 770),
  (195, 65, 771),
  (196, 65, 776),
  (197, 65, 778),
  (199, 67, 807),
  (200, 69, 768),
  (201, 69, 769),
  (202, 69, 770),
  (203, 69, 776),
  (204, 73, 768),
  (205, 73, 769),
  (206, 73, 770),
  (207, 73, 776),
  (209, 78, 771),
  (210, 79, 768),
  (211, 79, 769),
  (212, 79, 770),
  (213, 79, 771),
  (214, 79, 776),
  (217, 85, 768),
  (218, 85, 769),
  (219, 85, 770),
  (220, 85, 776),
  (221, 89, 769),
  (224, 97, 768),
  (225, 97, 769),
  (226, 97, 770),
  (227, 97, 771),
  (228, 97, 776),
  (229, 97, 778),
  (231, 99, 807),
  (232, 101, 768),
  (233, 101, 769),
  (234, 101, 770),
  (235, 101, 776),
  (236, 105, 768),
  (237, 105, 769),
  (238, 105, 770),
  (239, 105, 776),
  (241, 110, 771),
  (242, 111, 768),
  (243, 111, 769),
  (244, 111, 770),
  (245, 111, 771),
  (246, 111, 776),
  (249, 117, 768),
  (250, 117, 769),
  (251, 117, 770),
  (252, 117, 776),
  (253, 121, 769),
  (255, 121, 776),
  (376, 89, 776),
  (469, 220, 772),
  (470, 252, 772),
  (902, 913, 769),
  (904, 917, 769),
  (905, 919, 769),
  (906, 921, 769),
  (908, 927, 769),
  (910, 933, 769),
  (911, 937, 769),
  (940, 945, 769),
  (941, 949, 769),
  (942, 951, 769),
  (943, 953, 769),
  (972, 959, 769),
  (973, 965, 769),
  (974, 969, 769),
  (1025, 1045, 776),
  (1049, 1048, 774),
  (1081, 1080, 774),
  (1105, 1077, 776),
  (7776, 83, 775),
  (7777, 115, 775),
  (7778, 83, 803),
  (7779, 115, 803),
  (7784, 7778, 775),
  (7785, 7779, 775)]
def rows0 : List Rr := [
  (45, 45, 1, 0, 0, 0, 0, 5, 0, false, 0),
  (46, 46, 1, 0, 0, 0, 0, 6, 0, false, 0),
  (48, 57, 1, 0, 0, 0, 0, 4, 0, false, 0),
  (65, 90, 3, 32, 0, 0, 2, 1, 0, false, 0),
  (95, 95, 1, 0, 0, 0, 0, 0, 0, false, 0),
  (97, 122, 1, 0, 0, 0, 2, 1, 0, false, 0),
  (170, 170, 3, 0, 97, 0, 2, 1, 0, false, 0),
  (173, 173, 2, 0, 0, 0, 0, 9, 0, false, 0),
  (178, 179, 3, -128, 0, 0, 0, 4, 0, false, 0),
  (185, 185, 3, 0, 49, 0, 0, 4, 0, false, 0),
  (186, 186, 3, 0, 111, 0, 2, 1, 0, false, 0),
  (192, 214, 3, 32, 0, 0, 2, 1, 0, false, 0),
  (216, 222, 3, 32, 0, 0, 2, 1, 0, false, 0),
  (223, 223, 4, 0, 0, 0, 2, 1, 0, false, 0),
  (224, 246, 1, 0, 0, 0, 2, 1, 0, false, 0),
  (248, 255, 1, 0, 0, 0, 2, 1, 0, false, 0),
  (376, 376, 3, 0, 255, 0, 2, 1, 0, false, 0),
  (469, 469, 3, 0, 470, 0, 2, 1, 0, false, 0),
  (470, 470, 1, 0, 0, 0, 2, 1, 0, false, 0),
  (768, 772, 1, 0, 0, 0, 1, 8, 230, true, 4),
  (774, 776, 1, 0, 0, 0, 1, 8, 230, true, 4),
  (778, 778, 1, 0, 0, 0, 1, 8, 230, true, 4),
  (803, 803, 1, 0, 0, 0, 1, 8, 220, true, 4),
  (807, 808, 1, 0, 0, 0, 1, 8, 202, true, 4),
  (902, 902, 3, 0, 940, 0, 3, 1, 0, false, 0),
  (904, 906, 3, 37, 0, 0, 3, 1, 0, false, 0),
  (908, 908, 3, 0, 972, 0, 3, 1, 0, false, 0),
  (910, 911, 3, 63, 0, 0, 3, 1, 0, false, 0),
  (913, 929, 3, 32, 0, 0, 3, 1, 0, false, 0),
  (931, 937, 3, 32, 0, 0, 3, 1, 0, false, 0)]
def rows1 : List Rr := [
  (940, 943, 1, 0, 0, 0, 3, 1, 0, false, 0),
  (945, 961, 1, 0, 0, 0, 3, 1, 0, false, 0),
  (962, 962, 4, 0, 0, 0, 3, 1, 0, false, 0),
  (963, 969, 1, 0, 0, 0, 3, 1, 0, false, 0),
  (972, 974, 1, 0, 0, 0, 3, 1, 0, false, 0),
  (1025, 1025, 3, 0, 1105, 0, 4, 1, 0, false, 0),
  (1029, 1030, 3, 80, 0, 0, 4, 1, 0, false, 0),
  (1032, 1032, 3, 0, 1112, 0, 4, 1, 0, false, 0),
  (1040, 1071, 3, 32, 0, 0, 4, 1, 0, false, 0),
  (1072, 1103, 1, 0, 0, 0, 4, 1, 0, false, 0),
  (1105, 1105, 1, 0, 0, 0, 4, 1, 0, false, 0),
  (1109, 1110, 1, 0, 0, 0, 4, 1, 0, false, 0),
  (1112, 1112, 1, 0, 0, 0, 4, 1, 0, false, 0),
  (1488, 1514, 1, 0, 0, 0, 5, 2, 0, false, 0),
  (1575, 1575, 1, 0, 0, 0, 6, 3, 0, false, 2),
  (1576, 1576, 1, 0, 0, 0, 6, 3, 0, false, 3),
  (1578, 1578, 1, 0, 0, 0, 6, 3, 0, false, 3),
  (1583, 1583, 1, 0, 0, 0, 6, 3, 0, false, 2),
  (1587, 1587, 1, 0, 0, 0, 6, 3, 0, false, 3),
  (1604, 1606, 1, 0, 0, 0, 6, 3, 0, false, 3),
  (1608, 1608, 1, 0, 0, 0, 6, 3, 0, false, 2),
  (1610, 1610, 1, 0, 0, 0, 6, 3, 0, false, 3),
  (1611, 1611, 1, 0, 0, 0, 1, 8, 27, true, 4),
  (1632, 1641, 1, 0, 0, 0, 6, 7, 0, false, 0),
  (1776, 1785, 1, 0, 0, 0, 6, 4, 0, false, 0),
  (2325, 2361, 1, 0, 0, 0, 7, 1, 0, false, 0),
  (2367, 2367, 1, 0, 0, 0, 7, 1, 0, true, 0),
  (2381, 2381, 1, 0, 0, 0, 7, 8, 9, true, 4),
  (7776, 7776, 3, 0, 7777, 0, 2, 1, 0, false, 0),
  (7777, 7777, 1, 0, 0, 0, 2, 1, 0, false, 0)]
def rows2 : List Rr := [
  (7778, 7778, 3, 0, 7779, 0, 2, 1, 0, false, 0),
  (7779, 7779, 1, 0, 0, 0, 2, 1, 0, false, 0),
  (7784, 7784, 3, 0, 7785, 0, 2, 1, 0, false, 0),
  (7785, 7785, 1, 0, 0, 0, 2, 1, 0, false, 0),
  (7838, 7838, 3, 0, 115, 115, 2, 1, 0, false, 0),
  (8204, 8204, 4, 0, 0, 0, 1, 9, 0, false, 0),
  (8205, 8205, 4, 0, 0, 0, 1, 9, 0, false, 5),
  (8486, 8486, 3, 0, 969, 0, 3, 1, 0, false, 0),
  (8490, 8490, 3, 0, 107, 0, 2, 1, 0, false, 0),
  (8491, 8491, 3, 0, 229, 0, 2, 1, 0, false, 0),
  (9731, 9731, 1, 0, 0, 0, 0, 0, 0, false, 0),
  (12290, 12290, 3, 0, 46, 0, 0, 0, 0, false, 0),
  (12353, 12438, 1, 0, 0, 0, 8, 1, 0, false, 0),
  (12449, 12538, 1, 0, 0, 0, 9, 1, 0, false, 0),
  (12540, 12540, 1, 0, 0, 0, 0, 1, 0, false, 0),
  (19968, 20108, 1, 0, 0, 0, 10, 1, 0, false, 0),
  (64257, 64257, 3, 0, 102, 105, 2, 1, 0, false, 0),
  (65285, 65285, 3, 0, 37, 0, 0, 0, 0, false, 0),
  (65293, 65293, 3, 0, 45, 0, 0, 5, 0, false, 0),
  (65294, 65294, 3, 0, 46, 0, 0, 6, 0, false, 0),
  (65295, 65295, 3, 0, 47, 0, 0, 6, 0, false, 0),
  (65296, 65305, 3, -65248, 0, 0, 0, 4, 0, false, 0),
  (65313, 65338, 3, -65216, 0, 0, 2, 1, 0, false, 0),
  (65345, 65370, 3, -65248, 0, 0, 2, 1, 0, false, 0),
  (65377, 65377, 3, 0, 46, 0, 0, 0, 0, false, 0),
  (66560, 66599, 3, 40, 0, 0, 11, 1, 0, false, 0),
  (66600, 66639, 1, 0, 0, 0, 11, 1, 0, false, 0),
  (128512, 128512, 1, 0, 0, 0, 0, 0, 0, false, 0)]
def pairs0 : List Tri := [
  (192, 65, 768),
  (193, 65, 769),
  (194, 65, 770),
  (195, 65, 771),
  (196, 65, 776),
  (197, 65, 778),
  (199, 67, 807),
  (200, 69, 768),
  (201, 69, 769),
  (202, 69, 770),
  (203, 69, 776),
  (204, 73, 768),
  (205, 73, 769),
  (206, 73, 770),
  (207, 73, 776),
  (209, 78, 771),
  (210, 79, 768),
  (211, 79, 769),
  (212, 79, 770),
  (213, 79, 771),
  (214, 79, 776),
  (217, 85, 768),
  (218, 85, 769),
  (219, 85, 770),
  (220, 85, 776),
  (221, 89, 769),
  (224, 97, 768),
  (225, 97, 769),
  (226, 97, 770),
  (227, 97, 771),
  (228, 97, 776),
  (229, 97, 778),
  (231, 99, 807),
  (232, 101, 768),
  (233, 101, 769),
  (234, 101, 770),
  (235, 101, 776),
  (236, 105, 768),
  (237, 105, 769),
  (238, 105, 770)]
def pairs1 : List Tri := [
  (239, 105, 776),
  (241, 110, 771),
  (242, 111, 768),
  (243, 111, 769),
  (244, 111, 770),
  (245, 111, 771),
  (246, 111, 776),
  (249, 117, 768),
  (250, 117, 769),
  (251, 117, 770),
  (252, 117, 776),
  (253, 121, 769),
  (255, 121, 776),
  (376, 89, 776),
  (469, 220, 772),
  (470, 252, 772),
  (902, 913, 769),
  (904, 917, 769),
  (905, 919, 769),
  (906, 921, 769),
  (908, 927, 769),
  (910, 933, 769),
  (911, 937, 769),
  (940, 945, 769),
  (941, 949, 769),
  (942, 951, 769),
  (943, 953, 769),
  (972, 959, 769),
  (973, 965, 769),
  (974, 969, 769),
  (1025, 1045, 776),
  (1049, 1048, 774),
  (1081, 1080, 774),
  (1105, 1077, 776),
  (7776, 83, 775),
  (7777, 115, 775),
  (7778, 83, 803),
  (7779, 115, 803),
  (7784, 7778, 775),
  (7785, 7779, 775)]

def cells8 (x : Rw) : List Value := [.int .i32 x.1, .int .i32 x.2.1, .int .u8 x.2.2.1, .int .u8 x.2.2.2.1, .int .u8 x.2.2.2.2.1, .int .u8 x.2.2.2.2.2.1, .bool x.2.2.2.2.2.2.1, .int .u8 x.2.2.2.2.2.2.2]
def cells11 (x : Rr) : List Value := [.int .i32 x.1, .int .i32 x.2.1, .int .u8 x.2.2.1, .int .i32 x.2.2.2.1, .int .i32 x.2.2.2.2.1, .int .i32 x.2.2.2.2.2.1, .int .u8 x.2.2.2.2.2.2.1, .int .u8 x.2.2.2.2.2.2.2.1, .int .u8 x.2.2.2.2.2.2.2.2.1, .bool x.2.2.2.2.2.2.2.2.2.1, .int .u8 x.2.2.2.2.2.2.2.2.2.2]
def cells3 (x : Tri) : List Value := [.int .i32 x.1, .int .i32 x.2.1, .int .i32 x.2.2]
def flat8 (l : List Rw) : List Value := l.flatMap cells8
def flat11 (l : List Rr) : List Value := l.flatMap cells11
def flat3 (l : List Tri) : List Value := l.flatMap cells3

/-- The slots behind a row of literals. -/
def runBuilds (P : Program) : List Oper → Act → Option Act
  | [], a => some a
  | o :: rest, a =>
    match o.guard, o.op with
    | none, .build t parts =>
      match P.built t (parts.map fun (i, x) => (i, a.eval x)).toList with
      | some cells => runBuilds P rest (a.put o.dst (.agg cells))
      | none => none
    | _, _ => none

theorem wpList_builds {P : Program} {ops : Array Oper} {Q : Exit → Act → World → Prop} {w : World} {rest : List Oper} : ∀ (bs : List Oper) (a a' : Act), runBuilds P bs a = some a' → wpList P ops Q rest a' w → wpList P ops Q (bs ++ rest) a w
  | [], a, a', h, hk => by simp only [runBuilds, Option.some.injEq] at h; subst h; exact hk
  | o :: bs, a, a', h, hk => by
    unfold runBuilds at h
    split at h
    · rename_i t parts hg ho
      split at h
      · rename_i cells hc
        refine wpList_build hg t parts ho (by rw [hc]; rfl) ?_
        rw [hc]
        exact wpList_builds bs _ a' h hk
      · cases h
    · cases h
theorem wpList_builds_n {P : Program} {ops : Array Oper} {Q : Exit → Act → World → Prop} {a : Act} {w : World} {l : List Oper} (n : Nat) (x y : Operand) (vx vy : Value)
    (hb : (runBuilds P (l.take n) a).map (fun a' => (a'.eval x, a'.eval y, a'.defers)) = some (vx, vy, a.defers))
    (h : ∀ a', a'.eval x = vx → a'.eval y = vy → a'.defers = a.defers → wpList P ops Q (l.drop n) a' w) : wpList P ops Q l a w := by
  cases hr : runBuilds P (l.take n) a with
  | none => rw [hr] at hb; cases hb
  | some a' =>
    rw [hr] at hb
    simp only [Option.map_some, Option.some.injEq, Prod.mk.injEq] at hb
    have := wpList_builds (P := P) (ops := ops) (Q := Q) (w := w) (rest := l.drop n) (l.take n) a a' hr (h a' hb.1 hb.2.1 hb.2.2)
    rwa [List.take_append_drop] at this
theorem wpList_alloc_great {P : Program} {ops : Array Oper} {Q : Exit → Act → World → Prop} {a : Act} {w : World} {rest : List Oper} {o : Oper} (hg : o.guard = none) (ty : TypeId) (ho : o.op = .alloc ty) (z : Array Value)
    (hz : ∀ w, (zeroValue ty).run P w = .ok (.agg z) w)
    (h : wpList P ops Q rest (a.put o.dst (.pointer (some ⟨w.heap.size, 0, none⟩))) (w.alloc (.cells z ty))) : wpList P ops Q (o :: rest) a w := by
  refine wpList_plain hg fun K hK => ?_
  unfold Oper.wp execOp
  simp only [ho]
  simp [Instr.alloc, hz, go_sem]
  exact hK _ _ h

set_option maxRecDepth 100000 in
set_option maxHeartbeats 1600000 in
theorem latin_any (w : World) :
    Calls Tryd.prog 71 #[] w fun e W' => e = .returned (.agg (flat8 latin).toArray) ∧ Below w.heap.size w W' := by
  obtain ⟨z, hz, hzs⟩ : ∃ z : Array Value, (∀ w, (zeroValue 93).run Tryd.prog w = .ok (.agg z) w) ∧ z.size = 152 := by
    refine ⟨(flat8 (List.replicate 19 (0, 0, 0, 0, 0, 0, false, 0))).toArray, ?_, ?_⟩
    · exact (zero_of_info (P := Tryd.prog) (t := 93) (n := 152) (by kernel_rfl)).1
    · kernel_rfl
  have hi : (Tryd.prog.info? 93).map (·.size) = some (flat8 latin).toArray.size := by kernel_rfl
  have hi2 : (flat8 latin).toArray.size = 152 := by kernel_rfl
  have h1 : (flat8 latin).toArray.all (·.oneCell') = true := by kernel_rfl
  go_enter Tryd.func71, Tryd.ntmps71
  refine wp_seq (wp_region_lit ?_)
  refine wpList_alloc_great rfl 93 rfl z hz (wpList_nil ?_)
  refine wp_seq (wp_region_lit ?_)
  refine wpList_builds_n 20 (.tmp 0) (.tmp 20) (.pointer (some ⟨w.heap.size, 0, none⟩)) (.agg (flat8 latin).toArray) (by kernel_rfl) ?_
  intro a' h0 h20 hd
  refine wpList_store_row rfl 93 (.tmp 0) (.tmp 20) rfl w.heap.size _ h0 h20 93 z (heap_alloc_last w _) hi (by rw [hzs, hi2]) h1 (wpList_nil ?_)
  rw [World.setRow_alloc_new]
  refine wp_ret ?_
  exact bodyPost_ret (results_cell_row Tryd.results71 _ _ w.heap.size 93 (flat8 latin).toArray (0, 0) _ h0 (heap_alloc_last w _) Tryd.underlying93 rfl hi) hd ⟨rfl, (Below.refl _ w).alloc (Nat.le_refl _) _⟩

set_option maxRecDepth 100000 in
set_option maxHeartbeats 1600000 in
theorem greek_any (w : World) :
    Calls Tryd.prog 73 #[] w fun e W' => e = .returned (.agg (flat8 greek).toArray) ∧ Below w.heap.size w W' := by
  obtain ⟨z, hz, hzs⟩ : ∃ z : Array Value, (∀ w, (zeroValue 97).run Tryd.prog w = .ok (.agg z) w) ∧ z.size = 192 := by
    refine ⟨(flat8 (List.replicate 24 (0, 0, 0, 0, 0, 0, false, 0))).toArray, ?_, ?_⟩
    · exact (zero_of_info (P := Tryd.prog) (t := 97) (n := 192) (by kernel_rfl)).1
    · kernel_rfl
  have hi : (Tryd.prog.info? 97).map (·.size) = some (flat8 greek).toArray.size := by kernel_rfl
  have hi2 : (flat8 greek).toArray.size = 192 := by kernel_rfl
  have h1 : (flat8 greek).toArray.all (·.oneCell') = true := by kernel_rfl
  go_enter Tryd.func73, Tryd.ntmps73
  refine wp_seq (wp_region_lit ?_)
  refine wpList_alloc_great rfl 97 rfl z hz (wpList_nil ?_)
  refine wp_seq (wp_region_lit ?_)
  refine wpList_builds_n 25 (.tmp 0) (.tmp 25) (.pointer (some ⟨w.heap.size, 0, none⟩)) (.agg (flat8 greek).toArray) (by kernel_rfl) ?_
  intro a' h0 h20 hd
  refine wpList_store_row rfl 97 (.tmp 0) (.tmp 25) rfl w.heap.size _ h0 h20 97 z (heap_alloc_last w _) hi (by rw [hzs, hi2]) h1 (wpList_nil ?_)
  rw [World.setRow_alloc_new]
  refine wp_ret ?_
  exact bodyPost_ret (results_cell_row Tryd.results73 _ _ w.heap.size 97 (flat8 greek).toArray (0, 0) _ h0 (heap_alloc_last w _) Tryd.underlying97 rfl hi) hd ⟨rfl, (Below.refl _ w).alloc (Nat.le_refl _) _⟩

set_option maxRecDepth 100000 in
set_option maxHeartbeats 1600000 in
theorem hebrew_any (w : World) :
    Calls Tryd.prog 74 #[] w fun e W' => e = .returned (.agg (flat8 hebrew).toArray) ∧ Below w.heap.size w W' := by
  obtain ⟨z, hz, hzs⟩ : ∃ z : Array Value, (∀ w, (zeroValue 99).run Tryd.prog w = .ok (.agg z) w) ∧ z.size = 120 := by
    refine ⟨(flat8 (List.replicate 15 (0, 0, 0, 0, 0, 0, false, 0))).toArray, ?_, ?_⟩
    · exact (zero_of_info (P := Tryd.prog) (t := 99) (n := 120) (by kernel_rfl)).1
    · kernel_rfl
  have hi : (Tryd.prog.info? 99).map (·.size) = some (flat8 hebrew).toArray.size := by kernel_rfl
  have hi2 : (flat8 hebrew).toArray.size = 120 := by kernel_rfl
  have h1 : (flat8 hebrew).toArray.all (·.oneCell') = true := by kernel_rfl
  go_enter Tryd.func74, Tryd.ntmps74
  refine wp_seq (wp_region_lit ?_)
  refine wpList_alloc_great rfl 99 rfl z hz (wpList_nil ?_)
  refine wp_seq (wp_region_lit ?_)
  refine wpList_builds_n 16 (.tmp 0) (.tmp 16) (.pointer (some ⟨w.heap.size, 0, none⟩)) (.agg (flat8 hebrew).toArray) (by kernel_rfl) ?_
  intro a' h0 h20 hd
  refine wpList_store_row rfl 99 (.tmp 0) (.tmp 16) rfl w.heap.size _ h0 h20 99 z (heap_alloc_last w _) hi (by rw [hzs, hi2]) h1 (wpList_nil ?_)
  rw [World.setRow_alloc_new]
  refine wp_ret ?_
  exact bodyPost_ret (results_cell_row Tryd.results74 _ _ w.heap.size 99 (flat8 hebrew).toArray (0, 0) _ h0 (heap_alloc_last w _) Tryd.underlying99 rfl hi) hd ⟨rfl, (Below.refl _ w).alloc (Nat.le_refl _) _⟩

set_option maxRecDepth 100000 in
set_option maxHeartbeats 1600000 in
theorem later_any (w : World) :
    Calls Tryd.prog 75 #[] w fun e W' => e = .returned (.agg (flat8 later).toArray) ∧ Below w.heap.size w W' := by
  obtain ⟨z, hz, hzs⟩ : ∃ z : Array Value, (∀ w, (zeroValue 101).run Tryd.prog w = .ok (.agg z) w) ∧ z.size = 240 := by
    refine ⟨(flat8 (List.replicate 30 (0, 0, 0, 0, 0, 0, false, 0))).toArray, ?_, ?_⟩
    · exact (zero_of_info (P := Tryd.prog) (t := 101) (n := 240) (by kernel_rfl)).1
    · kernel_rfl
  have hi : (Tryd.prog.info? 101).map (·.size) = some (flat8 later).toArray.size := by kernel_rfl
  have hi2 : (flat8 later).toArray.size = 240 := by kernel_rfl
  have h1 : (flat8 later).toArray.all (·.oneCell') = true := by kernel_rfl
  go_enter Tryd.func75, Tryd.ntmps75
  refine wp_seq (wp_region_lit ?_)
  refine wpList_alloc_great rfl 101 rfl z hz (wpList_nil ?_)
  refine wp_seq (wp_region_lit ?_)
  refine wpList_builds_n 31 (.tmp 0) (.tmp 31) (.pointer (some ⟨w.heap.size, 0, none⟩)) (.agg (flat8 later).toArray) (by kernel_rfl) ?_
  intro a' h0 h20 hd
  refine wpList_store_row rfl 101 (.tmp 0) (.tmp 31) rfl w.heap.size _ h0 h20 101 z (heap_alloc_last w _) hi (by rw [hzs, hi2]) h1 (wpList_nil ?_)
  rw [World.setRow_alloc_new]
  refine wp_ret ?_
  exact bodyPost_ret (results_cell_row Tryd.results75 _ _ w.heap.size 101 (flat8 later).toArray (0, 0) _ h0 (heap_alloc_last w _) Tryd.underlying101 rfl hi) hd ⟨rfl, (Below.refl _ w).alloc (Nat.le_refl _) _⟩

set_option maxRecDepth 100000 in
set_option maxHeartbeats 1600000 in
theorem prs_any (w : World) :
    Calls Tryd.prog 90 #[] w fun e W' => e = .returned (.agg (flat3 prs).toArray) ∧ Below w.heap.size w W' := by
  obtain ⟨z, hz, hzs⟩ : ∃ z : Array Value, (∀ w, (zeroValue 115).run Tryd.prog w = .ok (.agg z) w) ∧ z.size = 240 := by
    refine ⟨(flat3 (List.replicate 80 (0, 0, 0))).toArray, ?_, ?_⟩
    · exact (zero_of_info (P := Tryd.prog) (t := 115) (n := 240) (by kernel_rfl)).1
    · kernel_rfl
  have hi : (Tryd.prog.info? 115).map (·.size) = some (flat3 prs).toArray.size := by kernel_rfl
  have hi2 : (flat3 prs).toArray.size = 240 := by kernel_rfl
  have h1 : (flat3 prs).toArray.all (·.oneCell') = true := by kernel_rfl
  go_enter Tryd.func90, Tryd.ntmps90
  refine wp_seq (wp_region_lit ?_)
  refine wpList_alloc_great rfl 115 rfl z hz (wpList_nil ?_)
  refine wp_seq (wp_region_lit ?_)
  refine wpList_builds_n 81 (.tmp 0) (.tmp 81) (.pointer (some ⟨w.heap.size, 0, none⟩)) (.agg (flat3 prs).toArray) (by kernel_rfl) ?_
  intro a' h0 h20 hd
  refine wpList_store_row rfl 115 (.tmp 0) (.tmp 81) rfl w.heap.size _ h0 h20 115 z (heap_alloc_last w _) hi (by rw [hzs, hi2]) h1 (wpList_nil ?_)
  rw [World.setRow_alloc_new]
  refine wp_ret ?_
  exact bodyPost_ret (results_cell_row Tryd.results90 _ _ w.heap.size 115 (flat3 prs).toArray (0, 0) _ h0 (heap_alloc_last w _) Tryd.underlying115 rfl hi) hd ⟨rfl, (Below.refl _ w).alloc (Nat.le_refl _) _⟩
end Go.Proofs.YtpkegjbmnilmdaaDoor.D
