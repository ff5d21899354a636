package cyclic_test

import (
	"strings"
	"testing"

	"cyclic/cyclic"
)

type printCase struct {
	set   string
	want  string
	errno cyclic.Errno
	place int
}

func checkPrint(t *testing.T, promise string, cases []printCase) {
	t.Helper()
	for _, c := range cases {
		text, errno, place := cyclic.Print(c.set)
		if text != c.want || errno != c.errno || place != c.place {
			t.Errorf("%s: Print(%q) = %q, %d, %d, want %q, %d, %d",
				promise, c.set, text, errno, place, c.want, c.errno, c.place)
		}
	}
}

// refused makes cases of sets with a mark (^) in them: the mark is taken out,
// and where it stood is the place that is asked for.
func refused(errno cyclic.Errno, marked ...string) []printCase {
	var cases []printCase
	for _, m := range marked {
		ahead, behind, _ := strings.Cut(m, "^")
		cases = append(cases, printCase{ahead + behind, "", errno, len(ahead)})
	}
	return cases
}

// someTasks writes so many right tasks, named a, b and so on.
func someTasks(count int) string {
	var out strings.Builder
	for i := range count {
		out.WriteString("task " + string(rune('a'+i)) + " every 6 takes 1 within 6;\n")
	}
	return out.String()
}

func padded(text string, length int, pad string) string {
	return text + strings.Repeat(pad, length-len(text))
}

func TestLongSets(t *testing.T) {
	one := someTasks(1)
	checkPrint(t, "P3, ErrLong", []printCase{
		{padded(one, 399, " "), one, cyclic.OK, 0},
		{padded(one, 400, " "), one, cyclic.OK, 0},
		{padded(one, 400, "\n"), one, cyclic.OK, 0},
		{padded(one, 401, " "), "", cyclic.ErrLong, 0},
		{padded(one, 401, "\n"), "", cyclic.ErrLong, 0},
		{strings.Repeat(one, 1<<16), "", cyclic.ErrLong, 0},
		{padded("", 400, " "), "", cyclic.ErrForm, 400},
		{padded("", 400, "?"), "", cyclic.ErrForm, 0},
	})
}

// Wrong in several ways, and too long: that is told first.
func TestLongComesFirst(t *testing.T) {
	checkPrint(t, "P1, P3, ErrLong", []printCase{
		{padded("", 401, " "), "", cyclic.ErrLong, 0},
		{padded("?", 401, "\xff"), "", cyclic.ErrLong, 0},
		{padded("task a every", 401, " "), "", cyclic.ErrLong, 0},
		{padded("task a every 0 takes 1 within 1;", 401, " "), "", cyclic.ErrLong, 0},
	})
}

func TestFormOfTasks(t *testing.T) {
	checkPrint(t, "P3, ErrForm", refused(cyclic.ErrForm,
		"^", " \n ^", "^;", "^5", "^a", "^every", "^apart a b;", "^before a b;", "^taska every 5 takes 1 within 5;",
		"^tas", "^tasks a every 5 takes 1 within 5;",
		"task^", "task  \n^", "task ^;", "task ^5 every", "task ^ab every 5", "task ^task every 5",
		"task a^", "task a ^5", "task a ^b", "task a ^ever 5", "task a ^takes 5", "task a ^from 5",
		"task a every^", "task a every ^a", "task a every ^;", "task a every ^from 1",
		"task a every 5^", "task a every 5 ^5", "task a every 5 ^;", "task a every 5 ^within 5 takes 1;",
		"task a every 5 from^", "task a every 5 from ^takes 1", "task a every 5 from 1 ^from 1 takes 1 within 1;",
		"task a every 5 from 1 ^within", "task a every 5 takes^", "task a every 5 takes ^within 5;",
		"task a every 5 takes 1^", "task a every 5 takes 1 ^from 0 within 5;", "task a every 5 takes 1 ^;",
		"task a every 5 takes 1 within^", "task a every 5 takes 1 within ^;",
		"task a every 5 takes 1 within 5^", "task a every 5 takes 1 within 5 \n ^",
		"task a every 5 takes 1 within 5^, task", "task a every 5 takes 1 within 5^:",
		"task a every 5 takes 1 within 5 ^task b every 5 takes 1 within 5;",
		"task a every 5 takes 1 within 5;^;", "task a every 5 takes 1 within 5; ^a", "task a every 5 takes 1 within 5; ^5",
		"task a every 5 takes 1 within 5; task^",
	))
}

func TestFormOfPairs(t *testing.T) {
	two := someTasks(2)
	checkPrint(t, "P3, ErrForm", refused(cyclic.ErrForm,
		two+"^befor a b;", two+"^aparta b;", two+"^beforeab;",
		two+"before^", two+"before ^;", two+"before ^5 a;", two+"before ^ab;", two+"apart ^aa b;",
		two+"before a^", two+"before a ^;", two+"apart a^, b;", two+"apart a ^5;", two+"apart a ^bb;",
		two+"before a b^", two+"before a b ^a;", two+"before a b^,", two+"before a b ^apart a b;",
		two+"apart a b;^;", two+"apart a b; ^task c every 6 takes 1 within 6;",
	))
}

func TestNoTokens(t *testing.T) {
	checkPrint(t, "P3, no token", refused(cyclic.ErrForm,
		"^\x00", "^A", "^\t", "^\r\n", "^\xff", "^é", "^?", "^-1", "^.", "^`", "^{", "^/", "^12345", "  ^\x7f",
		"^Task a every 5 takes 1 within 5;", "^tAsk", "task ^Ask", "task^\ta every 5 takes 1 within 5;", "task ^A every 5 takes 1 within 5;",
		"task a every ^-5 takes 1 within 5;", "task a every 5^.0 takes 1 within 5;", "task a every 5 takes ^+1 within 5;",
		"task a every ^12345 takes 1 within 5;", "task a every ^00005 takes 1 within 5;",
		"task a every 5 takes 1 within ^99999999999999999999;",
		"task a every 5 takes 1 within 5;^\x00", "task a every 5 takes 1 within 5;\n^\r\n",
		"task a every 5 takes 1 within 5; task b^\xc3\xa9",
		// What is no token counts where it comes before a wrong token, and not behind one.
		"task ^? ; every", "task ^; ?", "^12345 ;", "^; 12345",
	))
}

func TestTooManyTasksAndPairs(t *testing.T) {
	six, sixPairs := someTasks(6), strings.Repeat("apart a b;\n", 6)
	checkPrint(t, "P3, MaxTasks and MaxPairs", []printCase{
		{six, six, cyclic.OK, 0},
		{six + sixPairs, six + sixPairs, cyclic.OK, 0},
		{someTasks(2) + sixPairs, someTasks(2) + sixPairs, cyclic.OK, 0},
	})
	checkPrint(t, "P3, MaxTasks and MaxPairs", refused(cyclic.ErrForm,
		six+"^task g every 6 takes 1 within 6;", six+"^task", six+"^task?",
		six+sixPairs+"^apart a b;", six+sixPairs+"^before a b;", six+sixPairs+"^task",
		someTasks(2)+sixPairs+"^before",
	))
}

// Of wrong form and wrong in what it says: the form is told, wherever it is.
func TestFormComesFirst(t *testing.T) {
	checkPrint(t, "P3, ErrForm first", refused(cyclic.ErrForm,
		"task a every 0 takes 1 within 1^",
		"task a every 99 takes 1 within 5; ^?",
		someTasks(1)+"task a every 6 takes 1 within 6;^,",
		someTasks(1)+"before a a; before x y^",
		someTasks(1)+"task b every 59 takes 1 within 5; ^x",
		"task a every 61 takes ^12345 within 1;",
	))
}

func TestNames(t *testing.T) {
	two := someTasks(2)
	checkPrint(t, "P3, ErrName", refused(cyclic.ErrName,
		someTasks(1)+"task ^a every 6 takes 1 within 6;",
		two+"task ^a every 6 takes 1 within 6;", two+"task ^b every 7 takes 1 within 6;",
		someTasks(5)+"task ^e every 6 takes 1 within 6;",
		two+"before ^c a;", two+"before a ^c;", two+"apart ^z b;", two+"apart b ^z;",
		two+"before ^z z;", two+"apart ^z z;", two+"before ^x y;",
		two+"before a b; apart b a; apart a ^c;",
	))
	checkPrint(t, "P3, names", []printCase{
		{"task z every 6 takes 1 within 6;", "task z every 6 takes 1 within 6;\n", cyclic.OK, 0},
		{two + "before b a;", two + "before b a;\n", cyclic.OK, 0},
	})
}

func TestWrongTimes(t *testing.T) {
	checkPrint(t, "P3, ErrTime", refused(cyclic.ErrTime,
		"task a every ^0 takes 1 within 1;", "task a every ^0000 takes 1 within 1;",
		"task a every ^61 takes 1 within 1;", "task a every ^9999 takes 1 within 1;",
		"task a every 5 from ^5 takes 1 within 1;", "task a every 5 from ^6 takes 1 within 1;",
		"task a every 60 from ^9999 takes 1 within 1;", "task a every 1 from ^1 takes 1 within 1;",
		"task a every 5 takes ^0 within 5;", "task a every 5 takes ^0 within 0;", "task a every 5 takes ^6 within 6;",
		"task a every 5 from 0 takes ^6 within 6;", "task a every 5 from 4 takes ^2 within 2;",
		"task a every 5 from 4 takes ^0 within 1;",
		"task a every 5 takes 1 within ^0;", "task a every 5 takes 3 within ^2;", "task a every 5 takes 3 within ^6;",
		"task a every 5 from 2 takes 2 within ^1;", "task a every 5 from 2 takes 2 within ^4;",
		"task a every 60 takes 60 within ^59;", "task a every 60 takes 60 within ^61;",
		// Each number is wrong: the first one's place is told.
		"task a every ^0 from 9 takes 0 within 0;", "task a every ^99 from 99 takes 0 within 0;",
		"task a every 9 from ^9 takes 0 within 0;", "task a every 9 from 8 takes ^2 within 0;",
		"task a every   \n ^61 takes 1 within 1;",
		someTasks(5)+"task f every 6 takes ^7 within 6;",
	))
}

func TestRightTimes(t *testing.T) {
	for _, set := range []string{
		"task a every 1 takes 1 within 1;\n",
		"task a every 60 takes 60 within 60;\n",
		"task a every 60 takes 1 within 1;\n",
		"task a every 60 takes 1 within 60;\n",
		"task a every 60 from 59 takes 1 within 1;\n",
		"task a every 5 from 4 takes 1 within 1;\n",
		"task a every 5 from 2 takes 3 within 3;\n",
		"task a every 5 from 2 takes 1 within 3;\n",
		"task a every 5 takes 5 within 5;\n",
	} {
		checkPrint(t, "P3, times", []printCase{{set, set, cyclic.OK, 0}})
	}
}

func TestWrongPairs(t *testing.T) {
	two := someTasks(2)
	mixed := two + "task c every 12 takes 1 within 12;\n"
	checkPrint(t, "P3, ErrPair", refused(cyclic.ErrPair,
		two+"before a ^a;", two+"before b ^b;", two+"apart a ^a;", two+"apart b ^b;",
		mixed+"before a ^c;", mixed+"before c ^b;", mixed+"before c ^c;", mixed+"apart c ^c;",
		two+"before a b; before b a; apart a ^a;",
	))
	checkPrint(t, "P3, pairs", []printCase{
		{mixed + "apart a c;\n", mixed + "apart a c;\n", cyclic.OK, 0},
		{mixed + "apart c a;\n", mixed + "apart c a;\n", cyclic.OK, 0},
		{two + "before a b;\nbefore b a;\n", two + "before a b;\nbefore b a;\n", cyclic.OK, 0},
		{two + "apart a b;\nbefore a b;\napart a b;\n", two + "apart a b;\nbefore a b;\napart a b;\n", cyclic.OK, 0},
	})
}

// Of several wrong names, times and pairs the least place is told.
func TestLeastPlace(t *testing.T) {
	two := someTasks(2)
	checkPrint(t, "P3, the least place", refused(cyclic.ErrName,
		two+"task ^a every 0 takes 1 within 1;", two+"task ^a every 6 takes 1 within 6; before a a;",
		two+"before ^c a; before a a;", two+"apart a ^c; apart b b;",
		two+"task ^b every 12 takes 1 within 12; before a b;",
	))
	checkPrint(t, "P3, the least place", refused(cyclic.ErrTime,
		"task a every ^0 takes 1 within 1; task a every 6 takes 1 within 6;",
		"task a every 6 takes 1 within ^7; task b every 0 takes 1 within 1; before a a;",
		"task a every ^61 takes 1 within 6; task b every 6 takes 1 within 6; before a b;",
		"task a every 6 takes ^0 within 6; apart x y;",
	))
	checkPrint(t, "P3, the least place", refused(cyclic.ErrPair,
		two+"before a ^a; before a c;", two+"apart b ^b; apart x y;",
	))
}

func TestCycle(t *testing.T) {
	every := func(periods ...string) string {
		var out strings.Builder
		for i, p := range periods {
			out.WriteString("task " + string(rune('a'+i)) + " every " + p + " takes 1 within 1;\n")
		}
		return out.String()
	}
	for _, set := range []string{
		every("3", "4", "5"), every("12", "20", "30"), every("1", "2", "3", "4", "5", "6"), every("60", "60"),
		every("59", "1"), every("59", "59"), every("7", "8"), every("10", "60", "15", "20", "12", "4"),
	} {
		checkPrint(t, "P3, the cycle", []printCase{{set, set, cyclic.OK, 0}})
	}
	for _, set := range []string{
		every("7", "9"), every("60", "59"), every("3", "4", "7"), every("4", "6", "10", "60", "1", "8"),
		every("2", "31"), every("60", "59", "58", "57", "53", "47"), every("7", "9") + "apart a b;",
	} {
		checkPrint(t, "P3, the cycle", []printCase{{set, "", cyclic.ErrTime, 0}})
	}
	// A cycle above the bound is told only where nothing with a place is wrong.
	checkPrint(t, "P3, the cycle last", refused(cyclic.ErrPair, every("7", "9")+"before a ^b;"))
	checkPrint(t, "P3, the cycle last", refused(cyclic.ErrName, every("7", "9")+"apart a ^c;"))
	checkPrint(t, "P3, the cycle last", refused(cyclic.ErrTime, every("7", "9")+"task c every 3 takes ^4 within 4;"))
}

func TestWrittenOut(t *testing.T) {
	checkPrint(t, "P4", []printCase{
		{"task a every 4takes 1within 4;", "task a every 4 takes 1 within 4;\n", cyclic.OK, 0},
		{"task a every4takes1within4;", "task a every 4 takes 1 within 4;\n", cyclic.OK, 0},
		{"\n task\n\na  every 4 takes\n1 within 4 \n ; \n", "task a every 4 takes 1 within 4;\n", cyclic.OK, 0},
		{"task a every 0004 from 0000 takes 001 within 04;", "task a every 4 takes 1 within 4;\n", cyclic.OK, 0},
		{"task a every 4 from 0 takes 1 within 4;", "task a every 4 takes 1 within 4;\n", cyclic.OK, 0},
		{"task a every 4 from 01 takes 1 within 3;", "task a every 4 from 1 takes 1 within 3;\n", cyclic.OK, 0},
		{"task a every 0020 from 0010 takes 10 within 10;", "task a every 20 from 10 takes 10 within 10;\n", cyclic.OK, 0},
		{
			"task b every 4 takes 1 within 4;task a every 4 takes 1 within 4;apart  b a ;before a\nb;",
			"task b every 4 takes 1 within 4;\ntask a every 4 takes 1 within 4;\napart b a;\nbefore a b;\n", cyclic.OK, 0,
		},
	})
}

// The longest set that can be written out is itself a set that is not too long.
func TestLongestWrittenOut(t *testing.T) {
	var packed, want strings.Builder
	for _, n := range "abcdef" {
		packed.WriteString("task " + string(n) + " every60from20takes10within10;")
		want.WriteString("task " + string(n) + " every 60 from 20 takes 10 within 10;\n")
	}
	packed.WriteString(strings.Repeat("before a b;", 6))
	want.WriteString(strings.Repeat("before a b;\n", 6))
	checkPrint(t, "P4", []printCase{
		{packed.String(), want.String(), cyclic.OK, 0},
		{want.String(), want.String(), cyclic.OK, 0},
	})
}
