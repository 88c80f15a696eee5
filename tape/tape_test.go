package tape_test

import (
	"math"
	"slices"
	"strings"
	"testing"

	"quinella/api"
	"quinella/tape"
)

func set(windows int, tapes ...string) api.TapeSet {
	return api.TapeSet{Windows: windows, Tapes: tapes}
}

func nth(window byte, n int) api.TapeImpulse { return api.TapeImpulse{Window: window, Nth: n} }

func list(numbers ...int) []int { return numbers }

func rg(lo, hi int64) api.Range { return api.Range{Lo: lo, Hi: hi} }

// setS is that of the chapter's examples, and tableS its table there.
func setS() api.TapeSet { return set(3, "abc", "acb") }
func tableS() []int     { return list(4, 4, 3, 3, 4, 3, 2, 2, 3, 2, 2, 1, 3, 2, 1, 0) }

// tableWith is that table with another number at a place.
func tableWith(at, number int) []int {
	table := tableS()
	table[at] = number
	return table
}

// apart is three tapes that have nothing in common: no set needs more impulses.
func apart() api.TapeSet {
	return set(3, strings.Repeat("a", 8), strings.Repeat("b", 8), strings.Repeat("c", 8))
}

// full is a set at all its limits.
func full() api.TapeSet { return set(5, "abcdeabc", "edcbaedc", "aabbccdd") }

// farInts are numbers at the ends of their type, and such that look small in fewer bits.
var farInts = []int{math.MinInt64, math.MinInt64 + 1, math.MinInt32, -(1 << 32) + 1, -256, -255, 256, 257, 260, math.MaxInt32, 1<<32 + 1, math.MaxInt64 - 1, math.MaxInt64}

type badSet struct {
	t api.TapeSet
	e api.Errno
}

// badTapes are not valid, with three windows.
var badTapes = []string{
	"d", "A", "`", "\x00", "\xff", "\x80", " ", "é", "a,b", "abcd", "dabc", "abcabcad", "abz", "a\x00", "\xe1", "{", "ab\n", "aあ",
}

// badSets are sets that are not valid, and their errors.
func badSets() []badSet {
	long := "abcabcabc"
	bad := []badSet{
		{api.TapeSet{}, api.ErrArg},
		{set(0, ""), api.ErrArg},
		{set(-1, ""), api.ErrArg},
		{set(6, ""), api.ErrArg},
		{set(6, "abcdef"), api.ErrArg},
		{set(26, "abc"), api.ErrArg},
		{set(0), api.ErrArg},
		{set(6), api.ErrArg},
		{set(0, "", "", "", ""), api.ErrArg},
		{set(0, long), api.ErrArg},
		{set(6, "z"), api.ErrArg},
		{set(6, "z", long, "", ""), api.ErrArg},
		{set(1), api.ErrMany},
		{set(5), api.ErrMany},
		{set(3, "", "", "", ""), api.ErrMany},
		{set(3, "abc", "abc", "abc", "abc"), api.ErrMany},
		{set(3, "abc", "abc", long, "d"), api.ErrMany},
		{set(3, slices.Repeat([]string{"abc"}, 1000)...), api.ErrMany},
		{set(3, long), api.ErrLong},
		{set(1, "aaaaaaaaa"), api.ErrLong},
		{set(3, "", "", long), api.ErrLong},
		{set(3, "", long, ""), api.ErrLong},
		{set(3, "d", "abc", long), api.ErrLong},
		{set(3, "d", long, "d"), api.ErrLong},
		{set(3, long, "d"), api.ErrLong},
		{set(3, "ddddddddd"), api.ErrLong},
		{set(3, strings.Repeat("abc", 1000)), api.ErrLong},
		{set(3, strings.Repeat("a", 256)), api.ErrLong},
		{set(1, "b"), api.ErrForm},
		{set(2, "c"), api.ErrForm},
		{set(4, "e"), api.ErrForm},
		{set(5, "f"), api.ErrForm},
		{set(5, "abcdef"), api.ErrForm},
		{set(5, "z"), api.ErrForm},
	}
	for _, n := range farInts {
		bad = append(bad, badSet{set(n, "abc"), api.ErrArg}, badSet{set(n, ""), api.ErrArg}, badSet{set(n, "z", long), api.ErrArg}, badSet{set(n), api.ErrArg})
	}
	for _, x := range badTapes {
		bad = append(bad, badSet{set(3, x), api.ErrForm}, badSet{set(3, x, "abc", "abc"), api.ErrForm}, badSet{set(3, "", x), api.ErrForm}, badSet{set(3, "abcabcab", "abc", x), api.ErrForm})
	}
	return bad
}

// P10.1
func TestCheckSet(t *testing.T) {
	for i, x := range []api.TapeSet{
		setS(), apart(), full(), set(1, ""), set(5, ""), set(1, "", "", ""), set(1, "a"), set(2, "b"), set(3, "c"), set(4, "d"), set(5, "e"), set(1, "aaaaaaaa"), set(5, "eeeeeeee"), set(5, "abcde", "", "edcba"), set(3, "abc", "abc", "abc"),
	} {
		if e := tape.CheckSet(x); e != api.OK {
			t.Error(i, x, e)
		}
	}
	for i, x := range badSets() {
		if e := tape.CheckSet(x.t); e != x.e {
			t.Error(i, x.t, e)
		}
	}
}

// failsFor reports functions with a length that do not return an error, or return something beside it.
func failsFor(t *testing.T, x api.TapeSet, long int, want api.Errno) {
	t.Helper()
	if n, e := tape.Count(x, long); n != 0 || e != want {
		t.Error("Count", x, long, n, e)
	}
	for _, index := range []int64{-1, 0, 1, math.MaxInt64} {
		if s, e := tape.Night(x, long, index); s != "" || e != want {
			t.Error("Night", x, long, index, s, e)
		}
	}
	for _, window := range []byte{'a', 'b', 'z', 0} {
		if r, e := tape.Pulls(x, long, window); r != rg(0, 0) || e != want {
			t.Error("Pulls", x, long, window, r, e)
		}
	}
	for _, one := range []api.TapeImpulse{nth('a', 1), nth('a', 2), nth('z', 1), nth('a', 0), {}} {
		for _, two := range []api.TapeImpulse{nth('a', 2), nth('a', 21)} {
			if k, e := tape.Kind(x, long, one, two); k != 0 || e != want {
				t.Error("Kind", x, long, one, two, k, e)
			}
		}
	}
	if l, e := tape.Wrong(x, long); len(l) != 0 || e != want {
		t.Error("Wrong", x, long, l, e)
	}
}

// P10.1: all functions return the error of CheckSet before all others, and nothing with it.
func TestBadSets(t *testing.T) {
	for _, x := range badSets() {
		for _, night := range []string{"", "abc", "zzz", strings.Repeat("a", 21)} {
			if has, e := tape.Has(x.t, night); has || e != x.e {
				t.Error("Has", x.t, night, has, e)
			}
		}
		if n, e := tape.Fewest(x.t); n != 0 || e != x.e {
			t.Error("Fewest", x.t, n, e)
		}
		for _, table := range [][]int{nil, list(0), list(-1), list(1), make([]int, 16), make([]int, 730)} {
			if n, e := tape.CheckTable(x.t, table); n != 0 || e != x.e {
				t.Error("CheckTable", x.t, table, n, e)
			}
		}
		if l, e := tape.Table(x.t); len(l) != 0 || e != x.e {
			t.Error("Table", x.t, l, e)
		}
		if s, e := tape.Common(x.t); s != "" || e != x.e {
			t.Error("Common", x.t, s, e)
		}
		for _, long := range []int{-1, 0, 1, 20, 21} {
			failsFor(t, x.t, long, x.e)
		}
	}
}

// Those with a length return ErrRange before all others but the error of CheckSet.
func TestBadLengths(t *testing.T) {
	for _, long := range append(list(-1, -2, -20, 21, 22, 24, 30, 40), farInts...) {
		for _, x := range []api.TapeSet{setS(), apart(), full(), set(1, ""), set(5, "")} {
			failsFor(t, x, long, api.ErrRange)
		}
	}
}

// P10.1
func TestHas(t *testing.T) {
	all := strings.Repeat("abc", 6) + "ab"
	for i, x := range []struct {
		t     api.TapeSet
		night string
		has   bool
		e     api.Errno
	}{
		{setS(), "abcb", true, api.OK},
		{setS(), "acbc", true, api.OK},
		{setS(), "abcc", false, api.OK},
		{setS(), "abc", false, api.OK},
		{setS(), "acb", false, api.OK},
		{setS(), "", false, api.OK},
		{setS(), "cbabccb", true, api.OK},
		{setS(), "cbcab", false, api.OK},
		{setS(), all, true, api.OK},
		{setS(), strings.Repeat("a", 17) + "bcb", true, api.OK},
		{setS(), strings.Repeat("a", 18) + "bc", false, api.OK},
		{setS(), "abd", false, api.ErrForm},
		{setS(), "abcbd", false, api.ErrForm},
		{setS(), "dabcb", false, api.ErrForm},
		{setS(), all[:19] + "d", false, api.ErrForm},
		{setS(), all + "c", false, api.ErrLong},
		{setS(), strings.Repeat("d", 21), false, api.ErrLong},
		{setS(), strings.Repeat("abcb", 64), false, api.ErrLong},
		{setS(), strings.Repeat("abcb", 5000), false, api.ErrLong},
		{set(3, ""), "", true, api.OK},
		{set(3, "", "", ""), "", true, api.OK},
		{set(3, ""), "cab", true, api.OK},
		{set(3, "", "a", ""), "", false, api.OK},
		{set(3, "", "a", ""), "bca", true, api.OK},
		{set(3, "ab", "b", "ca"), "cab", true, api.OK},
		{set(3, "ab", "b", "cb"), "cab", true, api.OK},
		{set(3, "ab", "b", "bc"), "cab", false, api.OK},
		{set(3, "ba", "ab", "ab"), "cab", false, api.OK},
		{set(3, "ab", "ba", "ab"), "cab", false, api.OK},
		{set(3, "aa"), "a", false, api.OK},
		{set(3, "aa", "aa"), "aa", true, api.OK},
		{set(3, "aab"), "aba", false, api.OK},
		{set(1, "aaaaaaaa"), "aaaaaaaa", true, api.OK},
		{set(1, "aaaaaaaa"), "aaaaaaa", false, api.OK},
		{set(1, "a"), "b", false, api.ErrForm},
		{set(5, "eeee"), "abcdeeee", true, api.OK},
		{set(5, "eeee"), "abcdeeef", false, api.ErrForm},
		{apart(), "abcabcabcabcabcabcab", false, api.OK},
		{full(), "aedabbccbdaceedabc", true, api.OK},
	} {
		if has, e := tape.Has(x.t, x.night); has != x.has || e != x.e {
			t.Error(i, x.t, x.night, has, e)
		}
	}
	for _, x := range badTapes {
		if has, e := tape.Has(setS(), x); has || e != api.ErrForm {
			t.Errorf("%q %v %v", x, has, e)
		}
	}
}

// P10.2
func TestFewestAndCommon(t *testing.T) {
	for i, x := range []struct {
		t      api.TapeSet
		fewest int
		common string
	}{
		{setS(), 4, "ab"},
		{set(3, "acb", "abc"), 4, "ab"},
		{set(1, ""), 0, ""},
		{set(5, "", "", ""), 0, ""},
		{set(3, "abc"), 3, "abc"},
		{set(3, "cba"), 3, "cba"},
		{set(3, "cba", "cba", "cba"), 3, "cba"},
		{set(3, "cba", ""), 3, ""},
		{set(3, "cba", "", "cba"), 3, ""},
		{set(1, "a", "aaaaaaaa", "aaa"), 8, "a"},
		{set(1, "aaa", "aa", "aaaa"), 4, "aa"},
		{set(2, "ab", "ba"), 3, "a"},
		{set(2, "ba", "ab"), 3, "a"},
		{set(2, "ab", "ba", "aa"), 3, "a"},
		{set(2, "ab", "ba", "bb"), 3, "b"},
		{set(2, "abab", "baba"), 5, "aba"},
		{set(2, "baba", "abab"), 5, "aba"},
		{set(3, "ab", "bc", "ca"), 4, ""},
		{set(4, "abcd", "badc"), 6, "ac"},
		{set(4, "bacd", "dcab"), 7, "a"},
		{set(4, "cabd", "dcba"), 6, "ca"},
		{set(5, "edcba", "abcde"), 9, "a"},
		{set(5, "edcba", "bcde"), 8, "b"},
		{set(5, "abcde", "eabcd", "deabc"), 7, "abc"},
		{set(2, "aaaabbbb", "bbbbaaaa"), 12, "aaaa"},
		{set(2, "abababab", "babababa", "abababab"), 9, "abababa"},
		{set(3, "aaaaaaaa", "bbbbbbbb"), 16, ""},
		{set(3, "aaaaaaaa", "bbbbbbbb", "aaaaaaaa"), 16, ""},
		{set(3, "ccaaaaaa", "bbbbbbcc", "cc"), 14, "cc"},
		{apart(), 24, ""},
		{set(3, "abc", "abb", "acc"), 5, "a"},
	} {
		if n, e := tape.Fewest(x.t); n != x.fewest || e != api.OK {
			t.Error(i, x.t, n, e)
		}
		if s, e := tape.Common(x.t); s != x.common || e != api.OK {
			t.Error(i, x.t, s, e)
		}
		table, e1 := tape.Table(x.t)
		if n, e := tape.CheckTable(x.t, table); n != x.fewest || e != api.OK || e1 != api.OK {
			t.Error(i, x.t, table, e1, n, e)
		}
	}
}

// P10.3
func TestCheckTable(t *testing.T) {
	noughts := make([]int, 16)
	for i, x := range []struct {
		t     api.TapeSet
		table []int
		n     int
		e     api.Errno
	}{
		{setS(), tableS(), 4, api.OK},
		{setS(), noughts, 0, api.OK},
		{setS(), tableWith(0, 3), 3, api.OK},
		{setS(), tableWith(0, 0), 0, api.OK},
		{setS(), tableWith(0, 5), 0, api.ErrSum},
		{setS(), tableWith(0, 24), 0, api.ErrSum},
		{setS(), tableWith(15, 1), 0, api.ErrSum},
		{setS(), tableWith(14, 2), 0, api.ErrSum},
		{setS(), tableWith(14, 0), 0, api.ErrSum}, // the places before are greater by 2
		{setS(), tableWith(7, 1), 0, api.ErrSum},
		{setS(), tableWith(1, 0), 4, api.OK}, // no place leads to this one
		{setS(), tableWith(0, 25), 0, api.ErrRange},
		{setS(), tableWith(15, -1), 0, api.ErrRange},
		{setS(), tableWith(7, -1), 0, api.ErrRange},
		{setS(), tableWith(15, 25), 0, api.ErrRange},
		{setS(), slices.Concat(list(5), make([]int, 14), list(-1)), 0, api.ErrRange},
		{setS(), tableS()[1:], 0, api.ErrEqual},
		{setS(), append(tableS(), 0), 0, api.ErrEqual},
		{setS(), append(tableS(), -1), 0, api.ErrEqual},
		{setS(), list(25), 0, api.ErrEqual},
		{setS(), nil, 0, api.ErrEqual},
		{setS(), []int{}, 0, api.ErrEqual},
		{setS(), make([]int, 1000), 0, api.ErrEqual},
		{set(3, ""), list(0), 0, api.OK},
		{set(3, ""), list(1), 0, api.ErrSum},
		{set(3, "", "", ""), list(0), 0, api.OK},
		{set(3, "", "", ""), nil, 0, api.ErrEqual},
		{set(3, "abc"), list(3, 2, 1, 0), 3, api.OK},
		{set(3, "abc"), list(3, 2, 1, 1), 0, api.ErrSum},
		{set(3, "abc"), list(2, 2, 1, 0), 2, api.OK},
		{set(3, "abc"), list(1, 2, 1, 0), 1, api.OK},
		{set(3, "abc"), list(3, 3, 1, 0), 0, api.ErrSum},
		{set(3, "", "abc"), list(3, 2, 1, 0), 3, api.OK},
		{set(3, "a", "", "bc"), list(3, 2, 1, 2, 1, 0), 3, api.OK},
		{set(3, "a", "", "bc"), list(3, 2, 2, 2, 1, 0), 0, api.ErrSum},
		{set(3, "a", "", "bc"), list(3, 2, 1, 3, 1, 0), 0, api.ErrSum},
		{set(3, "bc", "", "a"), list(3, 2, 2, 1, 1, 0), 3, api.OK},
		{set(3, "bc", "a"), list(3, 2, 1, 2, 1, 0), 0, api.ErrSum},
	} {
		if n, e := tape.CheckTable(x.t, x.table); n != x.n || e != x.e {
			t.Error(i, x.t, x.table, n, e)
		}
	}
	for _, n := range farInts {
		for at := range 16 {
			if got, e := tape.CheckTable(setS(), tableWith(at, n)); got != 0 || e != api.ErrRange {
				t.Error(at, n, got, e)
			}
		}
	}
}

// P10.3: 24 is a number of a table, which three tapes can need.
func TestGreatestTable(t *testing.T) {
	table, e := tape.Table(apart())
	if len(table) != 729 || table[0] != 24 || e != api.OK {
		t.Fatal(len(table), e)
	}
	if n, e := tape.CheckTable(apart(), table); n != 24 || e != api.OK {
		t.Error(n, e)
	}
	table[1]++ // 24 as well, though just behind the first place
	if n, e := tape.CheckTable(apart(), table); n != 0 || e != api.ErrSum {
		t.Error(n, e)
	}
	table[1] = 25
	if n, e := tape.CheckTable(apart(), table); n != 0 || e != api.ErrRange {
		t.Error(n, e)
	}
}

// P10.4
func TestNights(t *testing.T) {
	for i, x := range []struct {
		t      api.TapeSet
		long   int
		nights []string
	}{
		{setS(), 4, []string{"abcb", "acbc"}},
		{setS(), 3, nil},
		{setS(), 0, nil},
		{set(2, "ab", "ba", "aa"), 3, []string{"aba"}},
		{set(2, "ab"), 3, []string{"aab", "aba", "abb", "bab"}},
		{set(2, "ab"), 2, []string{"ab"}},
		{set(2, "ab"), 1, nil},
		{set(2, ""), 2, []string{"aa", "ab", "ba", "bb"}},
		{set(2, "", "b"), 2, []string{"ab", "ba", "bb"}},
		{set(2, ""), 0, []string{""}},
		{set(2, "", "", ""), 0, []string{""}},
		{set(2, "a"), 0, nil},
		{set(5, ""), 1, []string{"a", "b", "c", "d", "e"}},
		{set(3, "c", "a"), 2, []string{"ac", "ca"}},
		{set(1, "aa"), 5, []string{"aaaaa"}},
		{set(1, "aa"), 20, []string{strings.Repeat("a", 20)}},
		{set(1, "aa"), 1, nil},
		{apart(), 20, nil},
		{set(2, "aaaaaaaa", "b"), 9, []string{"aaaaaaaab", "aaaaaaaba", "aaaaaabaa", "aaaaabaaa", "aaaabaaaa", "aaabaaaaa", "aabaaaaaa", "abaaaaaaa", "baaaaaaaa"}},
	} {
		if n, e := tape.Count(x.t, x.long); n != int64(len(x.nights)) || e != api.OK {
			t.Error(i, x.t, x.long, n, e)
		}
		for index, want := range x.nights {
			if s, e := tape.Night(x.t, x.long, int64(index)); s != want || e != api.OK {
				t.Error(i, x.t, x.long, index, s, e)
			}
		}
		for _, index := range []int64{math.MinInt64, -1, int64(len(x.nights)), int64(len(x.nights)) + 1, 1 << 32, 1<<40 - 1, 1 << 40, 1<<40 + 1, math.MaxInt64} {
			if s, e := tape.Night(x.t, x.long, index); s != "" || e != api.ErrRange {
				t.Error(i, x.t, x.long, index, s, e)
			}
		}
	}
}

// P10.4: at 2^40 nights Count still tells how many, and Night goes on to the index 2^40.
func TestManyNights(t *testing.T) {
	for i, x := range []struct {
		t    api.TapeSet
		long int
		n    int64
		e    api.Errno
	}{
		{set(5, ""), 17, 762939453125, api.OK},
		{set(5, ""), 18, 0, api.ErrOver},
		{set(5, ""), 20, 0, api.ErrOver},
		{set(4, ""), 19, 1 << 38, api.OK},
		{set(4, ""), 20, 1 << 40, api.OK},
		{set(4, "a"), 20, 1<<40 - 3486784401, api.OK}, // without those of three windows
		{set(3, ""), 20, 3486784401, api.OK},
		{set(5, "abcdeabc"), 20, 0, api.ErrOver},
		{set(5, "a", "b", "c"), 20, 0, api.ErrOver},
		{apart(), 20, 0, api.OK},
	} {
		if n, e := tape.Count(x.t, x.long); n != x.n || e != x.e {
			t.Error(i, x.t, x.long, n, e)
		}
	}
	for i, x := range []struct {
		t     api.TapeSet
		index int64
		night string
		e     api.Errno
	}{
		{set(5, ""), 0, strings.Repeat("a", 20), api.OK},
		{set(5, ""), 4, strings.Repeat("a", 19) + "e", api.OK},
		{set(5, ""), 1 << 40, "aabcbaadceeedeaecbab", api.OK},
		{set(5, ""), 1<<40 - 1, "aabcbaadceeedeaecbaa", api.OK},
		{set(5, ""), 1<<40 + 1, "", api.ErrRange},
		{set(5, ""), 1 << 41, "", api.ErrRange},
		{set(5, ""), math.MaxInt64, "", api.ErrRange},
		{set(5, ""), -1, "", api.ErrRange},
		{set(5, ""), math.MinInt64, "", api.ErrRange},
		{set(4, ""), 1<<40 - 1, strings.Repeat("d", 20), api.OK},
		{set(4, ""), 1 << 40, "", api.ErrRange},
		{set(4, ""), 1 << 38, "b" + strings.Repeat("a", 19), api.OK},
		{set(4, "a"), 0, strings.Repeat("a", 20), api.OK},
		{set(4, "a"), 1<<40 - 3486784402, strings.Repeat("d", 19) + "a", api.OK},
		{set(4, "a"), 1<<40 - 3486784401, "", api.ErrRange},
	} {
		if s, e := tape.Night(x.t, 20, x.index); s != x.night || e != x.e {
			t.Error(i, x.t, x.index, s, e)
		}
	}
}

// P10.5
func TestPulls(t *testing.T) {
	for i, x := range []struct {
		t      api.TapeSet
		long   int
		window byte
		r      api.Range
		e      api.Errno
	}{
		{setS(), 4, 'a', rg(1, 1), api.OK},
		{setS(), 4, 'b', rg(1, 2), api.OK},
		{setS(), 4, 'c', rg(1, 2), api.OK},
		{setS(), 5, 'a', rg(1, 2), api.OK},
		{setS(), 5, 'b', rg(1, 3), api.OK},
		{setS(), 20, 'a', rg(1, 17), api.OK},
		{setS(), 20, 'c', rg(1, 18), api.OK},
		{setS(), 3, 'a', rg(0, 0), api.ErrTape},
		{setS(), 0, 'a', rg(0, 0), api.ErrTape},
		{setS(), 3, 'd', rg(0, 0), api.ErrArg},
		{setS(), 4, 'd', rg(0, 0), api.ErrArg},
		{setS(), 4, 'A', rg(0, 0), api.ErrArg},
		{setS(), 4, '`', rg(0, 0), api.ErrArg},
		{setS(), 4, 0, rg(0, 0), api.ErrArg},
		{setS(), 4, 1, rg(0, 0), api.ErrArg},
		{setS(), 4, 255, rg(0, 0), api.ErrArg},
		{set(2, ""), 7, 'a', rg(0, 7), api.OK},
		{set(2, ""), 7, 'b', rg(0, 7), api.OK},
		{set(1, ""), 7, 'a', rg(7, 7), api.OK},
		{set(1, "a"), 20, 'a', rg(20, 20), api.OK},
		{set(1, ""), 0, 'a', rg(0, 0), api.OK},
		{set(5, ""), 0, 'e', rg(0, 0), api.OK},
		{set(5, ""), 20, 'e', rg(0, 20), api.OK},
		{set(4, ""), 20, 'e', rg(0, 0), api.ErrArg},
		{set(3, "abc"), 3, 'b', rg(1, 1), api.OK},
		{set(3, "bbbb", "abc"), 6, 'b', rg(4, 4), api.OK},
		{set(3, "bbbb", "abc"), 8, 'b', rg(4, 6), api.OK},
		{set(2, "abab", "baba"), 5, 'a', rg(2, 3), api.OK},
		{apart(), 20, 'a', rg(0, 0), api.ErrTape},
		{apart(), 20, 'd', rg(0, 0), api.ErrArg},
		{set(3, "aaaaaaaa", "bbbbbbbb", "cccc"), 20, 'b', rg(8, 8), api.OK},
	} {
		if r, e := tape.Pulls(x.t, x.long, x.window); r != x.r || e != x.e {
			t.Error(i, x.t, x.long, x.window, r, e)
		}
	}
}

// P10.5
func TestKind(t *testing.T) {
	for i, x := range []struct {
		t        api.TapeSet
		long     int
		one, two api.TapeImpulse
		kind     int
	}{
		{setS(), 4, nth('a', 1), nth('b', 1), api.TapeAlways},
		{setS(), 4, nth('a', 1), nth('c', 1), api.TapeAlways},
		{setS(), 4, nth('b', 1), nth('c', 1), api.TapeMay},
		{setS(), 4, nth('c', 1), nth('b', 1), api.TapeMay},
		{setS(), 4, nth('b', 2), nth('c', 1), api.TapeNever},
		{setS(), 4, nth('b', 1), nth('a', 1), api.TapeNever},
		{setS(), 4, nth('b', 1), nth('b', 2), api.TapeMay},
		{setS(), 4, nth('b', 1), nth('b', 3), api.TapeNever},
		{setS(), 4, nth('c', 1), nth('b', 2), api.TapeMay},
		{setS(), 4, nth('a', 1), nth('a', 1), api.TapeNever},
		{setS(), 4, nth('c', 1), nth('c', 1), api.TapeNever},
		{setS(), 4, nth('a', 20), nth('b', 1), api.TapeNever},
		{setS(), 4, nth('a', 1), nth('b', 20), api.TapeNever},
		{setS(), 5, nth('a', 1), nth('b', 1), api.TapeMay},
		{setS(), 5, nth('a', 1), nth('b', 2), api.TapeMay},
		{setS(), 5, nth('b', 1), nth('a', 1), api.TapeMay},
		{setS(), 5, nth('b', 2), nth('a', 1), api.TapeNever},
		{set(1, "aaa"), 3, nth('a', 1), nth('a', 2), api.TapeAlways},
		{set(1, "aaa"), 3, nth('a', 1), nth('a', 3), api.TapeAlways},
		{set(1, "aaa"), 3, nth('a', 2), nth('a', 3), api.TapeAlways},
		{set(1, "aaa"), 3, nth('a', 3), nth('a', 1), api.TapeNever},
		{set(1, "aaa"), 3, nth('a', 2), nth('a', 2), api.TapeNever},
		{set(1, "aaa"), 3, nth('a', 1), nth('a', 4), api.TapeNever},
		{set(1, ""), 20, nth('a', 19), nth('a', 20), api.TapeAlways},
		{set(1, ""), 20, nth('a', 20), nth('a', 20), api.TapeNever},
		{set(1, ""), 20, nth('a', 20), nth('a', 19), api.TapeNever},
		{set(1, ""), 0, nth('a', 1), nth('a', 2), api.TapeNever},
		{set(2, "aba"), 4, nth('a', 1), nth('b', 1), api.TapeMay},
		{set(2, "aba"), 4, nth('b', 1), nth('a', 2), api.TapeMay},
		{set(2, "aba"), 4, nth('b', 1), nth('a', 3), api.TapeMay},
		{set(2, "aba"), 3, nth('b', 1), nth('a', 2), api.TapeAlways},
		{set(2, "abba"), 5, nth('a', 1), nth('b', 2), api.TapeAlways},
		{set(2, "abba"), 6, nth('a', 1), nth('b', 2), api.TapeMay},
		{set(2, "abbb"), 8, nth('a', 1), nth('b', 4), api.TapeMay},
		{set(2, "abbb"), 4, nth('a', 1), nth('b', 3), api.TapeAlways},
		{set(2, "abbb"), 6, nth('a', 1), nth('b', 3), api.TapeAlways},
		{set(2, "abbb"), 7, nth('a', 1), nth('b', 3), api.TapeMay},
		{set(2, ""), 20, nth('a', 10), nth('b', 10), api.TapeMay},
		{set(2, ""), 20, nth('a', 11), nth('b', 10), api.TapeNever},
		{set(2, ""), 20, nth('a', 19), nth('b', 1), api.TapeMay},
		{set(2, ""), 20, nth('a', 20), nth('b', 1), api.TapeNever},
		{set(5, ""), 20, nth('d', 10), nth('e', 10), api.TapeMay},
		{set(5, ""), 2, nth('d', 1), nth('e', 1), api.TapeMay},
		{set(5, ""), 1, nth('d', 1), nth('e', 1), api.TapeNever},
	} {
		if k, e := tape.Kind(x.t, x.long, x.one, x.two); k != x.kind || e != api.OK {
			t.Error(i, x.t, x.long, x.one, x.two, k, e)
		}
	}
}

// P10.5: an impulse that is none is told before there is no night.
func TestKindErrors(t *testing.T) {
	good := []api.TapeImpulse{nth('a', 1), nth('b', 20), nth('c', 7)}
	bad := []api.TapeImpulse{nth('d', 1), nth('A', 1), nth('`', 1), nth(0, 1), nth(255, 1), nth('a', 0), nth('a', -1), nth('a', 21), nth('c', 21), nth('d', 0), {}}
	for _, n := range farInts {
		bad = append(bad, nth('a', n))
	}
	for _, long := range list(0, 3, 4, 20) {
		for _, g := range good {
			for _, b := range bad {
				for _, pair := range [][2]api.TapeImpulse{{g, b}, {b, g}, {b, b}} {
					if k, e := tape.Kind(setS(), long, pair[0], pair[1]); k != 0 || e != api.ErrArg {
						t.Error(long, pair, k, e)
					}
				}
			}
			for _, h := range good {
				if k, e := tape.Kind(setS(), min(long, 3), g, h); k != 0 || e != api.ErrTape {
					t.Error(long, g, h, k, e)
				}
				if k, e := tape.Kind(apart(), long, g, h); k != 0 || e != api.ErrTape {
					t.Error(long, g, h, k, e)
				}
			}
		}
	}
}

// P10.6
func TestWrong(t *testing.T) {
	for i, x := range []struct {
		t    api.TapeSet
		long int
		want []int
	}{
		{setS(), 20, nil},
		{setS(), 4, nil},
		{setS(), 3, list(0)},
		{setS(), 2, list(0, 1)},
		{setS(), 0, list(0, 1)},
		{set(2, "ab", "ba", "aa"), 3, nil},
		{set(2, "ab", "ba", "aa"), 2, list(0, 1)},
		{set(2, "aa", "ba", "bb"), 2, list(0, 1)},
		{set(2, "ab", "ba", "ab"), 2, list(1)},
		{set(2, "ab", "ab", "ba"), 2, list(2)},
		{set(2, "ba", "ab", "ab"), 2, list(0)},
		{set(2, "ab", "ba", "aa"), 1, list(0, 1, 2)},
		{set(2, "ab", "ba", "a"), 1, list(0, 1)},
		{set(2, "ab", "a", "ba"), 1, list(0, 2)},
		{set(2, "a", "ab", "ba"), 1, list(1, 2)},
		{set(3, "abc", "bbbb", "bc"), 3, list(1)},
		{set(3, "abc", "cc", "ab"), 3, list(1)},
		{set(3, "abc", "ab", "cc"), 3, list(2)},
		{set(3, "", "abc"), 0, list(1)},
		{set(3, "abc", ""), 0, list(0)},
		{set(3, "abc"), 2, list(0)},
		{set(3, "abc"), 3, nil},
		{set(3, ""), 0, nil},
		{set(3, "", "", ""), 0, nil},
		{set(3, "a", "b", "c"), 0, list(0, 1, 2)},
		{set(3, "a", "b", "c"), 1, list(0, 1)},
		{set(3, "a", "b", "c"), 2, list(0)},
		{set(3, "a", "b", "c"), 3, nil},
		{apart(), 20, list(0)},
		{apart(), 16, list(0)},
		{apart(), 15, list(0, 1)},
		{apart(), 7, list(0, 1, 2)},
	} {
		if l, e := tape.Wrong(x.t, x.long); !slices.Equal(l, x.want) || e != api.OK {
			t.Error(i, x.t, x.long, l, e)
		}
	}
}
