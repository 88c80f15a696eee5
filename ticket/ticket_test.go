package ticket_test

import (
	"math"
	"slices"
	"strings"
	"testing"

	"quinella/api"
	"quinella/ticket"
)

// day is a day with as many keys as a code is long.
func day(letters, rest int, keys ...int) api.TicketDay {
	return api.TicketDay{Letters: letters, Long: len(keys), Keys: keys, Rest: rest}
}

// dayD is that of the chapter's examples.
func dayD() api.TicketDay { return day(3, 0, 1, 1, 1) }

// dayE has four letters, and does not check the middle one: its codes are bac bca bda bdc dab dad dbd dcb dcd.
func dayE() api.TicketDay { return day(4, 1, 1, 0, 2) }

// none is a valid day without codes.
func none() api.TicketDay { return day(2, 0, 1, 1) }

// widest is a day with as many codes as can be.
func widest() api.TicketDay {
	return day(api.MaxTicketLetters, 0, make([]int, api.MaxTicketLong)...)
}

const widestCodes = 6 * 5 * 5 * 5 * 5 * 5 * 5 * 5

// torn is a torn ticket, of a text for each place: the letters that it can have there.
func torn(sets ...string) []int {
	var ticket []int
	for _, letters := range sets {
		set := 0
		for _, c := range letters {
			set |= 1 << (c - 'a')
		}
		ticket = append(ticket, set)
	}
	return ticket
}

func list(numbers ...int) []int { return numbers }

func claims(list ...[]int) [][]int { return list }

// sold is ranges, of two numbers for each.
func sold(ends ...int64) []api.Range {
	var ranges []api.Range
	for i := 0; i < len(ends); i += 2 {
		ranges = append(ranges, api.Range{Lo: ends[i], Hi: ends[i+1]})
	}
	return ranges
}

// farthest are numbers at the ends of their type.
var farthest = []int64{math.MinInt64, math.MinInt64 + 1, math.MaxInt64 - 1, math.MaxInt64}

type badDay struct {
	d api.TicketDay
	e api.Errno
}

// badDays are days that are not valid, and their errors.
func badDays() []badDay {
	with := func(letters, long, rest int, keys ...int) api.TicketDay {
		return api.TicketDay{Letters: letters, Long: long, Keys: keys, Rest: rest}
	}
	bad := []badDay{
		{api.TicketDay{}, api.ErrArg},
		{with(1, 2, 0, 0, 0), api.ErrArg},
		{with(0, 2, 0, 0, 0), api.ErrArg},
		{with(-1, 2, 0, 0, 0), api.ErrArg},
		{with(7, 2, 0, 0, 0), api.ErrArg},
		{with(3, 1, 0, 0), api.ErrArg},
		{with(3, 0, 0), api.ErrArg},
		{with(3, -1, 0), api.ErrArg},
		{with(3, 9, 0, 0, 0, 0, 0, 0, 0, 0, 0, 0), api.ErrArg},
		{with(7, 2, 9, 9), api.ErrArg},
		{with(3, 1, 9, 9, 9), api.ErrArg},
		{with(3, 2, 0), api.ErrEqual},
		{with(3, 2, 0, 1), api.ErrEqual},
		{with(3, 2, 0, 1, 1, 1), api.ErrEqual},
		{with(3, 2, 3, 1), api.ErrEqual},
		{with(3, 2, -1, 3, -1, 3), api.ErrEqual},
		{with(3, 2, 0, 3, 0), api.ErrRange},
		{with(3, 2, 0, 0, 3), api.ErrRange},
		{with(3, 2, 0, -1, 0), api.ErrRange},
		{with(3, 2, 0, 0, -1), api.ErrRange},
		{with(3, 2, 3, 0, 0), api.ErrRange},
		{with(3, 2, -1, 0, 0), api.ErrRange},
		{with(6, 8, 6, 0, 0, 0, 0, 0, 0, 0, 0), api.ErrRange},
		{with(6, 8, 0, 0, 0, 0, 0, 0, 0, 0, 6), api.ErrRange},
		{with(2, 2, 2, 1, 1), api.ErrRange},
	}
	for _, n := range farthest {
		bad = append(bad,
			badDay{with(int(n), 2, 0, 0, 0), api.ErrArg},
			badDay{with(3, int(n), 0, 0, 0), api.ErrArg},
			badDay{with(3, 2, int(n), 0, 0), api.ErrRange},
			badDay{with(3, 2, 0, 0, int(n)), api.ErrRange},
		)
	}
	return bad
}

// P6.1
func TestCheckDay(t *testing.T) {
	for i, d := range []api.TicketDay{
		dayD(), dayE(), none(), widest(), day(2, 1, 0, 0), day(6, 5, 5, 5, 5, 5, 5, 5, 5, 5), day(2, 0, 1, 0, 1, 0, 1, 0, 1, 0), day(6, 0, 5, 5),
	} {
		if e := ticket.CheckDay(d); e != api.OK {
			t.Error(i, d, e)
		}
	}
	for i, x := range badDays() {
		if e := ticket.CheckDay(x.d); e != x.e {
			t.Error(i, x.d, e)
		}
	}
}

// P6.1: all functions return the error of CheckDay before all others.
func TestBadDays(t *testing.T) {
	many := make([][]int, 7)
	for i, x := range badDays() {
		if n, e := ticket.Count(x.d); n != 0 || e != x.e {
			t.Error(i, "Count", n, e)
		}
		if c, e := ticket.Code(x.d, -1); c != "" || e != x.e {
			t.Error(i, "Code", c, e)
		}
		if n, e := ticket.Number(x.d, "?"); n != 0 || e != x.e {
			t.Error(i, "Number", n, e)
		}
		if n, m, e := ticket.Fits(x.d, nil, sold(1, 0)); n != 0 || m != 0 || e != x.e {
			t.Error(i, "Fits", n, m, e)
		}
		if k, e := ticket.Kind(x.d, nil, sold(1, 0)); k != 0 || e != x.e {
			t.Error(i, "Kind", k, e)
		}
		if n, e := ticket.Find(x.d, nil, -1); n != 0 || e != x.e {
			t.Error(i, "Find", n, e)
		}
		if s, e := ticket.Sure(x.d, nil); len(s) != 0 || e != x.e {
			t.Error(i, "Sure", s, e)
		}
		if n, c, e := ticket.Near(x.d, "?"); n != 0 || c != "" || e != x.e {
			t.Error(i, "Near", n, c, e)
		}
		if n, e := ticket.CheckShort(x.d, many, sold(1, 0), list(-1)); n != 0 || e != x.e {
			t.Error(i, "CheckShort", n, e)
		}
		if s, e := ticket.Short(x.d, many, sold(1, 0)); len(s) != 0 || e != x.e {
			t.Error(i, "Short", s, e)
		}
		if p, e := ticket.Paid(x.d, many, sold(1, 0)); len(p) != 0 || e != x.e {
			t.Error(i, "Paid", p, e)
		}
	}
}

// P6.1
func TestCount(t *testing.T) {
	for i, x := range []struct {
		d api.TicketDay
		n int64
	}{
		{dayD(), 6},
		{dayE(), 9},
		{none(), 0},
		{day(2, 1, 1, 1), 2},
		{day(2, 0, 0, 0), 2},
		{day(2, 1, 0, 0), 0},
		{day(2, 1, 1, 0), 1},
		{day(3, 2, 1, 0), 2},
		{widest(), widestCodes},
		{day(6, 1, make([]int, 8)...), 0},
		{day(6, 3, 3, 0, 0, 0, 0, 0, 0, 0), widestCodes / 2},
		{day(6, 5, 3, 0, 0, 0, 0, 0, 0, 0), 0},
		{day(6, 5, 1, 0, 0, 0, 0, 0, 0, 0), widestCodes / 6},
	} {
		if n, e := ticket.Count(x.d); n != x.n || e != api.OK {
			t.Error(i, n, e)
		}
	}
}

// P6.2
func TestCode(t *testing.T) {
	codesD := []string{"abc", "acb", "bac", "bca", "cab", "cba"}
	codesE := []string{"bac", "bca", "bda", "bdc", "dab", "dad", "dbd", "dcb", "dcd"}
	for number, want := range codesD {
		if c, e := ticket.Code(dayD(), int64(number)); c != want || e != api.OK {
			t.Error(number, c, e)
		}
		if n, e := ticket.Number(dayD(), want); n != int64(number) || e != api.OK {
			t.Error(want, n, e)
		}
	}
	for number, want := range codesE {
		if c, e := ticket.Code(dayE(), int64(number)); c != want || e != api.OK {
			t.Error(number, c, e)
		}
	}
	for i, x := range []struct {
		d      api.TicketDay
		number int64
		code   string
		e      api.Errno
	}{
		{dayD(), 6, "", api.ErrRange},
		{dayD(), -1, "", api.ErrRange},
		{none(), 0, "", api.ErrRange},
		{none(), -1, "", api.ErrRange},
		{dayE(), 8, "dcd", api.OK},
		{dayE(), 9, "", api.ErrRange},
		{widest(), 0, "abababab", api.OK},
		{widest(), 1, "abababac", api.OK},
		{widest(), 5, "abababca", api.OK},
		{widest(), 78125, "babababa", api.OK},
		{widest(), widestCodes - 1, "fefefefe", api.OK},
		{widest(), widestCodes, "", api.ErrRange},
		{day(2, 1, 1, 0), 0, "ba", api.OK},
		{day(2, 1, 1, 0), 1, "", api.ErrRange},
	} {
		if c, e := ticket.Code(x.d, x.number); c != x.code || e != x.e {
			t.Error(i, c, e)
		}
	}
	for _, n := range farthest {
		if c, e := ticket.Code(dayD(), n); c != "" || e != api.ErrRange {
			t.Error(n, c, e)
		}
	}
}

// P6.2
func TestNumber(t *testing.T) {
	for i, x := range []struct {
		d    api.TicketDay
		word string
		n    int64
		e    api.Errno
	}{
		{dayD(), "cab", 4, api.OK},
		{dayD(), "aab", 0, api.ErrRule},
		{dayD(), "baa", 0, api.ErrRule},
		{dayD(), "aaa", 0, api.ErrRule}, // its sum is right
		{dayD(), "aba", 0, api.ErrSum},
		{dayD(), "cac", 0, api.ErrSum},
		{dayD(), "abd", 0, api.ErrForm},
		{dayD(), "dab", 0, api.ErrForm},
		{dayD(), "aad", 0, api.ErrForm},
		{dayD(), "", 0, api.ErrForm},
		{dayD(), "ab", 0, api.ErrForm},
		{dayD(), "abca", 0, api.ErrForm},
		{dayD(), "aabb", 0, api.ErrForm},
		{dayD(), "ABC", 0, api.ErrForm},
		{dayD(), "abC", 0, api.ErrForm},
		{dayD(), "`ab", 0, api.ErrForm},
		{dayD(), "a c", 0, api.ErrForm},
		{dayD(), "a\x00c", 0, api.ErrForm},
		{dayD(), "a\xe2c", 0, api.ErrForm},
		{dayD(), "äb", 0, api.ErrForm}, // three bytes
		{dayD(), "abcä", 0, api.ErrForm},
		{dayE(), "bdc", 3, api.OK},
		{dayE(), "dcd", 8, api.OK},
		{dayE(), "bab", 0, api.ErrSum},
		{dayE(), "abe", 0, api.ErrForm},
		{dayE(), "ddd", 0, api.ErrRule},
		{none(), "ab", 0, api.ErrSum},
		{none(), "aa", 0, api.ErrRule},
		{none(), "ac", 0, api.ErrForm},
		{widest(), "fefefefe", widestCodes - 1, api.OK},
		{widest(), "fefefeff", 0, api.ErrRule},
		{widest(), "fefefefg", 0, api.ErrForm},
		{widest(), strings.Repeat("ab", 1000), 0, api.ErrForm},
	} {
		if n, e := ticket.Number(x.d, x.word); n != x.n || e != x.e {
			t.Error(i, x.word, n, e)
		}
	}
}

// P6.3, P6.4
func TestTorn(t *testing.T) {
	for i, x := range []struct {
		d    api.TicketDay
		torn []int
		sold []api.Range
		n, m int64
		kind int
		sure []int
	}{
		{dayD(), list(7, 2, 7), sold(0, 2), 2, 1, api.TicketOpen, list(5, 2, 5)},
		{dayD(), list(7, 2, 7), sold(0, 0, 5, 5), 2, 2, api.TicketGood, list(5, 2, 5)},
		{dayD(), list(7, 2, 7), sold(1, 4), 2, 0, api.TicketFalse, list(5, 2, 5)},
		{dayD(), list(7, 2, 7), sold(0, 5), 2, 2, api.TicketGood, list(5, 2, 5)},
		{dayD(), list(7, 2, 7), sold(5, 5), 2, 1, api.TicketOpen, list(5, 2, 5)},
		{dayD(), list(7, 2, 7), nil, 2, 0, api.TicketFalse, list(5, 2, 5)},
		{dayD(), list(1, 1, 7), sold(0, 5), 0, 0, api.TicketFalse, nil},
		{dayD(), list(4, 2, 4), nil, 0, 0, api.TicketFalse, nil},
		{dayD(), list(7, 7, 7), sold(0, 0, 1, 1, 2, 2, 3, 3, 4, 4, 5, 5), 6, 6, api.TicketGood, list(7, 7, 7)},
		{dayD(), list(7, 7, 7), sold(0, 1, 3, 5), 6, 5, api.TicketOpen, list(7, 7, 7)},
		{dayD(), list(7, 7, 7), sold(0, 4), 6, 5, api.TicketOpen, list(7, 7, 7)},
		{dayD(), list(1, 2, 4), sold(0, 0), 1, 1, api.TicketGood, list(1, 2, 4)},
		{dayD(), list(1, 2, 7), sold(0, 0), 1, 1, api.TicketGood, list(1, 2, 4)},
		{dayD(), list(3, 3, 7), sold(1, 5), 2, 1, api.TicketOpen, list(3, 3, 4)},
		{dayE(), torn("abcd", "a", "abcd"), sold(2, 3), 3, 0, api.TicketFalse, torn("bd", "a", "bcd")},
		{none(), list(3, 3), nil, 0, 0, api.TicketFalse, nil},
		{widest(), slices.Repeat(list(63), 8), sold(0, widestCodes-1), widestCodes, widestCodes, api.TicketGood, slices.Repeat(list(63), 8)},
		{widest(), slices.Repeat(list(63), 8), sold(0, 9, widestCodes-1, widestCodes-1), widestCodes, 11, api.TicketOpen, slices.Repeat(list(63), 8)},
		{widest(), slices.Repeat(list(1, 63), 4), sold(0, 78124), 625, 625, api.TicketGood, slices.Repeat(list(1, 62), 4)},
		{widest(), slices.Repeat(list(63, 32), 4), sold(78125, widestCodes-1), 625, 500, api.TicketOpen, slices.Repeat(list(31, 32), 4)},
	} {
		if n, m, e := ticket.Fits(x.d, x.torn, x.sold); n != x.n || m != x.m || e != api.OK {
			t.Error(i, n, m, e)
		}
		if k, e := ticket.Kind(x.d, x.torn, x.sold); k != x.kind || e != api.OK {
			t.Error(i, k, e)
		}
		want := api.OK
		if x.sure == nil {
			want = api.ErrTorn
		}
		if s, e := ticket.Sure(x.d, x.torn); !slices.Equal(s, x.sure) || e != want {
			t.Error(i, s, e)
		}
		for _, index := range []int64{-1, x.n, x.n + 1, math.MinInt64, math.MaxInt64} {
			if n, e := ticket.Find(x.d, x.torn, index); n != 0 || e != api.ErrRange {
				t.Error(i, index, n, e)
			}
		}
	}
}

// P6.4
func TestFind(t *testing.T) {
	for i, x := range []struct {
		d        api.TicketDay
		torn     []int
		index, n int64
	}{
		{dayD(), list(7, 2, 7), 0, 0},
		{dayD(), list(7, 2, 7), 1, 5},
		{dayD(), list(7, 1, 7), 0, 2},
		{dayD(), list(7, 1, 7), 1, 4},
		{dayD(), list(7, 7, 7), 5, 5},
		{dayD(), list(7, 7, 1), 1, 5},
		{dayD(), list(4, 7, 2), 0, 4},
		{widest(), slices.Repeat(list(63), 8), 0, 0},
		{widest(), slices.Repeat(list(63), 8), 123456, 123456},
		{widest(), slices.Repeat(list(63), 8), widestCodes - 1, widestCodes - 1},
		{widest(), slices.Repeat(list(32, 16), 4), 0, widestCodes - 1},
		{widest(), slices.Repeat(list(2, 1), 4), 0, 78125},
	} {
		if n, e := ticket.Find(x.d, x.torn, x.index); n != x.n || e != api.OK {
			t.Error(i, n, e)
		}
	}
}

// P6.5
func TestNear(t *testing.T) {
	for i, x := range []struct {
		d    api.TicketDay
		word string
		n    int
		code string
		e    api.Errno
	}{
		{dayD(), "abb", 1, "abc", api.OK},
		{dayD(), "aba", 1, "abc", api.OK},
		{dayD(), "bca", 0, "bca", api.OK},
		{dayD(), "cba", 0, "cba", api.OK},
		{dayD(), "bbb", 2, "abc", api.OK},
		{dayD(), "ccb", 1, "acb", api.OK}, // and cab in one letter, too
		{dayD(), "cbb", 1, "cab", api.OK}, // and cba
		{dayE(), "aaa", 2, "bac", api.OK},
		{dayE(), "ddd", 1, "dad", api.OK},
		{dayE(), "cdc", 1, "bdc", api.OK},
		{day(2, 1, 1, 0), "ab", 2, "ba", api.OK},
		{day(2, 0, 0, 0), "aa", 1, "ab", api.OK},
		{day(2, 0, 0, 0), "bb", 1, "ab", api.OK},
		{day(2, 0, 1, 1, 1, 1, 1, 1, 1, 0), "abababab", 8, "babababa", api.OK},
		{widest(), "aaaaaaaa", 4, "abababab", api.OK},
		{widest(), "ffffffff", 4, "afafafaf", api.OK},
		{widest(), "ffefefef", 1, "afefefef", api.OK},
		{day(6, 1, make([]int, 8)...), "ababab", 0, "", api.ErrForm},
		{day(6, 1, make([]int, 8)...), "abababab", 0, "", api.ErrNone},
		{none(), "ab", 0, "", api.ErrNone},
		{none(), "aa", 0, "", api.ErrNone},
		{none(), "ac", 0, "", api.ErrForm},
		{dayD(), "abd", 0, "", api.ErrForm},
		{dayD(), "", 0, "", api.ErrForm},
		{dayD(), "ab", 0, "", api.ErrForm},
		{dayD(), "abca", 0, "", api.ErrForm},
		{dayD(), "aB\xff", 0, "", api.ErrForm},
	} {
		if n, c, e := ticket.Near(x.d, x.word); n != x.n || c != x.code || e != x.e {
			t.Error(i, x.word, n, c, e)
		}
	}
}

// P6.6
func TestCheckShort(t *testing.T) {
	all := sold(0, 5)
	two := claims(list(1, 2, 7), list(1, 2, 4))
	three := claims(list(1, 2, 7), list(1, 7, 7), list(7, 7, 1))
	six := slices.Repeat(claims(list(7, 7, 7)), 6)
	for i, x := range []struct {
		claims [][]int
		sold   []api.Range
		set    []int
		bound  int64
		e      api.Errno
	}{
		{two, all, list(0, 1), 1, api.OK},
		{two, all, list(0), 2, api.OK},
		{two, all, list(1), 2, api.OK},
		{two, all, nil, 2, api.OK},
		{two, sold(1, 5), list(0, 1), 0, api.OK},
		{two, nil, list(0, 1), 0, api.OK},
		{two, nil, list(1), 1, api.OK},
		{three, all, nil, 3, api.OK},
		{three, all, list(0), 3, api.OK},
		{three, all, list(0, 1), 3, api.OK},
		{three, all, list(0, 2), 4, api.OK},
		{three, all, list(0, 1, 2), 4, api.OK},
		{three, sold(3, 3), list(0, 1, 2), 1, api.OK},
		{three, sold(0, 0, 3, 3), list(0, 2), 3, api.OK},
		{nil, all, nil, 0, api.OK},
		{nil, nil, nil, 0, api.OK},
		{six, all, nil, 6, api.OK},
		{six, sold(0, 4), list(0, 1, 2, 3, 4, 5), 5, api.OK},
		{six, sold(0, 4), list(0, 1, 2, 3, 5), 6, api.OK},
		{claims(list(1, 1, 7)), all, list(0), 0, api.OK},
		{nil, all, list(0), 0, api.ErrArg},
		{two, all, list(0, 0), 0, api.ErrArg},
		{two, all, list(1, 0), 0, api.ErrArg},
		{two, all, list(2), 0, api.ErrArg},
		{two, all, list(0, 2), 0, api.ErrArg},
		{two, all, list(-1), 0, api.ErrArg},
		{two, all, list(-1, 0), 0, api.ErrArg},
		{two, all, list(0, 1, 1), 0, api.ErrArg},
		{three, all, list(0, 2, 1), 0, api.ErrArg},
		{six, all, list(6), 0, api.ErrArg},
		{two, all, list(math.MaxInt), 0, api.ErrArg},
		{two, all, list(math.MinInt), 0, api.ErrArg},
		{two, all, list(0, math.MaxInt, 1), 0, api.ErrArg},
		{two, all, make([]int, 1000), 0, api.ErrArg},
	} {
		if b, e := ticket.CheckShort(dayD(), x.claims, x.sold, x.set); b != x.bound || e != x.e {
			t.Error(i, b, e)
		}
	}
}

// P6.6
func TestPaid(t *testing.T) {
	all := sold(0, 5)
	any, a := list(7, 7, 7), list(1, 7, 7) // a can be 0 and 1
	for _, x := range []struct {
		claims [][]int
		sold   []api.Range
		most   int64
	}{
		{claims(list(1, 2, 7), list(1, 2, 4)), all, 1},
		{claims(a, list(1, 2, 4)), all, 2}, // the first one has to take 1
		{claims(list(1, 2, 4), a), all, 2},
		{claims(a, a, a), all, 2},
		{claims(a, a, any), all, 3},
		{claims(any, a, a), all, 3},
		{claims(any, a, list(1, 2, 7)), sold(0, 2), 3},
		{claims(any, a, list(1, 2, 7)), sold(0, 1), 2},
		{claims(any, a, list(1, 2, 7)), sold(3, 5), 1},
		{claims(list(3, 7, 7), a, list(1, 2, 7)), sold(0, 1, 3, 4), 3},
		{claims(any, list(1, 1, 7)), all, 1},
		{claims(any, any), nil, 0},
		{slices.Repeat(claims(any), 6), all, 6},
		{slices.Repeat(claims(any), 6), sold(0, 1, 3, 5), 5},
		{slices.Repeat(claims(any), 6), sold(4, 4), 1},
		{nil, all, 0},
		{nil, nil, 0},
	} {
		checkPayment(t, dayD(), x.claims, x.sold, x.most)
	}
	open := slices.Repeat(list(63), 8)
	checkPayment(t, widest(), slices.Repeat(claims(open), 6), sold(0, widestCodes-1), 6)
	checkPayment(t, widest(), slices.Repeat(claims(open), 6), sold(0, 0, 9, 9, 11, 11, 468749, 468749), 4)
	checkPayment(t, none(), claims(list(3, 3), list(1, 2)), nil, 0)
}

// checkPayment checks that Paid and Short prove each other.
func checkPayment(t *testing.T, d api.TicketDay, claims [][]int, sold []api.Range, most int64) {
	t.Helper()
	p, e := ticket.Paid(d, claims, sold)
	if e != api.OK || !isPayment(t, d, claims, sold, p) || paying(p) != most {
		t.Error(d, claims, sold, p, e, most)
	}
	set, e := ticket.Short(d, claims, sold)
	if b, f := ticket.CheckShort(d, claims, sold, set); e != api.OK || f != api.OK || b != most {
		t.Error(d, claims, sold, set, e, b, f, most)
	}
}

// paying is how many claims are paid.
func paying(payment []int64) int64 {
	n := int64(0)
	for _, code := range payment {
		if code != -1 {
			n++
		}
	}
	return n
}

// isPayment is the chapter's definition of a payment.
func isPayment(t *testing.T, d api.TicketDay, claims [][]int, sold []api.Range, payment []int64) bool {
	t.Helper()
	paid := map[int64]bool{-1: false}
	for i, code := range payment {
		if code == -1 {
			continue
		}
		word, e := ticket.Code(d, code)
		if e != api.OK || !fits(claims[i], word) || !wasSold(sold, code) || paid[code] {
			return false
		}
		paid[code] = true
	}
	return len(payment) == len(claims)
}

// fits is the chapter's definition of a code that fits.
func fits(torn []int, word string) bool {
	for place, set := range torn {
		if set&(1<<(word[place]-'a')) == 0 {
			return false
		}
	}
	return true
}

func wasSold(sold []api.Range, code int64) bool {
	return slices.ContainsFunc(sold, func(r api.Range) bool { return code >= r.Lo && code <= r.Hi })
}

// checkErrors checks that all functions with these arguments return an error, and nothing else; those without an argument that is nil are not asked.
func checkErrors(t *testing.T, d api.TicketDay, torn []int, claims [][]int, sold []api.Range, want api.Errno) {
	t.Helper()
	if torn != nil {
		if n, m, e := ticket.Fits(d, torn, sold); n != 0 || m != 0 || e != want {
			t.Error("Fits", torn, sold, n, m, e)
		}
		if k, e := ticket.Kind(d, torn, sold); k != 0 || e != want {
			t.Error("Kind", torn, sold, k, e)
		}
	}
	if claims != nil {
		if n, e := ticket.CheckShort(d, claims, sold, list(-1)); n != 0 || e != want {
			t.Error("CheckShort", claims, sold, n, e)
		}
		if s, e := ticket.Short(d, claims, sold); len(s) != 0 || e != want {
			t.Error("Short", claims, sold, s, e)
		}
		if p, e := ticket.Paid(d, claims, sold); len(p) != 0 || e != want {
			t.Error("Paid", claims, sold, p, e)
		}
	}
}

// P6.3, P6.4, P6.6: the errors of torn tickets come before those of what was sold, and before the others.
func TestBadTorn(t *testing.T) {
	type bad struct {
		d    api.TicketDay
		torn []int
		e    api.Errno
	}
	all := []bad{
		{dayD(), list(), api.ErrEqual},
		{dayD(), list(7, 2), api.ErrEqual},
		{dayD(), list(7, 2, 7, 7), api.ErrEqual},
		{dayD(), list(0, 8), api.ErrEqual},
		{dayD(), list(7, 2, 8), api.ErrRange},
		{dayD(), list(7, 2, 0), api.ErrRange},
		{dayD(), list(-1, 2, 7), api.ErrRange},
		{dayD(), list(7, 15, 7), api.ErrRange},
		{dayE(), list(15, 16, 15), api.ErrRange},
		{none(), list(4, 3), api.ErrRange},
		{widest(), slices.Repeat(list(64), 8), api.ErrRange},
		{widest(), slices.Repeat(list(64), 9), api.ErrEqual},
	}
	for _, n := range farthest {
		all = append(all, bad{dayD(), list(7, 7, int(n)), api.ErrRange})
	}
	for _, x := range all {
		for _, ranges := range [][]api.Range{nil, sold(1, 0), make([]api.Range, 11)} {
			checkErrors(t, x.d, x.torn, claims(x.torn), ranges, x.e)
			good := slices.Repeat(list(1), x.d.Long)
			checkErrors(t, x.d, nil, claims(good, good, good, good, good, x.torn), ranges, x.e)
		}
		if n, e := ticket.Find(x.d, x.torn, -1); n != 0 || e != x.e {
			t.Error(x.torn, n, e)
		}
		if s, e := ticket.Sure(x.d, x.torn); len(s) != 0 || e != x.e {
			t.Error(x.torn, s, e)
		}
	}
}

// P6.6: too many claims come first, and then the first torn ticket that has an error.
func TestBadClaims(t *testing.T) {
	short, far, good := list(1, 2), list(1, 2, 8), list(1, 2, 7)
	for _, x := range []struct {
		claims [][]int
		e      api.Errno
	}{
		{make([][]int, 7), api.ErrMany},
		{slices.Repeat(claims(far), 7), api.ErrMany},
		{slices.Repeat(claims(good), 7), api.ErrMany},
		{make([][]int, 6), api.ErrEqual},
		{claims(good, short, far), api.ErrEqual},
		{claims(good, far, short), api.ErrRange},
		{claims(far, short), api.ErrRange},
		{slices.Repeat(claims(good), 6), api.ErrMany},
	} {
		checkErrors(t, dayD(), nil, x.claims, make([]api.Range, 11), x.e)
	}
}

// P6.3, P6.6
func TestBadSold(t *testing.T) {
	type bad struct {
		d    api.TicketDay
		sold []api.Range
		e    api.Errno
	}
	all := []bad{
		{dayD(), make([]api.Range, 11), api.ErrMany},
		{dayD(), sold(0, 0, 1, 1, 2, 2, 3, 3, 4, 4, 5, 5, 6, 6, 7, 7, 8, 8, 9, 9, 10, 10), api.ErrMany},
		{dayD(), sold(0, 0, 1, 1, 2, 2, 3, 3, 4, 4, 5, 5, 6, 6, 7, 7, 8, 8, 9, 9), api.ErrRange},
		{dayD(), sold(0, 6), api.ErrRange},
		{dayD(), sold(6, 6), api.ErrRange},
		{dayD(), sold(-1, 2), api.ErrRange},
		{dayD(), sold(-1, -1), api.ErrRange},
		{dayD(), sold(3, 2), api.ErrRange},
		{dayD(), sold(1, 0), api.ErrRange},
		{dayD(), sold(0, 2, 2, 3), api.ErrRange},
		{dayD(), sold(0, 2, 1, 1), api.ErrRange},
		{dayD(), sold(0, 0, 2, 3, 3, 3), api.ErrRange},
		{dayD(), sold(3, 4, 0, 1), api.ErrRange},
		{dayD(), sold(0, 1, 3, 2), api.ErrRange},
		{none(), sold(0, 0), api.ErrRange},
		{none(), sold(-1, -1), api.ErrRange},
		{widest(), sold(0, widestCodes), api.ErrRange},
	}
	for _, n := range farthest {
		all = append(all, bad{dayD(), sold(n, n), api.ErrRange}, bad{dayD(), sold(n, 3), api.ErrRange}, bad{dayD(), sold(3, n), api.ErrRange})
	}
	for _, x := range all {
		good := slices.Repeat(list(1), x.d.Long)
		checkErrors(t, x.d, good, claims(good), x.sold, x.e)
		checkErrors(t, x.d, nil, claims(), x.sold, x.e)
	}
	for _, ranges := range [][]api.Range{nil, sold(0, 0), sold(5, 5), sold(0, 5), sold(0, 2, 3, 5), sold(0, 0, 1, 1), sold(1, 1, 3, 3, 5, 5)} {
		if _, _, e := ticket.Fits(dayD(), list(7, 7, 7), ranges); e != api.OK {
			t.Error(ranges, e)
		}
		if _, e := ticket.Paid(dayD(), nil, ranges); e != api.OK {
			t.Error(ranges, e)
		}
	}
	ten := sold(0, 0, 1, 1, 2, 2, 3, 3, 4, 4, 5, 5, 6, 6, 7, 7, 8, 8, 20, 29)
	if n, m, e := ticket.Fits(widest(), slices.Repeat(list(63), 8), ten); n != widestCodes || m != 19 || e != api.OK {
		t.Error(n, m, e)
	}
}
