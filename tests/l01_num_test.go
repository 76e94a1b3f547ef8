package tests

import (
	"bytes"
	"math"
	"math/big"
	"slices"
	"strings"
	"testing"

	"loop.example/g00246/impl"
)

// Numbers at both sides of each length, and the bytes that the document asks for.
var numBytes = []struct {
	n    int
	want []byte
}{
	{0, []byte{0}},
	{1, []byte{1}},
	{127, []byte{127}},
	{128, []byte{128, 1}},
	{129, []byte{129, 1}},
	{300, []byte{172, 2}},
	{16383, []byte{255, 127}},
	{16384, []byte{128, 128, 1}},
	{2097151, []byte{255, 255, 127}},
	{2097152, []byte{128, 128, 128, 1}},
	{268435455, []byte{255, 255, 255, 127}},
	{268435456, []byte{128, 128, 128, 128, 1}},
	{999999999, []byte{255, 147, 235, 220, 3}},
	{impl.MaxNum, []byte{128, 148, 235, 220, 3}},
}

// Places that no list has, at the ends of what an int can be too.
var noPlaces = []int{-1, -2, -1000, math.MinInt, math.MinInt + 1, math.MaxInt, math.MaxInt - 1, math.MaxInt - 400}

func TestNumLimits(t *testing.T) {
	if impl.MaxNum != 1000000000 || impl.MaxText != 400 {
		t.Error("limits", impl.MaxNum, impl.MaxText)
	}
}

func TestPutNumBytes(t *testing.T) {
	for _, c := range numBytes {
		if got := impl.PutNum(c.n); !bytes.Equal(got, c.want) {
			t.Errorf("PutNum(%d) = %v, want %v", c.n, got, c.want)
		}
	}
}

func TestPutNumOfOthersIsEmpty(t *testing.T) {
	for _, n := range []int{-1, -128, -300, math.MinInt, impl.MaxNum + 1, 1 << 35, math.MaxInt} {
		if got := impl.PutNum(n); len(got) != 0 {
			t.Errorf("PutNum(%d) = %v, want nothing", n, got)
		}
	}
}

func wantNum(t *testing.T, b []byte, at, n, next int) {
	t.Helper()
	gotN, gotNext, ok := impl.GetNum(b, at)
	if !ok || gotN != n || gotNext != next {
		t.Errorf("GetNum(%v, %d) = %d, %d, %v, want %d, %d, true", b, at, gotN, gotNext, ok, n, next)
	}
}

func wantNoNum(t *testing.T, b []byte, at int) {
	t.Helper()
	if n, next, ok := impl.GetNum(b, at); n != 0 || next != 0 || ok {
		t.Errorf("GetNum(%v, %d) = %d, %d, %v, want 0, 0, false", b, at, n, next, ok)
	}
}

func TestGetNumBytes(t *testing.T) {
	for _, c := range numBytes {
		wantNum(t, c.want, 0, c.n, len(c.want))
	}
}

// What is put is got, wherever it stands and whatever stands around it.
func TestNumPutIsGot(t *testing.T) {
	try := func(n int) {
		put := impl.PutNum(n)
		for _, ahead := range []int{0, 1, 9} {
			for _, behind := range [][]byte{nil, {0}, {128}, {255, 255}} {
				b := slices.Concat(bytes.Repeat([]byte{255}, ahead), put, behind)
				wantNum(t, b, ahead, n, ahead+len(put))
			}
		}
	}
	for n := 0; n <= 20000; n++ {
		try(n)
	}
	for n := 20001; n < impl.MaxNum; n += 999983 {
		try(n)
	}
	for n := impl.MaxNum - 300; n <= impl.MaxNum; n++ {
		try(n)
	}
}

func TestGetNumNotTheShortest(t *testing.T) {
	for _, b := range [][]byte{
		{128, 0}, {129, 0}, {255, 0}, {128, 128, 0}, {172, 130, 0}, {172, 2 + 128, 128, 0},
		{128, 128, 128, 128, 0}, {255, 255, 255, 255, 0}, {128, 148, 235, 220, 131, 0},
		{128, 128, 128, 128, 128, 128, 128, 128, 128, 0},
	} {
		wantNoNum(t, b, 0)
		wantNoNum(t, append([]byte{5}, b...), 1)
		wantNoNum(t, append(slices.Clone(b), 1), 0)
	}
}

func TestGetNumCutShort(t *testing.T) {
	for _, c := range numBytes {
		for size := range len(c.want) {
			wantNoNum(t, c.want[:size:size], 0)
			// The bytes that were cut off still stand in the spare room: they must not be read.
			wantNoNum(t, c.want[:size], 0)
		}
	}
}

func TestGetNumTooGreat(t *testing.T) {
	for _, b := range [][]byte{
		{129, 148, 235, 220, 3}, // MaxNum and one more
		{128, 128, 128, 128, 4},
		{255, 255, 255, 255, 127},
		{128, 128, 128, 128, 128, 1},
		{129, 128, 128, 128, 128, 128, 128, 128, 128, 1},
		{129, 128, 128, 128, 128, 128, 128, 128, 128, 2}, // 1, had 64 bits wrapped round
		{129, 128, 128, 128, 128, 128, 128, 128, 128, 128, 1},
		bytes.Repeat([]byte{128}, 1000),
		append(bytes.Repeat([]byte{255}, 1000), 1),
	} {
		wantNoNum(t, b, 0)
	}
}

func TestGetNumPlaces(t *testing.T) {
	b := []byte{9, 172, 2, 7}
	wantNum(t, b, 0, 9, 1)
	wantNum(t, b, 1, 300, 3)
	wantNum(t, b, 2, 2, 3)
	wantNum(t, b, 3, 7, 4)
	for _, at := range append([]int{4, 5, 1000}, noPlaces...) {
		wantNoNum(t, b, at)
		wantNoNum(t, nil, at)
		wantNoNum(t, []byte{}, at)
	}
	wantNoNum(t, nil, 0)
	wantNoNum(t, b[:1], 1)
}

// plainNum tells the number at the beginning of b by the document's words: it is there when its PutNum is.
func plainNum(b []byte) (int, int, bool) {
	n := 0
	for i, x := range b {
		n += int(x%128) << (7 * i)
		if x < 128 {
			if bytes.Equal(impl.PutNum(n), b[:i+1]) {
				return n, i + 1, true
			}
			break
		}
	}
	return 0, 0, false
}

// A number is told if and only if its PutNum stands there: all lists of up to six bytes made of those at the edges.
func TestGetNumIsWhatWasPut(t *testing.T) {
	edges := []byte{0, 1, 3, 127, 128, 129, 148, 235, 220, 255}
	lists := [][]byte{{}}
	for len(lists[0]) < 6 {
		var longer [][]byte
		for _, list := range lists {
			for _, x := range edges {
				b := append(slices.Clone(list), x)
				longer = append(longer, b)
				n, next, ok := plainNum(b)
				if gotN, gotNext, got := impl.GetNum(b, 0); gotN != n || gotNext != next || got != ok {
					t.Fatalf("GetNum(%v, 0) = %d, %d, %v, want %d, %d, %v", b, gotN, gotNext, got, n, next, ok)
				}
			}
		}
		lists = longer
	}
}

func TestPutTextBytes(t *testing.T) {
	for _, c := range []struct{ s, want string }{
		{"", "\x00"},
		{"a", "\x01a"},
		{"ab", "\x02ab"},
		{"\x00\x80\xff", "\x03\x00\x80\xff"},
		{"é", "\x02\xc3\xa9"},
		{strings.Repeat("q", 127), "\x7f" + strings.Repeat("q", 127)},
		{strings.Repeat("q", 128), "\x80\x01" + strings.Repeat("q", 128)},
		{strings.Repeat("q", impl.MaxText-1), "\x8f\x03" + strings.Repeat("q", impl.MaxText-1)},
		{strings.Repeat("q", impl.MaxText), "\x90\x03" + strings.Repeat("q", impl.MaxText)},
	} {
		if got := impl.PutText(c.s); string(got) != c.want {
			t.Errorf("PutText(%q) = %q, want %q", c.s, got, c.want)
		}
	}
	for _, size := range []int{impl.MaxText + 1, impl.MaxText + 2, 16384, 100000} {
		if got := impl.PutText(strings.Repeat("q", size)); len(got) != 0 {
			t.Errorf("PutText of %d bytes = %q, want nothing", size, got)
		}
	}
}

func wantText(t *testing.T, b []byte, at int, s string, next int) {
	t.Helper()
	got, gotNext, ok := impl.GetText(b, at)
	if !ok || got != s || gotNext != next {
		t.Errorf("GetText(%q, %d) = %q, %d, %v, want %q, %d, true", b, at, got, gotNext, ok, s, next)
	}
}

func wantNoText(t *testing.T, b []byte, at int) {
	t.Helper()
	if s, next, ok := impl.GetText(b, at); s != "" || next != 0 || ok {
		t.Errorf("GetText(%q, %d) = %q, %d, %v, want nothing, 0, false", b, at, s, next, ok)
	}
}

// Text of so many bytes in which every byte comes.
func someText(size int) string {
	var s strings.Builder
	for i := range size {
		s.WriteByte(byte(i*37 + size))
	}
	return s.String()
}

func TestTextPutIsGot(t *testing.T) {
	for size := 0; size <= impl.MaxText; size++ {
		s := someText(size)
		put := impl.PutText(s)
		for _, ahead := range []int{0, 1, 9} {
			for _, behind := range []string{"", "\x00", "\x80z"} {
				b := []byte(strings.Repeat("\xff", ahead) + string(put) + behind)
				wantText(t, b, ahead, s, ahead+len(put))
			}
		}
	}
}

func TestGetTextCutShort(t *testing.T) {
	for _, size := range []int{0, 1, 2, 127, 128, impl.MaxText} {
		put := impl.PutText(someText(size))
		for cut := range len(put) {
			wantNoText(t, put[:cut:cut], 0)
			wantNoText(t, put[:cut], 0)
		}
	}
}

func TestGetTextWrongSize(t *testing.T) {
	many := strings.Repeat("q", 2*impl.MaxText)
	for _, b := range []string{
		"\x91\x03" + many[:impl.MaxText+1], // one more than MaxText, all of them there
		"\x91\x03" + many,
		"\x82\x00" + many, // not the shortest
		"\x80\x00",
		"\x80\x94\xeb\xdc\x03" + many, // MaxNum
		"\x81\x94\xeb\xdc\x03" + many, // no number
		"\xff\xff\xff\xff\xff\xff\xff\xff\x7f" + many,
		"\xff\xff\xff\xff\xff\xff\xff\xff\xff\x01" + many, // -1, had 64 bits wrapped round
		"\x80",
		"",
	} {
		wantNoText(t, []byte(b), 0)
		wantNoText(t, []byte("\x00"+b), 1)
	}
}

func TestGetTextPlaces(t *testing.T) {
	b := []byte("\x02ab\x01c\x00")
	wantText(t, b, 0, "ab", 3)
	wantText(t, b, 3, "c", 5)
	wantText(t, b, 5, "", 6)
	wantNoText(t, b, 1)
	for _, at := range append([]int{6, 7, 1000}, noPlaces...) {
		wantNoText(t, b, at)
		wantNoText(t, nil, at)
		wantNoText(t, []byte{}, at)
	}
	wantNoText(t, nil, 0)
}

// What is put one behind the other is got one behind the other.
func TestNumbersAndTextsInARow(t *testing.T) {
	var b []byte
	for _, c := range numBytes {
		b = append(append(b, impl.PutNum(c.n)...), impl.PutText(someText(c.n%(impl.MaxText+1)))...)
	}
	at := 0
	for _, c := range numBytes {
		n, next, ok := impl.GetNum(b, at)
		s, end, fine := impl.GetText(b, next)
		if !ok || !fine || n != c.n || s != someText(c.n%(impl.MaxText+1)) {
			t.Fatalf("at %d: %d, %v, %q, %v, want %d", at, n, ok, s, fine, c.n)
		}
		at = end
	}
	if at != len(b) {
		t.Errorf("ended at %d of %d", at, len(b))
	}
}

func TestSumKnown(t *testing.T) {
	all := make([]byte, 256)
	for i := range all {
		all[i] = byte(i)
	}
	for _, c := range []struct {
		b    []byte
		want int
	}{
		{nil, 7},
		{[]byte{}, 7},
		{[]byte{0}, 217},
		{[]byte{255}, 472},
		{[]byte{1, 2}, 6760},
		{[]byte{2, 1}, 6790},
		{[]byte("shelves"), 370317},
		{all, 284747},
		{bytes.Repeat([]byte{255}, 1000), 613608},
	} {
		if got := impl.Sum(c.b); got != c.want {
			t.Errorf("Sum(%v) = %d, want %d", c.b, got, c.want)
		}
	}
}

// Dividing once, behind all bytes, leaves the same as dividing at each.
func TestSumOfLongLists(t *testing.T) {
	for _, size := range []int{1, 2, 3, 4, 5, 13, 64, 402, 3000} {
		b := []byte(someText(size))
		whole := big.NewInt(7)
		for _, x := range b {
			whole.Mul(whole, big.NewInt(31)).Add(whole, big.NewInt(int64(x)))
		}
		want := int(whole.Mod(whole, big.NewInt(1000003)).Int64())
		if got := impl.Sum(b); got != want {
			t.Errorf("Sum of %d bytes = %d, want %d", size, got, want)
		}
	}
}

// Nothing is written into an argument, nor into the spare room behind it.
func TestNumArgumentsStay(t *testing.T) {
	room := append([]byte("\x02ab\x80\x00\xac\x02\x91\x03"), bytes.Repeat([]byte{7}, 500)...)
	before := slices.Clone(room)
	for size := 0; size <= 12; size++ {
		b := room[:size]
		for at := -1; at <= size+1; at++ {
			impl.GetNum(b, at)
			impl.GetText(b, at)
		}
		impl.Sum(b)
		if !bytes.Equal(room, before) {
			t.Fatalf("written into: %v", room[:20])
		}
	}
}

// Every answer is new memory.
func TestNumAnswersAreNew(t *testing.T) {
	for _, c := range numBytes {
		first, second := impl.PutNum(c.n), impl.PutNum(c.n)
		scribble(first)
		if !bytes.Equal(second, c.want) || !bytes.Equal(impl.PutNum(c.n), c.want) {
			t.Errorf("PutNum(%d) shares its answer", c.n)
		}
	}
	first, second := impl.PutText("ab"), impl.PutText("ab")
	scribble(first)
	if string(second) != "\x02ab" || string(impl.PutText("ab")) != "\x02ab" {
		t.Error("PutText shares its answer")
	}
	b := []byte("\x02ab")
	s, _, _ := impl.GetText(b, 0)
	scribble(b)
	if s != "ab" {
		t.Errorf("GetText shares its argument: %q", s)
	}
}

// scribble writes over all of b and over the spare room behind it.
func scribble(b []byte) {
	b = b[:cap(b)]
	for i := range b {
		b[i] = 99
	}
}
