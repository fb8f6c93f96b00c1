package octets

import (
	"bytes"
	"math"
	"strings"
	"testing"

	"switchyard/api"
)

// roomy answers b with spare room behind it that is filled with a byte of its own.
func roomy(b []byte) []byte {
	out := make([]byte, len(b)+16)
	copy(out, b)
	for i := len(b); i < len(out); i++ {
		out[i] = 0x5a
	}
	return out[:len(b)]
}

// places are those around the ends of a list of n bytes, and the outermost ones.
func places(n int) []int {
	out := []int{math.MinInt, math.MinInt + 1, math.MinInt + 3, math.MaxInt, math.MaxInt - 1, math.MaxInt - 2, math.MaxInt - 3, math.MaxInt - 4, math.MinInt32, math.MaxInt32}
	for at := -6; at <= n+6; at++ {
		out = append(out, at)
	}
	return out
}

func fits(n, at, count int) bool {
	return at >= 0 && at < n && n-at >= count
}

// P1.1, examples and hand-made numbers.
func TestReadNumbers(t *testing.T) {
	b := []byte{0x01, 0x02, 0xfe, 0xff, 0x7f, 0x80, 0x00, 0x00}
	u16 := []uint16{0x0201, 0xfe02, 0xfffe, 0x7fff, 0x807f, 0x0080, 0}
	for at, want := range u16 {
		if got, ok := U16(b, at); got != want || !ok {
			t.Errorf("U16 at %d: %x %v, want %x", at, got, ok, want)
		}
	}
	u32 := []uint32{0xfffe0201, 0x7ffffe02, 0x807ffffe, 0x00807fff, 0x0000807f}
	for at, want := range u32 {
		if got, ok := U32(b, at); got != want || !ok {
			t.Errorf("U32 at %d: %x %v, want %x", at, got, ok, want)
		}
	}
	i32 := []int32{-130559, 2147483138, -2139095042, 8421375, 32895}
	for at, want := range i32 {
		if got, ok := I32(b, at); got != want || !ok {
			t.Errorf("I32 at %d: %d %v, want %d", at, got, ok, want)
		}
	}
}

// P1.1, the outermost numbers of a signed one.
func TestReadSigned(t *testing.T) {
	cases := []struct {
		b    []byte
		want int32
	}{
		{[]byte{0, 0, 0, 0}, 0},
		{[]byte{0xff, 0xff, 0xff, 0x7f}, math.MaxInt32},
		{[]byte{0, 0, 0, 0x80}, math.MinInt32},
		{[]byte{0xff, 0xff, 0xff, 0xff}, -1},
		{[]byte{0xfb, 0xff, 0xff, 0xff}, -5},
		{[]byte{1, 0, 0, 0x80}, -2147483647},
	}
	for _, c := range cases {
		if got, ok := I32(c.b, 0); got != c.want || !ok {
			t.Errorf("I32 of % x: %d %v, want %d", c.b, got, ok, c.want)
		}
	}
}

// P1.1, R1, R2: every place at which a byte is missing is refused, with a nought beside; spare room is no part of the list.
func TestReadPlaces(t *testing.T) {
	for n := range 10 {
		b := roomy(bytes.Repeat([]byte{0xff}, n))
		for _, at := range places(n) {
			u16, ok := U16(b, at)
			if want := fits(n, at, 2); ok != want || (u16 == 0xffff) != want || (u16 == 0) == want {
				t.Errorf("U16 of %d bytes at %d: %x %v", n, at, u16, ok)
			}
			want := fits(n, at, 4)
			u32, ok := U32(b, at)
			if ok != want || (u32 == 0xffffffff) != want || (u32 == 0) == want {
				t.Errorf("U32 of %d bytes at %d: %x %v", n, at, u32, ok)
			}
			i32, ok := I32(b, at)
			if ok != want || (i32 == -1) != want || (i32 == 0) == want {
				t.Errorf("I32 of %d bytes at %d: %d %v", n, at, i32, ok)
			}
		}
	}
	if v, ok := U16(nil, 0); v != 0 || ok {
		t.Error("U16 of none:", v, ok)
	}
	if v, ok := U32(nil, 0); v != 0 || ok {
		t.Error("U32 of none:", v, ok)
	}
	if v, ok := I32(nil, 0); v != 0 || ok {
		t.Error("I32 of none:", v, ok)
	}
}

// P1.2, examples and hand-made lists.
func TestPut(t *testing.T) {
	cases := []struct {
		b    []byte
		at   int
		v    uint32
		want []byte
	}{
		{[]byte{0, 0, 0, 0, 9}, 0, 258, []byte{2, 1, 0, 0, 9}},
		{[]byte{9, 8, 7, 6, 5, 4}, 1, 0x04030201, []byte{9, 1, 2, 3, 4, 4}},
		{[]byte{9, 8, 7, 6, 5, 4}, 2, 0, []byte{9, 8, 0, 0, 0, 0}},
		{[]byte{1, 2, 3, 4}, 0, 0xffffffff, []byte{255, 255, 255, 255}},
		{[]byte{1, 2, 3, 4}, 0, 0x80000000, []byte{0, 0, 0, 128}},
	}
	for _, c := range cases {
		if got, e := Put32(c.b, c.at, c.v); e != api.OK || !bytes.Equal(got, c.want) {
			t.Errorf("Put32(% x, %d, %x): % x %v, want % x", c.b, c.at, c.v, got, e, c.want)
		}
	}
}

// P1.2, R1, R2: a place at which a byte is missing is refused, with no bytes beside.
func TestPutPlaces(t *testing.T) {
	for n := range 10 {
		b := roomy(make([]byte, n))
		for _, at := range places(n) {
			got, e := Put32(b, at, 0xffffffff)
			if !fits(n, at, 4) {
				if e != api.ErrArg || got != nil {
					t.Errorf("Put32 into %d bytes at %d: % x %v", n, at, got, e)
				}
				continue
			}
			if e != api.OK || len(got) != n || bytes.Count(got, []byte{255}) != 4 {
				t.Errorf("Put32 into %d bytes at %d: % x %v", n, at, got, e)
			}
		}
	}
	if got, e := Put32(nil, 0, 1); e != api.ErrArg || got != nil {
		t.Error("Put32 into none:", got, e)
	}
}

// P1.3, Same; R6: an empty list and none are the same.
func TestSame(t *testing.T) {
	cases := []struct {
		a, b []byte
		want bool
	}{
		{nil, nil, true},
		{nil, []byte{}, true},
		{[]byte{}, nil, true},
		{nil, []byte{0}, false},
		{[]byte{0}, []byte{}, false},
		{[]byte{1, 2, 3}, []byte{1, 2, 3}, true},
		{[]byte{1, 2, 3}, []byte{1, 2, 4}, false},
		{[]byte{1, 2, 3}, []byte{0, 2, 3}, false},
		{[]byte{1, 2, 3}, []byte{1, 3, 3}, false},
		{[]byte{1, 2, 3}, []byte{1, 2}, false},
		{[]byte{1, 2}, []byte{1, 2, 0}, false},
		{roomy([]byte{1, 2}), []byte{1, 2}, true},
		{roomy([]byte{1, 2}), roomy([]byte{1, 2, 0x5a}), false},
	}
	for _, c := range cases {
		if got := Same(c.a, c.b); got != c.want {
			t.Errorf("Same(% x, % x): %v", c.a, c.b, got)
		}
	}
}

// P1.3, Hex: examples, none, and every byte.
func TestHex(t *testing.T) {
	cases := []struct {
		b    []byte
		want string
	}{
		{nil, ""},
		{[]byte{}, ""},
		{[]byte{0}, "00"},
		{[]byte{0x0f}, "0f"},
		{[]byte{0xf0}, "f0"},
		{[]byte{0, 255, 160}, "00ffa0"},
		{[]byte{0x01, 0x23, 0x45, 0x67, 0x89, 0xab, 0xcd, 0xef}, "0123456789abcdef"},
		{roomy([]byte{0x9a}), "9a"},
	}
	for _, c := range cases {
		if got := Hex(c.b); got != c.want {
			t.Errorf("Hex(% x): %q, want %q", c.b, got, c.want)
		}
	}
	for n := range 256 {
		want := string([]byte{"0123456789abcdef"[n/16], "0123456789abcdef"[n%16]})
		if got := Hex([]byte{byte(n)}); got != want {
			t.Errorf("Hex of %d: %q, want %q", n, got, want)
		}
	}
}

// P1.3, Unhex: ordinary texts.
func TestUnhex(t *testing.T) {
	cases := []struct {
		s    string
		want []byte
	}{
		{"", nil},
		{"00", []byte{0}},
		{"0f", []byte{15}},
		{"f0", []byte{240}},
		{"00ffa0", []byte{0, 255, 160}},
		{"0123456789abcdef", []byte{0x01, 0x23, 0x45, 0x67, 0x89, 0xab, 0xcd, 0xef}},
	}
	for _, c := range cases {
		if got, ok := Unhex(c.s); !ok || !bytes.Equal(got, c.want) {
			t.Errorf("Unhex(%q): % x %v, want % x", c.s, got, ok, c.want)
		}
	}
}

// P1.3, R2: texts that Unhex refuses, with no bytes beside.
func TestUnhexRefuses(t *testing.T) {
	texts := []string{
		"0", "f", "000", "00f", "ffa0b",
		"0g", "g0", "FF", "aF", "Fa", "0A", "00F0",
		"0x", "0 ", " 0", "-1", "+1", "0\n", "00\n\n", "0/", "0:", "0`", "0@", "0G",
		"é", "0é0", "éa", "aé", "€a", "a€", "😀", "00é", "００", "٠", "٠٠",
		"\x00\x00", "\xff\xff", "0\xff", "\xc30", "\x80\x80", "0\xe2",
		"00\x80a", strings.Repeat("00", 100) + "0Z", strings.Repeat("0", 201),
	}
	for _, s := range texts {
		if got, ok := Unhex(s); ok || got != nil {
			t.Errorf("Unhex(%q): % x %v", s, got, ok)
		}
	}
}

// P1.3: of all bytes just sixteen are digits, at either place of a pair.
func TestUnhexDigits(t *testing.T) {
	for n := range 256 {
		want := strings.IndexByte("0123456789abcdef", byte(n))
		high, okHigh := Unhex(string([]byte{byte(n), '0'}))
		low, okLow := Unhex(string([]byte{'0', byte(n)}))
		if want < 0 {
			if okHigh || okLow || high != nil || low != nil {
				t.Errorf("byte %d is taken for a digit", n)
			}
			continue
		}
		if !okHigh || !okLow || !bytes.Equal(high, []byte{byte(16 * want)}) || !bytes.Equal(low, []byte{byte(want)}) {
			t.Errorf("digit %q: % x %v, % x %v", byte(n), high, okHigh, low, okLow)
		}
	}
}

// P1.4: what Put32 puts is read there by U32 and I32, and all other bytes are as they were.
func TestPutThenRead(t *testing.T) {
	b := []byte{10, 20, 30, 40, 50, 60, 70, 80, 90}
	numbers := []uint32{0, 1, 255, 256, 65535, 65536, 1<<31 - 1, 1 << 31, 1<<32 - 1, 0x12345678, 0x87654321}
	for at := range len(b) - 3 {
		for _, v := range numbers {
			got, e := Put32(b, at, v)
			if e != api.OK || len(got) != len(b) {
				t.Fatal(at, v, got, e)
			}
			if r, ok := U32(got, at); !ok || r != v {
				t.Errorf("put %x at %d, read %x %v", v, at, r, ok)
			}
			if r, ok := I32(got, at); !ok || r != int32(v) {
				t.Errorf("put %x at %d, read %d %v", v, at, r, ok)
			}
			if !bytes.Equal(got[:at], b[:at]) || !bytes.Equal(got[at+4:], b[at+4:]) {
				t.Errorf("put %x at %d: other bytes have changed: % x", v, at, got)
			}
		}
	}
}

// P1.4: U32 is made of two U16.
func TestHalves(t *testing.T) {
	b := []byte{0, 1, 127, 128, 255, 254, 0, 0, 200, 3, 255, 255, 255, 255}
	for at := range len(b) - 3 {
		whole, ok := U32(b, at)
		low, okLow := U16(b, at)
		high, okHigh := U16(b, at+2)
		if !ok || !okLow || !okHigh || whole != uint32(low)+65536*uint32(high) {
			t.Errorf("at %d: %x is not %x and %x", at, whole, low, high)
		}
	}
}

// P1.4: Hex and Unhex lead there and back.
func TestThereAndBack(t *testing.T) {
	all := make([]byte, 256)
	for i := range all {
		all[i] = byte(7*i + 3)
	}
	for n := range 257 {
		b := all[:n]
		s := Hex(b)
		got, ok := Unhex(s)
		if !ok || !Same(got, b) {
			t.Errorf("%d bytes come back as % x %v", n, got, ok)
		}
		if again := Hex(got); again != s {
			t.Errorf("%q comes back as %q", s, again)
		}
	}
}

// R3: what is handed in is left as it is, its spare room too.
func TestArgumentsStay(t *testing.T) {
	b := roomy([]byte{1, 2, 3, 4, 5, 6})
	before := bytes.Clone(b[:cap(b)])
	for _, at := range places(len(b)) {
		U16(b, at)
		U32(b, at)
		I32(b, at)
		Put32(b, at, 0xdeadbeef)
	}
	Same(b, b[:3])
	Hex(b)
	if !bytes.Equal(b[:cap(b)], before) {
		t.Errorf("the list handed in is now % x", b[:cap(b)])
	}
}

// R3: what Put32 hands out is new: neither side's bytes nor spare room are the other's, nor those of another answer.
func TestPutIsNew(t *testing.T) {
	b := roomy([]byte{1, 2, 3, 4, 5, 6})
	before := bytes.Clone(b[:cap(b)])
	one, _ := Put32(b, 1, 0x01010101)
	two, _ := Put32(b, 1, 0x01010101)
	want := []byte{1, 1, 1, 1, 1, 6}
	fill(one, 0xee)
	if !bytes.Equal(b[:cap(b)], before) {
		t.Error("a write to the answer is seen in the argument")
	}
	if !bytes.Equal(two, want) {
		t.Error("a write to one answer is seen in another")
	}
	fill(b, 0xdd)
	if !bytes.Equal(two, want) {
		t.Error("a write to the argument is seen in the answer")
	}
}

// R3: the answers of Unhex are new, each of its own.
func TestUnhexIsNew(t *testing.T) {
	one, _ := Unhex("0102")
	two, _ := Unhex("0102")
	fill(one, 0xee)
	if !bytes.Equal(two, []byte{1, 2}) {
		t.Error("a write to one answer is seen in another")
	}
	if three, ok := Unhex("0102"); !ok || !bytes.Equal(three, []byte{1, 2}) {
		t.Error("a write to an answer is seen in a later one")
	}
}

// R3: the text that Hex handed out stays, whatever becomes of the list.
func TestHexIsNew(t *testing.T) {
	b := []byte{1, 2}
	s := Hex(b)
	fill(b, 0xee)
	if s != "0102" {
		t.Errorf("the text is now %q", s)
	}
}

func fill(b []byte, v byte) {
	b = b[:cap(b)]
	for i := range b {
		b[i] = v
	}
}
