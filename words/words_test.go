package words

import (
	"math"
	"math/big"
	"slices"
	"strconv"
	"strings"
	"testing"
	"unsafe"
)

// texts goes through all texts of at most length letters, each letter one of these bytes.
func texts(letters string, length int, yield func(string)) {
	var grow func(string)
	grow = func(s string) {
		yield(s)
		if len(s) == length {
			return
		}
		for i := range len(letters) {
			grow(s + letters[i:i+1])
		}
	}
	grow("")
}

// every byte alone, and the odd ends of texts with several bytes a rune.
func strange() []string {
	out := []string{"ä", "日本", "\xc3", "\xe6\x97", "\xff\xfe", "é1", "\u00a0", "\u2028", "\u0085", "\ufffd", "\x00"}
	for c := range 256 {
		out = append(out, string([]byte{byte(c)}))
	}
	return out
}

// linesOf says P3.1 a second time, byte by byte.
func linesOf(text string) []string {
	var out []string
	var line []byte
	for i := range len(text) {
		if text[i] == 10 {
			out = append(out, string(line))
			line = nil
		} else {
			line = append(line, text[i])
		}
	}
	if len(line) > 0 {
		out = append(out, string(line))
	}
	return out
}

// fieldsOf says P3.2 a second time: a field begins where the byte ahead is none of a field.
func fieldsOf(line string) ([]string, []int) {
	inside := func(i int) bool {
		return i >= 0 && i < len(line) && !slices.Contains([]byte(line[:i+1]), '#') && line[i] != 32 && line[i] != 9 && line[i] != 13
	}
	var fields []string
	var columns []int
	for i := range len(line) {
		if !inside(i) || inside(i-1) {
			continue
		}
		end := i
		for inside(end) {
			end++
		}
		fields = append(fields, line[i:end])
		columns = append(columns, i+1)
	}
	return fields, columns
}

func checkLines(t *testing.T, text string) {
	t.Helper()
	if got, want := Lines(text), linesOf(text); !slices.Equal(got, want) {
		t.Errorf("Lines(%q) = %q, not %q", text, got, want)
	}
}

func checkFields(t *testing.T, line string) {
	t.Helper()
	fields, columns := Fields(line)
	wantFields, wantColumns := fieldsOf(line)
	if !slices.Equal(fields, wantFields) || !slices.Equal(columns, wantColumns) {
		t.Errorf("Fields(%q) = %q at %v, not %q at %v", line, fields, columns, wantFields, wantColumns)
	}
}

// P3.1, as the chapter names them.
func TestLinesNamed(t *testing.T) {
	for _, c := range []struct {
		text string
		want []string
	}{
		{"", nil},
		{"\n", []string{""}},
		{"\n\n", []string{"", ""}},
		{"\n\n\n", []string{"", "", ""}},
		{"a", []string{"a"}},
		{"a\n", []string{"a"}},
		{"a\nb", []string{"a", "b"}},
		{"a\nb\n", []string{"a", "b"}},
		{"a\n\n", []string{"a", ""}},
		{"\na", []string{"", "a"}},
		{"a\n\nb", []string{"a", "", "b"}},
		{" \n", []string{" "}},
		{"a\r\nb\r", []string{"a\r", "b\r"}},
		{"a # b\n# c", []string{"a # b", "# c"}},
		{"\xff\n\xc3\n", []string{"\xff", "\xc3"}},
	} {
		if got := Lines(c.text); !slices.Equal(got, c.want) {
			t.Errorf("Lines(%q) = %q, not %q", c.text, got, c.want)
		}
	}
}

// P3.1
func TestLinesOfAllTexts(t *testing.T) {
	texts("a\n\r \xc3", 6, func(text string) { checkLines(t, text) })
	for _, s := range strange() {
		checkLines(t, s)
		checkLines(t, "a"+s+"\n"+s+"b\n")
	}
	long := strings.Repeat("x", 70000) + "\n"
	checkLines(t, strings.Repeat(long, 3)+"y")
	checkLines(t, strings.Repeat("\n", 70000))
}

// P3.2, as the chapter names them.
func TestFieldsNamed(t *testing.T) {
	for _, c := range []struct {
		line    string
		fields  []string
		columns []int
	}{
		{"mov r1 r2 # x", []string{"mov", "r1", "r2"}, []int{1, 5, 8}},
		{"a#b", []string{"a"}, []int{1}},
		{"\tx\r", []string{"x"}, []int{2}},
		{"# a", nil, nil},
		{"#", nil, nil},
		{"", nil, nil},
		{"   ", nil, nil},
		{"\t\r ", nil, nil},
		{"a", []string{"a"}, []int{1}},
		{"a #", []string{"a"}, []int{1}},
		{"a#", []string{"a"}, []int{1}},
		{"a b#c # d", []string{"a", "b"}, []int{1, 3}},
		{"a\tb\rc d", []string{"a", "b", "c", "d"}, []int{1, 3, 5, 7}},
		{"\r \ta \t\r b\r\t ", []string{"a", "b"}, []int{4, 9}},
		{"a\nb\vc\fd", []string{"a\nb\vc\fd"}, []int{1}},
		{"ä b", []string{"ä", "b"}, []int{1, 4}},
		{"\xff\xc3 b", []string{"\xff\xc3", "b"}, []int{1, 4}},
		{"a\u00a0b\u2028c", []string{"a\u00a0b\u2028c"}, []int{1}},
	} {
		fields, columns := Fields(c.line)
		if !slices.Equal(fields, c.fields) || !slices.Equal(columns, c.columns) {
			t.Errorf("Fields(%q) = %q at %v, not %q at %v", c.line, fields, columns, c.fields, c.columns)
		}
	}
}

// P3.2
func TestFieldsOfAllLines(t *testing.T) {
	texts("a# \t\r\n\xc3", 5, func(line string) { checkFields(t, line) })
	for _, s := range strange() {
		checkFields(t, s)
		checkFields(t, " a"+s+"b "+s+" c")
	}
	checkFields(t, strings.Repeat("ab ", 3000)+"#"+strings.Repeat("c ", 3000))
}

// P3.3: what each byte may do at the beginning and behind.
func TestNameByBytes(t *testing.T) {
	const letters = "abcdefghijklmnopqrstuvwxyzABCDEFGHIJKLMNOPQRSTUVWXYZ_"
	const digits = "0123456789"
	for c := range 256 {
		s := string([]byte{byte(c)})
		first := strings.Contains(letters, s)
		if Name(s) != first || Name(s+"a") != first || Name(s+"1") != first {
			t.Errorf("byte %d at the beginning", c)
		}
		behind := first || strings.Contains(digits, s)
		if Name("a"+s) != behind || Name("_"+s+"9") != behind || Name("abcdefghijklmno"+s) != behind {
			t.Errorf("byte %d behind", c)
		}
	}
}

// P3.3
func TestNameByLength(t *testing.T) {
	for n := range 40 {
		want := n >= 1 && n <= 16
		for _, s := range []string{"a", "Z", "_"} {
			if got := Name(strings.Repeat(s, n)); got != want {
				t.Errorf("Name of %d times %s: %v", n, s, got)
			}
		}
		if Name(strings.Repeat("1", n)) || Name(strings.Repeat("é", n)) || Name(strings.Repeat("\xff", n)) {
			t.Errorf("a name of %d other bytes", n)
		}
	}
	if !Name("_a1") || !Name("abcdefghijklmnop") || !Name("a234567890123456") || Name("a2345678901234567") || Name(strings.Repeat("a", 70000)) {
		t.Error("names of 16 bytes, and no longer ones")
	}
}

// P3.3
func TestNameWrong(t *testing.T) {
	for _, s := range []string{
		"", "1a", "0", "9_", "a-b", "a b", " a", "a ", "a\n", "a\x00", "a.b", "a:", "@a", "[a", "`a", "{a", "/a", "a/", "a#", "é", "aé", "ａ", "а", "a٣", "a\u200d", "\ufffd", "a\xff", "\x80",
	} {
		if Name(s) {
			t.Errorf("Name(%q)", s)
		}
	}
}

// numberOf says P3.4 a second time, by numbers of any length.
func numberOf(s string) (int64, bool) {
	n, ok := new(big.Int).SetString(s, 10)
	if !ok || n.String() != s || !n.IsInt64() {
		return 0, false
	}
	return n.Int64(), true
}

func checkNumber(t *testing.T, s string) {
	t.Helper()
	got, ok := Number(s)
	want, wantOk := numberOf(s)
	if got != want || ok != wantOk {
		t.Errorf("Number(%q) = %d, %v, not %d, %v", s, got, ok, want, wantOk)
	}
}

// P3.4
func TestNumberRead(t *testing.T) {
	for s, want := range map[string]int64{
		"0": 0, "1": 1, "-1": -1, "9": 9, "-12": -12, "10": 10, "-10": -10, "100": 100, "4096": 4096,
		"9223372036854775806": math.MaxInt64 - 1, "9223372036854775807": math.MaxInt64,
		"-9223372036854775807": -math.MaxInt64, "-9223372036854775808": math.MinInt64,
	} {
		if got, ok := Number(s); got != want || !ok {
			t.Errorf("Number(%q) = %d, %v", s, got, ok)
		}
	}
}

// P3.4 and R2: beside false the number is 0.
func TestNumberRefused(t *testing.T) {
	for _, s := range []string{
		"", "-", "+", "-0", "+0", "00", "007", "-007", "-00", "01", "+1", "--1", "-+1", "+-1", "1-", "1-2", "12a", "a12", "1 ", " 1", "1\n", "-1 ", "- 1",
		"1.0", "1e3", "0x10", "0b1", "1_000", "_1", "1,0", "\x00", "1\x00", "٣", "1٣", "１", "\xff", "1\xff", "−1",
		"9223372036854775808", "-9223372036854775809", "9999999999999999999", "10000000000000000000", "-10000000000000000000",
		"18446744073709551615", "18446744073709551616", "18446744073709551617", "-18446744073709551617", "9223372036854775807a", "9223372036854775808a",
		"340282366920938463463374607431768211457", strings.Repeat("1", 5000), "-" + strings.Repeat("9", 5000), strings.Repeat("0", 5000),
	} {
		if got, ok := Number(s); got != 0 || ok {
			t.Errorf("Number(%q) = %d, %v", s, got, ok)
		}
	}
}

// P3.4
func TestNumberOfAllTexts(t *testing.T) {
	texts("-+019a _\xff", 4, func(s string) { checkNumber(t, s) })
	for _, s := range strange() {
		checkNumber(t, s)
		checkNumber(t, s+"1")
		checkNumber(t, "1"+s)
		checkNumber(t, "-"+s)
		checkNumber(t, "92233720368547758"+s)
	}
	for _, ahead := range []string{"922337203685477580", "-922337203685477580"} {
		for d := range 100 {
			checkNumber(t, ahead+strconv.Itoa(d))
		}
	}
}

// P3.5, of lines.
func TestLinesTogether(t *testing.T) {
	texts("a\n\r#\xff", 6, func(text string) {
		var all strings.Builder
		for _, line := range Lines(text) {
			all.WriteString(line + "\n")
		}
		whole := text
		if text != "" && !strings.HasSuffix(text, "\n") {
			whole += "\n"
		}
		if all.String() != whole {
			t.Errorf("the lines of %q together are %q", text, all.String())
		}
	})
}

// P3.5, of fields.
func TestFieldsTogether(t *testing.T) {
	texts("ab# \t\r\xff", 5, func(line string) {
		fields, _ := Fields(line)
		again, columns := Fields(strings.Join(fields, " "))
		if !slices.Equal(fields, again) {
			t.Errorf("the fields of %q, %q, are read as %q", line, fields, again)
		}
		next := 1
		for i := range columns {
			if columns[i] != next {
				t.Errorf("field %d of %q at %d", i, line, columns[i])
			}
			next += len(again[i]) + 1
		}
	})
}

// P3.5, of numbers.
func TestNumbersThereAndBack(t *testing.T) {
	check := func(n int64) {
		if got, ok := Number(strconv.FormatInt(n, 10)); got != n || !ok {
			t.Errorf("%d is read as %d, %v", n, got, ok)
		}
	}
	for n := int64(-2000); n <= 2000; n++ {
		check(n)
		check(math.MinInt64 + 2000 + n)
		check(math.MaxInt64 - 2000 - n)
	}
	for bit := range 63 {
		n := int64(1) << bit
		check(n - 1)
		check(n)
		check(n + 1)
		check(-n - 1)
		check(-n)
		check(-n + 1)
	}
}

func within(text, part string) bool {
	if part == "" {
		return false
	}
	begin := uintptr(unsafe.Pointer(unsafe.StringData(text)))
	at := uintptr(unsafe.Pointer(unsafe.StringData(part)))
	return at >= begin && at < begin+uintptr(len(text))
}

// R3: what is handed out is the caller's own, spare room too, and keeps nothing of what was handed in.
func TestAnswersAreNew(t *testing.T) {
	text := strings.Repeat("mov r1 r2 # x\n", 5)
	one, two := Lines(text), Lines(text)
	clear(one[:cap(one)])
	if !slices.Equal(two, linesOf(text)) || !slices.Equal(Lines(text), two) {
		t.Error("lists of lines share memory")
	}
	fields, columns := Fields(text)
	again, at := Fields(text)
	clear(fields[:cap(fields)])
	clear(columns[:cap(columns)])
	wantFields, wantColumns := fieldsOf(text)
	if !slices.Equal(again, wantFields) || !slices.Equal(at, wantColumns) {
		t.Error("lists of fields share memory")
	}
	if within(text, two[0]) || within(text, again[0]) {
		t.Error("a part of what was handed in is handed out")
	}
}
