package source

import (
	"bytes"
	"fmt"
	"math"
	"math/big"
	"reflect"
	"regexp"
	"slices"
	"strconv"
	"strings"
	"testing"
	"unsafe"

	"switchyard/api"
)

const (
	sixteen   = "a234567890123456"
	seventeen = "a2345678901234567"
)

// rows is the chapter's table, written out a second time: what each field of a line must be. A byte's line is one row for each number of numbers.
func rows() [][]string {
	var out [][]string
	for _, s := range []string{
		"LABEL:", "movi REG INT", "mov REG REG", "add REG REG", "sub REG REG",
		"bz REG NAME", "bnz REG NAME", "load REG NAME", "store REG NAME", "jmp NAME", "call NAME", "out REG",
		"halt", "nop", "nop5", "brk", "ret", "mark NAME NAME", "space ROOM", "align MULTIPLE", "global NAME",
	} {
		out = append(out, strings.Split(s, " "))
	}
	for n := 1; n <= 64; n++ {
		out = append(out, append([]string{"byte"}, slices.Repeat([]string{"OCTET"}, n)...))
	}
	return out
}

var (
	nameForm   = regexp.MustCompile(`^[a-zA-Z_][a-zA-Z0-9_]{0,15}$`)
	numberForm = regexp.MustCompile(`^(0|-?[1-9][0-9]*)$`)
	fieldForm  = regexp.MustCompile(`[^ \t\r]+`)
	table      = rows()
)

func numberOf(field string) (int64, bool) {
	if !numberForm.MatchString(field) {
		return 0, false
	}
	n, _ := new(big.Int).SetString(field, 10)
	return n.Int64(), n.IsInt64()
}

// within says of a pattern that asks for a NUM whether n is in its bounds; number: whether it asks for one.
func within(pattern string, n int64) (number, ok bool) {
	switch pattern {
	case "INT":
		return true, n >= -1<<31 && n <= 1<<31-1
	case "OCTET":
		return true, n >= 0 && n <= 255
	case "ROOM":
		return true, n >= 0 && n <= 4096
	case "MULTIPLE":
		return true, slices.Contains([]int64{1, 2, 4, 8, 16, 32, 64}, n)
	}
	return false, false
}

func fits(pattern, field string) bool {
	switch pattern {
	case "LABEL:":
		return strings.HasSuffix(field, ":") && nameForm.MatchString(strings.TrimSuffix(field, ":"))
	case "REG":
		return slices.Contains([]string{"r0", "r1", "r2", "r3", "r4", "r5", "r6", "r7"}, field)
	case "NAME":
		return nameForm.MatchString(field)
	}
	if number, _ := within(pattern, 0); !number {
		return pattern == field
	}
	n, ok := numberOf(field)
	_, in := within(pattern, n)
	return ok && in
}

func beyond(pattern, field string) bool {
	n, ok := numberOf(field)
	number, in := within(pattern, n)
	return ok && number && !in
}

func opOf(name string) api.Op {
	names := []string{"", "halt", "nop", "nop5", "brk", "movi", "mov", "add", "sub", "bz", "bnz", "jmp", "call", "ret", "load", "store", "out"}
	return api.Op(max(slices.Index(names, name), 0))
}

func itemOf(row, fields []string) api.Item {
	kinds := map[string]api.ItemKind{"LABEL:": 1, "mark": 3, "byte": 4, "space": 5, "align": 6, "global": 7}
	x := api.Item{Kind: 2, I: api.Instr{Op: opOf(row[0])}}
	if kind, ok := kinds[row[0]]; ok {
		x.Kind = kind
	}
	for i, f := range fields {
		n, _ := strconv.ParseInt(f, 10, 64)
		switch row[i] {
		case "LABEL:":
			x.Name = f[:len(f)-1]
		case "REG":
			if i == 1 {
				x.I.A = f[1] - '0'
			} else {
				x.I.B = f[1] - '0'
			}
		case "NAME":
			if row[0] == "mark" && i == 2 {
				x.To = f
			} else {
				x.Name = f
			}
		case "INT":
			x.I.N = int32(n)
		case "OCTET":
			x.Data = append(x.Data, byte(n))
		case "ROOM", "MULTIPLE":
			x.N = int(n)
		}
	}
	return x
}

type said struct {
	item api.Item
	ok   bool
	e    api.Errno
	col  int
}

// lineSays says P4.1 a second time, word by word: the rows that begin with the fields ahead are kept till a field leaves none.
func lineSays(line string) said {
	var fields []string
	var columns []int
	ahead, _, _ := strings.Cut(line, "#")
	for _, at := range fieldForm.FindAllStringIndex(ahead, -1) {
		fields = append(fields, line[at[0]:at[1]])
		columns = append(columns, at[0]+1)
	}
	if len(fields) == 0 {
		return said{}
	}
	left := slices.Clone(table)
	for i, f := range fields {
		left = slices.DeleteFunc(left, func(row []string) bool { return len(row) <= i })
		out := slices.ContainsFunc(left, func(row []string) bool { return beyond(row[i], f) })
		left = slices.DeleteFunc(left, func(row []string) bool { return !fits(row[i], f) })
		if len(left) == 0 && out {
			return said{e: api.ErrRange, col: columns[i]}
		}
		if len(left) == 0 {
			return said{e: api.ErrSyntax, col: columns[i]}
		}
	}
	for _, row := range left {
		if len(row) == len(fields) {
			return said{item: itemOf(row, fields), ok: true}
		}
	}
	return said{e: api.ErrSyntax, col: len(line) + 1}
}

// alike holds items against each other so that an empty list of bytes and none are the same.
func alike(a, b api.Item) bool {
	if !bytes.Equal(a.Data, b.Data) {
		return false
	}
	a.Data, b.Data = nil, nil
	return reflect.DeepEqual(a, b)
}

func allAlike(a, b []api.Item) bool {
	return slices.EqualFunc(a, b, alike)
}

func checkLine(t *testing.T, line string, want said) {
	t.Helper()
	x, ok, e, col := Line(line)
	if !alike(x, want.item) || ok != want.ok || e != want.e || col != want.col {
		t.Errorf("Line(%q) = %v %v %d %d, not %v", line, x, ok, e, col, want)
	}
}

func instr(o api.Op, a, b uint8, n int32, label string) said {
	return said{item: api.Item{Kind: api.ItemInstr, I: api.Instr{Op: o, A: a, B: b, N: n}, Name: label}, ok: true}
}

func item(x api.Item) said { return said{item: x, ok: true} }

func wrong(e api.Errno, col int) said { return said{e: e, col: col} }

// P4.1: every row of the table.
func TestLineRows(t *testing.T) {
	for _, c := range []struct {
		line string
		want said
	}{
		{"loop:", item(api.Item{Kind: api.ItemLabel, Name: "loop"})},
		{"  _: # x", item(api.Item{Kind: api.ItemLabel, Name: "_"})},
		{sixteen + ":", item(api.Item{Kind: api.ItemLabel, Name: sixteen})},
		{"halt:", item(api.Item{Kind: api.ItemLabel, Name: "halt"})},
		{"byte:", item(api.Item{Kind: api.ItemLabel, Name: "byte"})},
		{"r0:", item(api.Item{Kind: api.ItemLabel, Name: "r0"})},
		{"movi r3 -5", instr(api.Movi, 3, 0, -5, "")},
		{"movi r7 0", instr(api.Movi, 7, 0, 0, "")},
		{"movi r0 -2147483648", instr(api.Movi, 0, 0, math.MinInt32, "")},
		{"movi r0 2147483647", instr(api.Movi, 0, 0, math.MaxInt32, "")},
		{"mov r0 r7", instr(api.Mov, 0, 7, 0, "")},
		{"add r1 r2", instr(api.Add, 1, 2, 0, "")},
		{"sub r7 r0", instr(api.Sub, 7, 0, 0, "")},
		{"bz r5 x", instr(api.Bz, 5, 0, 0, "x")},
		{"bnz r6 x1", instr(api.Bnz, 6, 0, 0, "x1")},
		{"load r4 " + sixteen, instr(api.Load, 4, 0, 0, sixteen)},
		{"store r0 r0", instr(api.Store, 0, 0, 0, "r0")},
		{"jmp _a", instr(api.Jmp, 0, 0, 0, "_a")},
		{"call halt", instr(api.Call, 0, 0, 0, "halt")},
		{"out r7", instr(api.Out, 7, 0, 0, "")},
		{"halt", instr(api.Halt, 0, 0, 0, "")},
		{"nop", instr(api.Nop, 0, 0, 0, "")},
		{"nop5", instr(api.Nop5, 0, 0, 0, "")},
		{"brk", instr(api.Brk, 0, 0, 0, "")},
		{"ret", instr(api.Ret, 0, 0, 0, "")},
		{"mark k out", item(api.Item{Kind: api.ItemMark, Name: "k", To: "out"})},
		{"byte 7", item(api.Item{Kind: api.ItemBytes, Data: []byte{7}})},
		{"byte 0 255 1", item(api.Item{Kind: api.ItemBytes, Data: []byte{0, 255, 1}})},
		{"space 0", item(api.Item{Kind: api.ItemSpace})},
		{"space 4096", item(api.Item{Kind: api.ItemSpace, N: 4096})},
		{"align 1", item(api.Item{Kind: api.ItemAlign, N: 1})},
		{"align 64", item(api.Item{Kind: api.ItemAlign, N: 64})},
		{"global a", item(api.Item{Kind: api.ItemGlobal, Name: "a"})},
	} {
		checkLine(t, c.line, c.want)
	}
}

// P4.1: lines that say nothing.
func TestLineWithoutFields(t *testing.T) {
	for _, line := range []string{"", " ", "\t", "\r", " \t\r ", "#", "# halt", "  # jump", "#halt:", "##"} {
		checkLine(t, line, said{})
	}
}

// P4.1: the first field that can't stand, and its column.
func TestLineWrong(t *testing.T) {
	for _, c := range []struct {
		line string
		want said
	}{
		{"jump x", wrong(api.ErrSyntax, 1)}, {"a b:", wrong(api.ErrSyntax, 1)}, {"x", wrong(api.ErrSyntax, 1)}, {"5", wrong(api.ErrSyntax, 1)},
		{"Halt", wrong(api.ErrSyntax, 1)}, {"HALT", wrong(api.ErrSyntax, 1)}, {"nop6", wrong(api.ErrSyntax, 1)}, {"r0", wrong(api.ErrSyntax, 1)},
		{":", wrong(api.ErrSyntax, 1)}, {"a::", wrong(api.ErrSyntax, 1)}, {":a", wrong(api.ErrSyntax, 1)}, {"a:b", wrong(api.ErrSyntax, 1)}, {"1a:", wrong(api.ErrSyntax, 1)},
		{seventeen + ":", wrong(api.ErrSyntax, 1)}, {"é:", wrong(api.ErrSyntax, 1)}, {"\xff", wrong(api.ErrSyntax, 1)}, {"halt\x00", wrong(api.ErrSyntax, 1)},
		{"halt now", wrong(api.ErrSyntax, 6)}, {"halt :", wrong(api.ErrSyntax, 6)}, {"x: halt", wrong(api.ErrSyntax, 4)}, {"x: y:", wrong(api.ErrSyntax, 4)}, {"x: 1", wrong(api.ErrSyntax, 4)},
		{"movi r8 1", wrong(api.ErrSyntax, 6)}, {"movi r8", wrong(api.ErrSyntax, 6)}, {"movi R1 1", wrong(api.ErrSyntax, 6)}, {"movi r 1", wrong(api.ErrSyntax, 6)},
		{"movi r00 1", wrong(api.ErrSyntax, 6)}, {"movi r-1 1", wrong(api.ErrSyntax, 6)}, {"movi 1 1", wrong(api.ErrSyntax, 6)}, {"movi r1é 1", wrong(api.ErrSyntax, 6)}, {"movi é 1", wrong(api.ErrSyntax, 6)},
		{"movi r1 2147483648", wrong(api.ErrRange, 9)}, {"movi r1 -2147483649", wrong(api.ErrRange, 9)}, {"movi r1 9999999999", wrong(api.ErrRange, 9)},
		{"movi r1 4294967296", wrong(api.ErrRange, 9)}, {"movi r1 9223372036854775807", wrong(api.ErrRange, 9)}, {"movi r1 -9223372036854775808", wrong(api.ErrRange, 9)},
		{"movi r1 9223372036854775808", wrong(api.ErrSyntax, 9)}, {"movi r1 -0", wrong(api.ErrSyntax, 9)}, {"movi r1 007", wrong(api.ErrSyntax, 9)}, {"movi r1 +1", wrong(api.ErrSyntax, 9)},
		{"movi r1 x", wrong(api.ErrSyntax, 9)}, {"movi r1 1 2", wrong(api.ErrSyntax, 11)}, {"movi r1 9999999999 2", wrong(api.ErrRange, 9)},
		{"mov r1 8", wrong(api.ErrSyntax, 8)}, {"mov r1 r8", wrong(api.ErrSyntax, 8)}, {"add r1 a", wrong(api.ErrSyntax, 8)}, {"sub r1 r2 r3", wrong(api.ErrSyntax, 11)},
		{"bz x r1", wrong(api.ErrSyntax, 4)}, {"bnz r1 1", wrong(api.ErrSyntax, 8)}, {"load r1 " + seventeen, wrong(api.ErrSyntax, 9)}, {"store r1 a-b", wrong(api.ErrSyntax, 10)}, {"store r1 a b", wrong(api.ErrSyntax, 12)},
		{"jmp 5", wrong(api.ErrSyntax, 5)}, {"jmp a:", wrong(api.ErrSyntax, 5)}, {"call a\xff", wrong(api.ErrSyntax, 6)}, {"call a b", wrong(api.ErrSyntax, 8)}, {"out 1", wrong(api.ErrSyntax, 5)}, {"out r1 r2", wrong(api.ErrSyntax, 8)},
		{"mark 1 a", wrong(api.ErrSyntax, 6)}, {"mark k 1", wrong(api.ErrSyntax, 8)}, {"mark k a b", wrong(api.ErrSyntax, 10)}, {"mark " + seventeen + " a", wrong(api.ErrSyntax, 6)},
		{"byte 1 256", wrong(api.ErrRange, 8)}, {"byte -1", wrong(api.ErrRange, 6)}, {"byte 256 x", wrong(api.ErrRange, 6)}, {"byte x 256", wrong(api.ErrSyntax, 6)}, {"byte 1 r1", wrong(api.ErrSyntax, 8)}, {"byte 1 01", wrong(api.ErrSyntax, 8)},
		{"space -1", wrong(api.ErrRange, 7)}, {"space 4097", wrong(api.ErrRange, 7)}, {"space x", wrong(api.ErrSyntax, 7)}, {"space 1 1", wrong(api.ErrSyntax, 9)},
		{"align 3", wrong(api.ErrRange, 7)}, {"align 0", wrong(api.ErrRange, 7)}, {"align -8", wrong(api.ErrRange, 7)}, {"align 128", wrong(api.ErrRange, 7)}, {"align 08", wrong(api.ErrSyntax, 7)}, {"align 8 8", wrong(api.ErrSyntax, 9)},
		{"align -9223372036854775808", wrong(api.ErrRange, 7)}, {"align 4294967297", wrong(api.ErrRange, 7)}, {"space 4294967296", wrong(api.ErrRange, 7)}, {"byte 4294967297", wrong(api.ErrRange, 6)},
		{"global 1", wrong(api.ErrSyntax, 8)}, {"global a b", wrong(api.ErrSyntax, 10)}, {"global é", wrong(api.ErrSyntax, 8)},
		{"nop\n", wrong(api.ErrSyntax, 1)}, {"nop \nnop", wrong(api.ErrSyntax, 5)}, {"jmp a\n", wrong(api.ErrSyntax, 5)}, {"\n", wrong(api.ErrSyntax, 1)}, {"a:\nb:", wrong(api.ErrSyntax, 1)},
	} {
		checkLine(t, c.line, c.want)
	}
}

// P4.1: where the line ends too early, its bytes count, blanks and comments too.
func TestLineTooEarly(t *testing.T) {
	for _, short := range []string{
		"movi", "movi r1", "mov", "mov r1", "add", "add r1", "sub", "sub r1", "bz", "bz r1", "bnz", "bnz r1", "load", "load r1",
		"store", "store r1", "jmp", "call", "out", "mark", "mark k", "byte", "space", "align", "global",
	} {
		for _, behind := range []string{"", " ", "\t\r ", "#", " # r1 x é"} {
			for _, ahead := range []string{"", "  ", "\t\r"} {
				line := ahead + short + behind
				checkLine(t, line, wrong(api.ErrSyntax, len(line)+1))
			}
		}
	}
	checkLine(t, "movi r1", wrong(api.ErrSyntax, 8))
	checkLine(t, "byte", wrong(api.ErrSyntax, 5))
}

// P4.1: columns count bytes from 1 on, whatever stands between the fields.
func TestLineColumns(t *testing.T) {
	checkLine(t, " jump", wrong(api.ErrSyntax, 2))
	checkLine(t, "\t\r jump", wrong(api.ErrSyntax, 4))
	checkLine(t, "\rmovi\t\tr1  \r 9999999999", wrong(api.ErrRange, 14))
	checkLine(t, "  é:", wrong(api.ErrSyntax, 3))
	checkLine(t, "\tmov\tr1\tr2\té", wrong(api.ErrSyntax, 12))
	checkLine(t, "\tmov\tr1\tr2\r", instr(api.Mov, 1, 2, 0, ""))
	checkLine(t, "  movi r3 -5 # five", instr(api.Movi, 3, 0, -5, ""))
	checkLine(t, "out r1# r2", instr(api.Out, 1, 0, 0, ""))
	checkLine(t, "a:#b", item(api.Item{Kind: api.ItemLabel, Name: "a"}))
	checkLine(t, "byte 1\u00a02", wrong(api.ErrSyntax, 6))
}

// P4.1: a line of bytes has 1 to 64 numbers; one more has no place at all, so no bounds either.
func TestLineBytes(t *testing.T) {
	line := "byte"
	var data []byte
	for n := range 64 {
		line += " " + strconv.Itoa(n*4)
		data = append(data, byte(n*4))
		checkLine(t, line, item(api.Item{Kind: api.ItemBytes, Data: data}))
	}
	for _, more := range []string{"1", "256", "-1", "x"} {
		checkLine(t, line+" "+more, wrong(api.ErrSyntax, len(line)+2))
		checkLine(t, line+" "+more+" 300", wrong(api.ErrSyntax, len(line)+2))
	}
	checkLine(t, strings.TrimSuffix(line, " 252")+" 256", wrong(api.ErrRange, len(line)-2))
}

// P4.1: numbers around the bounds of each place.
func TestLineNumbers(t *testing.T) {
	for n := -300; n <= 4200; n++ {
		for _, first := range []string{"byte ", "byte 1 2 ", "space ", "align ", "movi r1 "} {
			line := first + strconv.Itoa(n)
			checkLine(t, line, lineSays(line))
		}
	}
	for _, near := range []int64{math.MinInt64 + 3, math.MinInt32, 1 << 31, 1 << 32, math.MaxInt64 - 3} {
		for n := near - 3; n != near+4; n++ {
			for _, first := range []string{"byte ", "space ", "align ", "movi r7 "} {
				line := first + strconv.FormatInt(n, 10)
				checkLine(t, line, lineSays(line))
			}
		}
	}
}

// P4.1: all lines of few fields, against the second telling.
func TestLineOfAllFields(t *testing.T) {
	firsts := []string{
		"x:", "movi", "mov", "add", "sub", "bz", "bnz", "load", "store", "jmp", "call", "out", "halt", "nop", "nop5", "brk", "ret",
		"mark", "byte", "space", "align", "global", "jump", "x", ":", "r1", "1", "é:", seventeen + ":", "Mov",
	}
	others := []string{
		"r0", "r7", "r8", "r", "R1", "x", "x:", sixteen, seventeen, "halt", "0", "1", "-1", "64", "3", "255", "256", "4096", "4097", "2147483648", "9223372036854775808", "007", "é",
	}
	try := func(fields ...string) {
		line := strings.Join(fields, " ")
		checkLine(t, line, lineSays(line))
	}
	for _, a := range firsts {
		try(a)
		for _, b := range others {
			try(a, b)
			for _, c := range others {
				try(a, b, c)
				try("", a, "\t", b, c, "1", "r1 #")
			}
		}
	}
}

// P4.1: every byte at every place of some lines, and each line cut short.
func TestLineOfAllBytes(t *testing.T) {
	for _, line := range []string{"a:", "movi r1 25", "mark k a", "byte 1 2", "bz r1 a", "nop5", "align 8"} {
		for at := range len(line) {
			checkLine(t, line[:at], lineSays(line[:at]))
			for c := range 256 {
				b := []byte(line)
				b[at] = byte(c)
				checkLine(t, string(b), lineSays(string(b)))
				more := line[:at] + string([]byte{byte(c)}) + line[at:]
				checkLine(t, more, lineSays(more))
			}
		}
	}
}

func checkParse(t *testing.T, text string, want []api.Item, fault api.Fault) {
	t.Helper()
	l, f := Parse(text)
	if !allAlike(l, want) || f != fault {
		t.Errorf("Parse(%.200q) = %d items, %v, not %d, %v", text, len(l), f, len(want), fault)
	}
}

func mark(key, to string) api.Item { return api.Item{Kind: api.ItemMark, Name: key, To: to} }

func label(s string) api.Item { return api.Item{Kind: api.ItemLabel, Name: s} }

func op(o api.Op) api.Item { return api.Item{Kind: api.ItemInstr, I: api.Instr{Op: o}} }

// P4.2: items in order; lines that say nothing are passed over.
func TestParse(t *testing.T) {
	four := []api.Item{mark("k", "out"), op(api.Nop5), label("out"), op(api.Halt)}
	checkParse(t, "mark k out\nnop5\nout:\nhalt", four, api.Fault{})
	checkParse(t, "mark k out\nnop5\nout:\nhalt\n", four, api.Fault{})
	checkParse(t, "\n \n# first\n\tmark k out # a site\r\n\n# between\nnop5\r\nout:\r\n\n\nhalt\n\n", four, api.Fault{})
	for _, empty := range []string{"", "\n", "\n\n", "#", " \t\r\n# halt\n"} {
		checkParse(t, empty, nil, api.Fault{})
	}
	checkParse(t, "mark k a\nmark j b\n\nnop5", []api.Item{mark("k", "a"), mark("j", "b"), op(api.Nop5)}, api.Fault{})
}

// P4.2: the first line with an error counts, ahead of all that Check would say.
func TestParseLineErrors(t *testing.T) {
	for _, c := range []struct {
		text string
		want api.Fault
	}{
		{"mark k out\nnop5\nout: halt\n", api.Fault{Err: api.ErrSyntax, Line: 3, Col: 6}},
		{"jump", api.Fault{Err: api.ErrSyntax, Line: 1, Col: 1}},
		{"\n\n  jump", api.Fault{Err: api.ErrSyntax, Line: 3, Col: 3}},
		{"nop\nmovi r1 9999999999\njump", api.Fault{Err: api.ErrRange, Line: 2, Col: 9}},
		{"nop\n jump\nmovi r1 9999999999", api.Fault{Err: api.ErrSyntax, Line: 2, Col: 2}},
		{"# one\nmovi r1 # two\nnop", api.Fault{Err: api.ErrSyntax, Line: 2, Col: 14}},
		{"mark k a\nnop\nbyte 256", api.Fault{Err: api.ErrRange, Line: 3, Col: 6}},
		{"mark k a\njump", api.Fault{Err: api.ErrSyntax, Line: 2, Col: 1}},
		{"nop\n\xff\xfe", api.Fault{Err: api.ErrSyntax, Line: 2, Col: 1}},
	} {
		checkParse(t, c.text, nil, c.want)
	}
}

// P4.2: Check's error has the line of its item.
func TestParseSiteForm(t *testing.T) {
	for _, c := range []struct {
		text string
		line int
	}{
		{"mark k out\nnop", 1}, {"mark k out", 1}, {"nop\n\nmark k out", 3}, {"\n# x\n  mark k out\n\nhalt\nmark j out", 3},
		{"mark k a\nmark j a\n", 2}, {"mark k a\nnop5\n\nmark j a\nx:\nnop5", 4}, {"mark k a\nx:\nnop5", 1},
	} {
		checkParse(t, c.text, nil, api.Fault{Err: api.ErrSiteForm, Line: c.line, Col: 1})
	}
}

// P4.2: MaxText bytes and one more; a text that is too long is not read at all.
func TestParseLong(t *testing.T) {
	checkParse(t, "nop\n"+strings.Repeat("#", api.MaxText-4), []api.Item{op(api.Nop)}, api.Fault{})
	checkParse(t, "nop\n"+strings.Repeat("#", api.MaxText-3), nil, api.Fault{Err: api.ErrLong})
	checkParse(t, "jump\n"+strings.Repeat(" ", api.MaxText-5), nil, api.Fault{Err: api.ErrSyntax, Line: 1, Col: 1})
	checkParse(t, "jump\n"+strings.Repeat(" ", api.MaxText-4), nil, api.Fault{Err: api.ErrLong})
	checkParse(t, strings.Repeat("\n", api.MaxText), nil, api.Fault{})
	checkParse(t, strings.Repeat("\n", api.MaxText+1), nil, api.Fault{Err: api.ErrLong})
	checkParse(t, strings.Repeat("\xff", 1<<20), nil, api.Fault{Err: api.ErrLong})
}

// P4.2: MaxItems items and one more, by the line that says it; lines are gone through in order.
func TestParseManyItems(t *testing.T) {
	full := strings.Repeat("nop\n", api.MaxItems)
	items := slices.Repeat([]api.Item{op(api.Nop)}, api.MaxItems)
	checkParse(t, full, items, api.Fault{})
	checkParse(t, full+"\n# nothing\n \n", items, api.Fault{})
	checkParse(t, full+"nop", nil, api.Fault{Err: api.ErrLong, Line: api.MaxItems + 1, Col: 1})
	checkParse(t, full+"\n\n   halt\nnop\n", nil, api.Fault{Err: api.ErrLong, Line: api.MaxItems + 3, Col: 1})
	checkParse(t, full+"jump", nil, api.Fault{Err: api.ErrSyntax, Line: api.MaxItems + 1, Col: 1})
	checkParse(t, full+"nop\njump", nil, api.Fault{Err: api.ErrLong, Line: api.MaxItems + 1, Col: 1})
	checkParse(t, "jump\n"+full+"nop", nil, api.Fault{Err: api.ErrSyntax, Line: 1, Col: 1})
	checkParse(t, "mark k a\n"+full, nil, api.Fault{Err: api.ErrLong, Line: api.MaxItems + 1, Col: 1})
	checkParse(t, full[4:]+"mark k a", nil, api.Fault{Err: api.ErrSiteForm, Line: api.MaxItems, Col: 1})
}

func isName(s string) bool { return nameForm.MatchString(s) }

// mayBeOf says a second time which items may be: what its kind does not name is taken away from an item, and nothing may be lost by that.
func mayBeOf(x api.Item) bool {
	kept := api.Item{Kind: x.Kind}
	right := false
	switch x.Kind {
	case api.ItemLabel, api.ItemGlobal:
		kept.Name = x.Name
		right = isName(x.Name)
	case api.ItemInstr:
		kept, right = instrOf(x)
	case api.ItemMark:
		kept.Name, kept.To = x.Name, x.To
		right = isName(x.Name) && isName(x.To)
	case api.ItemBytes:
		kept.Data = x.Data
		right = len(x.Data) >= 1 && len(x.Data) <= 64
	case api.ItemSpace:
		kept.N = x.N
		right = x.N >= 0 && x.N <= 4096
	case api.ItemAlign:
		kept.N = x.N
		right = slices.Contains([]int{1, 2, 4, 8, 16, 32, 64}, x.N)
	}
	return right && alike(kept, x)
}

func instrOf(x api.Item) (api.Item, bool) {
	kept := op(x.I.Op)
	row := ""
	for _, r := range table {
		if o := opOf(r[0]); o != 0 && o == x.I.Op {
			row = strings.Join(r, " ")
		}
	}
	if strings.Contains(row, " REG") {
		kept.I.A = x.I.A
	}
	if strings.Contains(row, " REG REG") {
		kept.I.B = x.I.B
	}
	if strings.Contains(row, " INT") {
		kept.I.N = x.I.N
	}
	asks := strings.Contains(row, " NAME")
	if asks {
		kept.Name = x.Name
	}
	return kept, row != "" && x.I.A < 8 && x.I.B < 8 && (!asks || isName(x.Name))
}

// shown is a piece of what was handed in: all of it may be of millions of bytes.
func shown(l []api.Item) string {
	var out []string
	for _, x := range l[:min(len(l), 3)] {
		out = append(out, fmt.Sprintf("{%d %.20q %.20q %v %d, %d bytes}", x.Kind, x.Name, x.To, x.I, x.N, len(x.Data)))
	}
	return strings.Join(out, " ")
}

func checkCheck(t *testing.T, l []api.Item, e api.Errno, at int) {
	t.Helper()
	gotE, gotAt := Check(l)
	if gotE != e || gotAt != at {
		t.Errorf("Check of %d items, %s ..: %d %d, not %d %d", len(l), shown(l), gotE, gotAt, e, at)
	}
}

// alone holds an item against the second telling; a mark has its no-op behind it.
func alone(t *testing.T, x api.Item) {
	t.Helper()
	e := api.ErrArg
	at := 1
	if mayBeOf(x) {
		e, at = api.OK, 0
	}
	checkCheck(t, []api.Item{op(api.Nop), x, op(api.Nop5)}, e, at)
}

// P4.3: every kind with every other field's values, right and wrong ones.
func TestCheckItems(t *testing.T) {
	var instrs []api.Instr
	for o := range 18 {
		for _, i := range []api.Instr{{}, {A: 7}, {A: 8}, {B: 7}, {B: 8}, {N: 1}, {A: 255, B: 255, N: -1}} {
			i.Op = api.Op(o)
			instrs = append(instrs, i)
		}
	}
	instrs = append(instrs, api.Instr{Op: 255}, api.Instr{Op: api.Movi, A: 3, N: math.MinInt32}, api.Instr{Op: api.Load, N: 65535})
	for _, kind := range []api.ItemKind{0, 1, 2, 3, 4, 5, 6, 7, 8, 255} {
		for _, name := range []string{"", "a", seventeen} {
			for _, to := range []string{"", "b"} {
				for _, n := range []int{0, 8, -1} {
					for _, data := range [][]byte{nil, {}, {1}} {
						for _, i := range instrs {
							alone(t, api.Item{Kind: kind, Name: name, To: to, N: n, Data: data, I: i})
						}
					}
				}
			}
		}
	}
}

// P4.3: all that is a name, and what is none, in each place of a name.
func TestCheckNames(t *testing.T) {
	for _, s := range []string{
		"", "a", "_", "Z9", sixteen, seventeen, "1", "1a", "a b", " a", "a ", "a:", ":", "a#", "#a", "a #", "a\n", "\n", "a\r", "a\tb", "é", "aé", "\xff", "a\x00",
		"halt", "r0", "mark", "x: # y", "jmp x #", "halt #", "k x", "k x #", strings.Repeat("a", 100000), strings.Repeat("a ", 100000),
	} {
		alone(t, api.Item{Kind: api.ItemLabel, Name: s})
		alone(t, api.Item{Kind: api.ItemGlobal, Name: s})
		alone(t, api.Item{Kind: api.ItemMark, Name: s, To: "x"})
		alone(t, api.Item{Kind: api.ItemMark, Name: "x", To: s})
		alone(t, api.Item{Kind: api.ItemMark, Name: s})
		alone(t, api.Item{Kind: api.ItemInstr, Name: s, I: api.Instr{Op: api.Jmp}})
		alone(t, api.Item{Kind: api.ItemInstr, Name: s, I: api.Instr{Op: api.Store, A: 7}})
		alone(t, api.Item{Kind: api.ItemInstr, Name: s, I: api.Instr{Op: api.Halt}})
		alone(t, api.Item{Kind: api.ItemInstr, To: s, I: api.Instr{Op: api.Halt}})
	}
}

// P4.3: numbers around the bounds, and how many bytes.
func TestCheckNumbers(t *testing.T) {
	try := func(n int) {
		alone(t, api.Item{Kind: api.ItemSpace, N: n})
		alone(t, api.Item{Kind: api.ItemAlign, N: n})
		alone(t, api.Item{Kind: api.ItemLabel, Name: "a", N: n})
	}
	for n := -70; n <= 130; n++ {
		try(n)
	}
	for _, n := range []int{4095, 4096, 4097, -4096, math.MaxInt, math.MinInt, 1 << 32, 1<<32 + 8, math.MaxInt32 + 1} {
		try(n)
	}
	for _, n := range []int{0, 1, 2, 63, 64, 65, 128, 1000, 1 << 24} {
		alone(t, api.Item{Kind: api.ItemBytes, Data: bytes.Repeat([]byte{255}, n)})
		alone(t, api.Item{Kind: api.ItemGlobal, Name: "a", Data: bytes.Repeat([]byte{1}, n)})
	}
}

// P4.3: what may stand behind a mark.
func TestCheckMarks(t *testing.T) {
	m, n5 := mark("k", "a"), op(api.Nop5)
	checkCheck(t, nil, api.OK, 0)
	checkCheck(t, []api.Item{}, api.OK, 0)
	checkCheck(t, []api.Item{m, n5}, api.OK, 0)
	checkCheck(t, []api.Item{m, m, mark("j", "b"), n5, n5}, api.OK, 0)
	checkCheck(t, []api.Item{n5, m, n5, m, n5}, api.OK, 0)
	checkCheck(t, []api.Item{m}, api.ErrSiteForm, 0)
	checkCheck(t, []api.Item{m, m}, api.ErrSiteForm, 1)
	checkCheck(t, []api.Item{m, n5, m}, api.ErrSiteForm, 2)
	for _, x := range []api.Item{
		op(api.Nop), op(api.Halt), op(api.Brk), label("a"), {Kind: api.ItemGlobal, Name: "a"}, {Kind: api.ItemSpace, N: 5},
		{Kind: api.ItemAlign, N: 8}, {Kind: api.ItemBytes, Data: []byte{0x0f, 0x1f, 0x44, 0, 0}}, {Kind: api.ItemInstr, Name: "x", I: api.Instr{Op: api.Jmp}},
	} {
		checkCheck(t, []api.Item{m, x, n5}, api.ErrSiteForm, 0)
		checkCheck(t, []api.Item{n5, m, m, x, n5}, api.ErrSiteForm, 2)
	}
}

// P4.3: item by item, of one item ErrArg first.
func TestCheckOrder(t *testing.T) {
	bad, m := api.Item{}, mark("k", "a")
	checkCheck(t, []api.Item{bad, m}, api.ErrArg, 0)
	checkCheck(t, []api.Item{m, bad}, api.ErrSiteForm, 0)
	checkCheck(t, []api.Item{m, op(api.Nop5), bad, bad}, api.ErrArg, 2)
	checkCheck(t, []api.Item{mark("1", "a"), op(api.Nop)}, api.ErrArg, 0)
	checkCheck(t, []api.Item{mark("k", ""), op(api.Nop5)}, api.ErrArg, 0)
	checkCheck(t, []api.Item{m, mark("k", "1"), op(api.Nop)}, api.ErrArg, 1)
	checkCheck(t, []api.Item{m, {Kind: api.ItemInstr, I: api.Instr{Op: api.Nop5, A: 1}}}, api.ErrArg, 1)
	checkCheck(t, []api.Item{m, {Kind: api.ItemLabel, Name: "a", I: api.Instr{Op: api.Nop5}}}, api.ErrSiteForm, 0)
}

// P4.3: MaxItems items and one more, ahead of all that is wrong with one of them.
func TestCheckMany(t *testing.T) {
	full := slices.Repeat([]api.Item{op(api.Nop)}, api.MaxItems)
	checkCheck(t, full, api.OK, 0)
	checkCheck(t, append(slices.Clone(full), op(api.Nop)), api.ErrLong, 0)
	checkCheck(t, append(slices.Clone(full), api.Item{}), api.ErrLong, 0)
	checkCheck(t, make([]api.Item, api.MaxItems), api.ErrArg, 0)
	checkCheck(t, make([]api.Item, api.MaxItems+1), api.ErrLong, 0)
	checkCheck(t, append(slices.Clone(full[1:]), mark("k", "a")), api.ErrSiteForm, api.MaxItems-1)
}

// every is one item of each row, and the ends of their bounds.
func every() []api.Item {
	l := []api.Item{
		label("a"), label(sixteen), mark("k", sixteen), mark("_", "a"), op(api.Nop5),
		{Kind: api.ItemBytes, Data: []byte{0}}, {Kind: api.ItemBytes, Data: []byte{1, 2}}, {Kind: api.ItemBytes, Data: bytes.Repeat([]byte{255}, 64)},
		{Kind: api.ItemSpace}, {Kind: api.ItemSpace, N: 4096}, {Kind: api.ItemGlobal, Name: "A_1"},
	}
	for n := 1; n <= 64; n *= 2 {
		l = append(l, api.Item{Kind: api.ItemAlign, N: n})
	}
	for _, n := range []int32{math.MinInt32, -1, 0, 1, math.MaxInt32} {
		l = append(l, api.Item{Kind: api.ItemInstr, I: api.Instr{Op: api.Movi, A: 7, N: n}})
	}
	for _, o := range []api.Op{api.Mov, api.Add, api.Sub} {
		l = append(l, api.Item{Kind: api.ItemInstr, I: api.Instr{Op: o, A: 1, B: 6}})
	}
	for r := range uint8(8) {
		l = append(l, api.Item{Kind: api.ItemInstr, I: api.Instr{Op: api.Out, A: r}}, api.Item{Kind: api.ItemInstr, I: api.Instr{Op: api.Mov, B: r}})
	}
	for _, o := range []api.Op{api.Bz, api.Bnz, api.Load, api.Store} {
		l = append(l, api.Item{Kind: api.ItemInstr, I: api.Instr{Op: o, A: 2}, Name: "x"})
	}
	for _, o := range []api.Op{api.Jmp, api.Call} {
		l = append(l, api.Item{Kind: api.ItemInstr, I: api.Instr{Op: o}, Name: "x"})
	}
	for _, o := range []api.Op{api.Halt, api.Nop, api.Nop5, api.Brk, api.Ret} {
		l = append(l, op(o))
	}
	return l
}

// P4.4: each row as the table shows it.
func TestPrint(t *testing.T) {
	for _, c := range []struct {
		want  string
		items []api.Item
	}{
		{"", nil},
		{"a:\n", []api.Item{label("a")}},
		{"byte 1 2\n", []api.Item{{Kind: api.ItemBytes, Data: []byte{1, 2}}}},
		{"byte 0\nbyte 255\n", []api.Item{{Kind: api.ItemBytes, Data: []byte{0}}, {Kind: api.ItemBytes, Data: []byte{255}}}},
		{"byte" + strings.Repeat(" 200", 64) + "\n", []api.Item{{Kind: api.ItemBytes, Data: bytes.Repeat([]byte{200}, 64)}}},
		{"space 0\nspace 4096\nalign 64\n", []api.Item{{Kind: api.ItemSpace}, {Kind: api.ItemSpace, N: 4096}, {Kind: api.ItemAlign, N: 64}}},
		{"mark k out\nmark j a\nnop5\n", []api.Item{mark("k", "out"), mark("j", "a"), op(api.Nop5)}},
		{"global g\n", []api.Item{{Kind: api.ItemGlobal, Name: "g"}}},
		{"movi r3 -5\nmovi r0 -2147483648\n", []api.Item{{Kind: 2, I: api.Instr{Op: api.Movi, A: 3, N: -5}}, {Kind: 2, I: api.Instr{Op: api.Movi, N: math.MinInt32}}}},
		{"mov r0 r7\nadd r1 r2\nsub r3 r3\n", []api.Item{{Kind: 2, I: api.Instr{Op: api.Mov, B: 7}}, {Kind: 2, I: api.Instr{Op: api.Add, A: 1, B: 2}}, {Kind: 2, I: api.Instr{Op: api.Sub, A: 3, B: 3}}}},
		{"bz r2 x\nbnz r0 y\nload r7 z\nstore r1 w\n", []api.Item{
			{Kind: 2, I: api.Instr{Op: api.Bz, A: 2}, Name: "x"}, {Kind: 2, I: api.Instr{Op: api.Bnz}, Name: "y"},
			{Kind: 2, I: api.Instr{Op: api.Load, A: 7}, Name: "z"}, {Kind: 2, I: api.Instr{Op: api.Store, A: 1}, Name: "w"},
		}},
		{"jmp x\ncall y\nout r5\n", []api.Item{{Kind: 2, I: api.Instr{Op: api.Jmp}, Name: "x"}, {Kind: 2, I: api.Instr{Op: api.Call}, Name: "y"}, {Kind: 2, I: api.Instr{Op: api.Out, A: 5}}}},
		{"halt\nnop\nnop5\nbrk\nret\n", []api.Item{op(api.Halt), op(api.Nop), op(api.Nop5), op(api.Brk), op(api.Ret)}},
		{"ret\n", []api.Item{{Kind: 2, I: api.Instr{Op: api.Ret}, Data: []byte{}}}},
	} {
		if got, e := Print(c.items); got != c.want || e != api.OK {
			t.Errorf("Print(%v) = %q %d, not %q", c.items, got, e, c.want)
		}
	}
}

func checkRefused(t *testing.T, l []api.Item, e api.Errno) {
	t.Helper()
	if got, gotE := Print(l); got != "" || gotE != e {
		t.Errorf("Print of %d items: %d bytes, %d, not %d", len(l), len(got), gotE, e)
	}
}

// P4.4 and R2: Check's errors, with no text beside them.
func TestPrintRefused(t *testing.T) {
	checkRefused(t, []api.Item{{}}, api.ErrArg)
	checkRefused(t, []api.Item{op(api.Nop), {Kind: api.ItemAlign, N: 3}}, api.ErrArg)
	checkRefused(t, []api.Item{label("a b")}, api.ErrArg)
	checkRefused(t, []api.Item{op(api.Nop), mark("k", "a")}, api.ErrSiteForm)
	checkRefused(t, []api.Item{mark("k", "a"), {}}, api.ErrSiteForm)
	checkRefused(t, make([]api.Item, api.MaxItems+1), api.ErrLong)
	checkRefused(t, slices.Repeat([]api.Item{op(api.Nop)}, api.MaxItems+1), api.ErrLong)
}

// P4.4: MaxText bytes and one more.
func TestPrintLong(t *testing.T) {
	// "byte", 28 times " 1", " 10" and a byte 10 are 64 bytes.
	sixtyFour := api.Item{Kind: api.ItemBytes, Data: append(bytes.Repeat([]byte{1}, 28), 10)}
	full := slices.Repeat([]api.Item{sixtyFour}, api.MaxText/64)
	text, e := Print(full)
	if len(text) != api.MaxText || e != api.OK {
		t.Fatal(len(text), e)
	}
	if l, f := Parse(text); !allAlike(l, full) || f != (api.Fault{}) {
		t.Error(len(l), f)
	}
	more := slices.Clone(full)
	more[500] = api.Item{Kind: api.ItemBytes, Data: append(bytes.Repeat([]byte{1}, 28), 100)}
	checkRefused(t, more, api.ErrLong)
	checkRefused(t, append(slices.Clone(full), label("a")), api.ErrLong)
	checkRefused(t, append(slices.Clone(full), api.Item{}), api.ErrArg)
	checkRefused(t, append(slices.Clone(full), mark("k", "a")), api.ErrSiteForm)
}

func there(t *testing.T, l []api.Item) {
	t.Helper()
	text, e := Print(l)
	if e != api.OK {
		t.Errorf("Print(%v): %d", l, e)
		return
	}
	if got, f := Parse(text); !allAlike(got, l) || f != (api.Fault{}) {
		t.Errorf("%q is read as %v, %v", text, got, f)
	}
}

// P4.5: Parse of what Print tells are the items.
func TestThereAndBack(t *testing.T) {
	all := every()
	there(t, all)
	there(t, nil)
	for i := range all {
		if all[i].Kind == api.ItemMark {
			there(t, []api.Item{all[i], op(api.Nop5)})
			continue
		}
		there(t, all[i:i+1])
		there(t, slices.Repeat(all[i:i+1], 200))
	}
}

// P4.5: what Parse tells may be, and what Print makes of it is read as the same items; blanks, empty lines and comments change none.
func TestBackAndThere(t *testing.T) {
	text, _ := Print(every())
	want, f := Parse(text)
	if e, at := Check(want); e != api.OK || at != 0 || f != (api.Fault{}) {
		t.Fatal(e, at, f)
	}
	there(t, want)
	for _, c := range [][2]string{
		{"\n", "\n\n"}, {"\n", "\r\n"}, {"\n", " \t\n"}, {"\n", "# x: halt\n"}, {"\n", " # é\n"}, {"\n", "\n# jump\n"}, {"\n", "\n \t \n  "}, {"\n", "\n\r\t"}, {" ", "   "}, {" ", "\t"}, {" ", "\r \t"},
	} {
		checkParse(t, strings.ReplaceAll(text, c[0], c[1]), want, api.Fault{})
	}
	checkParse(t, "# ahead\n\n"+strings.TrimSuffix(text, "\n"), want, api.Fault{})
}

func partOf(text, part string) bool {
	if part == "" {
		return false
	}
	begin := uintptr(unsafe.Pointer(unsafe.StringData(text)))
	at := uintptr(unsafe.Pointer(unsafe.StringData(part)))
	return at >= begin && at < begin+uintptr(len(text))
}

// spoil writes over all of a list of bytes, its spare room too.
func spoil(b []byte) {
	b = b[:cap(b)]
	for i := range b {
		b[i] = 0xee
	}
}

// R3: no two answers, nor two lists of one answer, share memory, spare room too.
func TestAnswersAreNew(t *testing.T) {
	text := "a:\nbyte 1 2 3\nbyte 1 2 3\nbyte 4\njmp a\nmark k a\nnop5\nbyte" + strings.Repeat(" 9", 64)
	one, _ := Parse(text)
	two, _ := Parse(text)
	want, _ := Parse(text)
	for i := range one {
		spoil(one[i].Data)
		for j := range one {
			if j > i && len(one[j].Data) > 0 && one[j].Data[0] == 0xee {
				t.Errorf("the bytes of items %d and %d share memory", i, j)
			}
		}
	}
	clear(one[:cap(one)])
	again, _ := Parse(text)
	if !allAlike(two, want) || !allAlike(again, want) || want[1].Data[2] != 3 {
		t.Error("two answers share memory")
	}
	x, _, _, _ := Line("byte 1 2 3")
	y, _, _, _ := Line("byte 1 2 3")
	spoil(x.Data)
	if !bytes.Equal(y.Data, []byte{1, 2, 3}) {
		t.Error("two items share memory")
	}
	for _, x := range want {
		if partOf(text, x.Name) || partOf(text, x.To) {
			t.Errorf("%v holds a part of what was handed in", x)
		}
	}
}

// R3: what is handed in stays, its spare room too, and is not kept.
func TestArgumentsStay(t *testing.T) {
	roomy := func() []api.Item {
		l := append(make([]api.Item, 0, 100), every()...)
		for i := range l {
			l[i].Data = append(make([]byte, 0, 100), l[i].Data...)
		}
		return l
	}
	deep := func(l []api.Item) []api.Item {
		out := slices.Clone(l[:cap(l)])
		for i := range out {
			out[i].Data = bytes.Clone(out[i].Data[:cap(out[i].Data)])
		}
		return out
	}
	l := roomy()
	before := deep(l)
	text, e := Print(l)
	if gotE, _ := Check(l); e != api.OK || gotE != api.OK {
		t.Fatal(e, gotE)
	}
	if !allAlike(deep(l), before) {
		t.Error("what was handed in has changed")
	}
	for i := range l {
		spoil(l[i].Data)
	}
	clear(l)
	if again, _ := Print(roomy()); again != text {
		t.Error("what was handed in is kept")
	}
}
