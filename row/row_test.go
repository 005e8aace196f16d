package row_test

import (
	"math"
	"slices"
	"strconv"
	"strings"
	"testing"

	"sluicebook/api"
	"sluicebook/plain"
	"sluicebook/row"
)

func number(n int) api.Val   { return api.Val{Type: api.Int, N: n} }
func truth(n int) api.Val    { return api.Val{Type: api.Bool, N: n} }
func words(s string) api.Val { return api.Val{Type: api.Text, S: s} }

func col(name string, kind int) api.Col { return api.Col{Name: name, Type: kind} }

// long is a text of so many bytes.
func long(n int) string { return strings.Repeat("z", n) }

// columns are so many with which nothing is wrong, as long as they are few enough.
func columns(n int) []api.Col {
	var l []api.Col
	for i := range n {
		l = append(l, api.Col{Name: string(rune('a' + i%26)), Type: 1 + i%3})
	}
	return l
}

// values are so many with which nothing is wrong, of the types of so many columns.
func values(n int) []api.Val {
	var l []api.Val
	for i := range n {
		l = append(l, []api.Val{number(i), truth(1), words("it's, a")}[i%3])
	}
	return l
}

// schemas are lists of columns and what Schema says of them.
var schemas = []struct {
	name string
	l    []api.Col
	want api.Errno
}{
	{"nil", nil, api.ErrNone},
	{"empty", []api.Col{}, api.ErrNone},
	{"one", columns(1), api.OK},
	{"two", columns(2), api.OK},
	{"six", columns(6), api.OK},
	{"seven", columns(7), api.ErrFull},
	{"a hundred thousand", columns(100_000), api.ErrFull},
	{"a to z", []api.Col{col("az", api.Int), col("za", api.Int)}, api.OK},
	{"a word of the language", []api.Col{col("select", api.Int), col("int", api.Int)}, api.OK},

	{"no letter", []api.Col{col("", api.Int)}, api.ErrSyntax},
	{"eight letters", []api.Col{col("abcdefgh", api.Text)}, api.OK},
	{"nine letters", []api.Col{col("abcdefghi", api.Text)}, api.ErrSyntax},
	{"many letters", []api.Col{col(long(100_000), api.Text)}, api.ErrSyntax},
	{"a blank", []api.Col{col(" ", api.Int)}, api.ErrSyntax},
	{"a blank behind", []api.Col{col("a ", api.Int)}, api.ErrSyntax},
	{"a comma", []api.Col{col("a,b", api.Int)}, api.ErrSyntax},
	{"a digit", []api.Col{col("a1", api.Int)}, api.ErrSyntax},
	{"a great letter", []api.Col{col("aB", api.Int)}, api.ErrSyntax},
	{"byte 96", []api.Col{col("`", api.Int)}, api.ErrSyntax},
	{"byte 123", []api.Col{col("{", api.Int)}, api.ErrSyntax},
	{"byte 0", []api.Col{col("a\x00", api.Int)}, api.ErrSyntax},
	{"byte 255", []api.Col{col("a\xff", api.Int)}, api.ErrSyntax},
	{"a rune above 127", []api.Col{col("\u00e9", api.Int)}, api.ErrSyntax},
	{"eight letters as 16 bytes", []api.Col{col(strings.Repeat("\u00e9", 8), api.Int)}, api.ErrSyntax},
	{"the second one has no name", []api.Col{col("a", api.Int), col("", api.Int)}, api.ErrSyntax},

	{"type 0", []api.Col{col("a", 0)}, api.ErrRange},
	{"type 4", []api.Col{col("a", 4)}, api.ErrRange},
	{"type -1", []api.Col{col("a", -1)}, api.ErrRange},
	{"least type", []api.Col{col("a", math.MinInt)}, api.ErrRange},
	{"greatest type", []api.Col{col("a", math.MaxInt)}, api.ErrRange},
	{"the sixth one has no type", append(columns(5), api.Col{Name: "z"}), api.ErrRange},

	{"a name twice", []api.Col{col("a", api.Int), col("a", api.Int)}, api.ErrClash},
	{"a name twice, of two types", []api.Col{col("a", api.Int), col("a", api.Text)}, api.ErrClash},
	{"a name twice, others between", append(columns(5), api.Col{Name: "a", Type: api.Int}), api.ErrClash},
	{"a name of eight letters twice", []api.Col{col("abcdefgh", api.Int), col("b", api.Int), col("abcdefgh", api.Int)}, api.ErrClash},
	{"names alike but for the last letter", []api.Col{col("abcdefgh", api.Int), col("abcdefgi", api.Int), col("abcdefg", api.Int)}, api.OK},

	{"no name, no type", []api.Col{col("", 0)}, api.ErrSyntax},
	{"no name twice", []api.Col{col("", api.Int), col("", api.Int)}, api.ErrSyntax},
	{"no type, a name twice", []api.Col{col("a", api.Int), col("a", 0)}, api.ErrRange},
	{"no type, then a name twice", []api.Col{col("a", 0), col("a", api.Int)}, api.ErrRange},
	{"no type, then no name", []api.Col{col("a", 4), col("A", api.Int)}, api.ErrRange},
	{"no name, then no type", []api.Col{col("A", api.Int), col("a", 4)}, api.ErrSyntax},
	{"a name twice, then no name", []api.Col{col("a", api.Int), col("a", api.Int), col("", api.Int)}, api.ErrClash},
	{"a name twice, then no type", []api.Col{col("a", api.Int), col("a", api.Int), col("b", 0)}, api.ErrClash},
	{"seven, and no name", append([]api.Col{col("", api.Int)}, columns(6)...), api.ErrFull},
	{"seven, and no type", append([]api.Col{col("z", 0)}, columns(6)...), api.ErrFull},
	{"seven, and a name twice", append([]api.Col{col("a", api.Int)}, columns(6)...), api.ErrFull},
}

// TestSchema is of R1 and P3: what a schema may be, each fault, and the first one of several.
func TestSchema(t *testing.T) {
	for _, c := range schemas {
		if got := plain.Told(row.Schema(c.l)); got != c.want {
			t.Errorf("%s: Schema: %v, want %v", c.name, got, c.want)
		}
	}
}

// TestSchemaBytes is of R1: every byte, at every place of a name.
func TestSchemaBytes(t *testing.T) {
	for b := range 256 {
		want := api.ErrSyntax
		if b >= 'a' && b <= 'z' {
			want = api.OK
		}
		for at := range api.MaxName {
			s := []byte(long(api.MaxName))
			s[at] = byte(b)
			if got := plain.Told(row.Schema([]api.Col{{Name: string(s), Type: api.Int}})); got != want {
				t.Errorf("byte %d at %d: Schema: %v, want %v", b, at, got, want)
			}
		}
	}
}

// faultyValues are values and what chapter 1's Check says of them.
var faultyValues = []struct {
	v    api.Val
	want api.Errno
}{
	{api.Val{}, api.ErrRange},
	{api.Val{Type: 4}, api.ErrRange},
	{truth(2), api.ErrRange},
	{words(long(41)), api.ErrFull},
	{words("\n"), api.ErrSyntax},
	{api.Val{Type: api.Int, S: "a"}, api.ErrShape},
	{api.Val{Type: api.Int, S: long(41)}, api.ErrShape},
	{api.Val{Type: api.Text, N: 1}, api.ErrShape},
}

// TestCheckRow is of R1: rows as they may be, of too few and of too many values.
func TestCheckRow(t *testing.T) {
	for cols := range 8 {
		for n := range 9 {
			want := api.OK
			switch {
			case cols == 0:
				want = api.ErrNone
			case cols == 7:
				want = api.ErrFull
			case n != cols:
				want = api.ErrShape
			}
			if got := plain.Told(row.Check(columns(cols), values(n))); got != want {
				t.Errorf("Check of %d columns and %d values: %v, want %v", cols, n, got, want)
			}
		}
	}
	if got := plain.Told(row.Check(columns(1), values(100_000))); got != api.ErrShape {
		t.Errorf("Check of many values: %v, want ErrShape", got)
	}
}

// TestCheckRowSchema is of R1: what is wrong with the schema is told ahead of what is wrong with the row.
func TestCheckRowSchema(t *testing.T) {
	for _, c := range schemas {
		if c.want == api.OK {
			continue
		}
		for _, r := range [][]api.Val{nil, values(1), make([]api.Val, len(c.l)), make([]api.Val, 7)} {
			if got := plain.Told(row.Check(c.l, r)); got != c.want {
				t.Errorf("%s: Check: %v, want %v", c.name, got, c.want)
			}
		}
	}
}

// TestCheckRowValues is of R1 and P3: values with a fault, or of another type; that of the first that has one.
func TestCheckRowValues(t *testing.T) {
	l := []api.Col{col("a", api.Int), col("b", api.Bool), col("c", api.Text)}
	for _, c := range faultyValues {
		for at := range l {
			r := []api.Val{number(1), truth(1), words("")}
			r[at] = c.v
			if got := plain.Told(row.Check(l, r)); got != c.want {
				t.Errorf("Check(%v): %v, want %v", r, got, c.want)
			}
			if got := plain.Told(row.Check(l, append(r, c.v))); got != api.ErrShape {
				t.Errorf("Check(%v) of a value too many: %v, want ErrShape", r, got)
			}
			if got := plain.Told(row.Check(l, r[:2])); got != api.ErrShape {
				t.Errorf("Check(%v) of a value too few: %v, want ErrShape", r, got)
			}
		}
		if got := plain.Told(row.Check(l, []api.Val{truth(1), c.v, c.v})); got != api.ErrType {
			t.Errorf("Check of another type ahead of %v: %v, want ErrType", c.v, got)
		}
		if got := plain.Told(row.Check(l, []api.Val{number(1), c.v, number(1)})); got != c.want {
			t.Errorf("Check of another type behind %v: %v, want %v", c.v, got, c.want)
		}
	}
	for _, r := range [][]api.Val{
		{truth(1), truth(1), words("")},
		{words("1"), truth(1), words("")},
		{number(1), number(1), words("")},
		{number(1), words("true"), words("")},
		{number(1), truth(1), number(0)},
		{number(1), truth(1), truth(0)},
		{truth(1), number(1), number(1)},
	} {
		if got := plain.Told(row.Check(l, r)); got != api.ErrType {
			t.Errorf("Check(%v): %v, want ErrType", r, got)
		}
	}
	if got := plain.Told(row.Check(l, []api.Val{words("\n"), words("\n"), words("\n")})); got != api.ErrSyntax {
		t.Errorf("Check of a fault that is of another type: %v, want ErrSyntax", got)
	}
}

// TestFind is of R1: a name that is there, and one that is not.
func TestFind(t *testing.T) {
	l := []api.Col{col("at", api.Int), col("k", api.Text), col("abcdefgh", api.Bool), col("k", api.Int)}
	for _, c := range []struct {
		name string
		at   int
		want api.Errno
	}{
		{"at", 0, api.OK}, {"k", 1, api.OK}, {"abcdefgh", 2, api.OK},
		{"", 0, api.ErrNone}, {"a", 0, api.ErrNone}, {"att", 0, api.ErrNone}, {"at ", 0, api.ErrNone}, {"AT", 0, api.ErrNone},
		{"abcdefg", 0, api.ErrNone}, {"\xff", 0, api.ErrNone}, {long(100_000), 0, api.ErrNone},
	} {
		if at, err := row.Find(l, c.name); at != c.at || plain.Told(err) != c.want {
			t.Errorf("Find(%.20q): %d, %v, want %d, %v", c.name, at, err, c.at, c.want)
		}
		if at, err := row.Find(nil, c.name); at != 0 || plain.Told(err) != api.ErrNone {
			t.Errorf("Find(%.20q) of nothing: %d, %v, want ErrNone", c.name, at, err)
		}
	}
	for i, c := range columns(6) {
		if at, err := row.Find(columns(6), c.Name); at != i || err != nil {
			t.Errorf("Find(%q): %d, %v, want %d", c.Name, at, err, i)
		}
	}
}

// printed are rows and their texts.
var printed = []struct {
	row  []api.Val
	text string
}{
	{nil, ""},
	{[]api.Val{number(0)}, "0"},
	{[]api.Val{number(-7)}, "-7"},
	{[]api.Val{truth(0)}, "false"},
	{[]api.Val{words("")}, "''"},
	{[]api.Val{words(",")}, "','"},
	{[]api.Val{words(",,"), words(",")}, "',,',','"},
	{[]api.Val{words("','")}, "''','''"},
	{[]api.Val{words("'"), words("'")}, "'''',''''"},
	{[]api.Val{words("','"), words("',")}, "''',''',''','"},
	{[]api.Val{words("a,b"), number(1)}, "'a,b',1"},
	{[]api.Val{words(""), words("")}, "'',''"},
	{[]api.Val{number(math.MinInt), number(math.MaxInt), truth(1), words("it's")}, "-9223372036854775808,9223372036854775807,true,'it''s'"},
	{[]api.Val{words(" "), words("~"), words("1"), words("true")}, "' ','~','1','true'"},
	{[]api.Val{number(1), number(2), number(3), number(4), number(5), number(6)}, "1,2,3,4,5,6"},
	{[]api.Val{words(long(40)), words(strings.Repeat("'", 40)), words(strings.Repeat(",", 40))}, "'" + long(40) + "'," + strings.Repeat("'", 82) + ",'" + strings.Repeat(",", 40) + "'"},
}

// TestPrintParse is of R2: each form of row, written and read.
func TestPrintParse(t *testing.T) {
	for _, c := range printed {
		if text, err := row.Print(c.row); text != c.text || err != nil {
			t.Errorf("Print(%v): %q, %v, want %q", c.row, text, err, c.text)
		}
		if r, err := row.Parse(c.text); !slices.Equal(r, c.row) || err != nil {
			t.Errorf("Parse(%q): %v, %v, want %v", c.text, r, err, c.row)
		}
	}
	if text, err := row.Print([]api.Val{}); text != "" || err != nil {
		t.Errorf("Print of an empty row: %q, %v", text, err)
	}
}

// TestPrintFaulty is of R2 and P3: too many values, then what chapter 1's Check says of the first that has a fault.
func TestPrintFaulty(t *testing.T) {
	for n := 7; n < 100_000; n *= 10 {
		if text, err := row.Print(values(n)); text != "" || plain.Told(err) != api.ErrFull {
			t.Errorf("Print of %d values: %q, %v, want ErrFull", n, text, err)
		}
	}
	for _, c := range faultyValues {
		for n := range 6 {
			for at := range n + 1 {
				r := slices.Insert(values(n), at, c.v)
				if text, err := row.Print(r); text != "" || plain.Told(err) != c.want {
					t.Errorf("Print(%v): %q, %v, want %v", r, text, err, c.want)
				}
			}
		}
		if text, err := row.Print(append(values(6), c.v)); text != "" || plain.Told(err) != api.ErrFull {
			t.Errorf("Print of seven, one with a fault: %q, %v, want ErrFull", text, err)
		}
		for _, d := range faultyValues {
			if text, err := row.Print([]api.Val{number(1), c.v, d.v}); text != "" || plain.Told(err) != c.want {
				t.Errorf("Print of %v ahead of %v: %q, %v, want %v", c.v, d.v, text, err, c.want)
			}
		}
	}
}

// TestParseSyntax is of R2: texts that are no row, or almost one, also where there is too much of something beside.
func TestParseSyntax(t *testing.T) {
	full := "'" + long(41) + "'"
	for _, text := range []string{
		" ", ",", ",,", "1,", ",1", "1,,2", "1, 2", "1 ,2", " 1,2", "1,2 ", "1;2", "1 2", "1\n", "1,2\n", "1,\x00",
		"a", "1,a", "a,1", "true,", "true,False", "01,1", "1,-0", "1,+2", "9223372036854775808", "1,9223372036854775808",
		"'", "1,'", "',", "','a", "'a,b", "a,b'", "'a','b", "'a'','b'", "'a',b'", "'a'b,1", "'a' ,'b'", "'',", ",''", "'','", "'\n'", "1,'\x7f'", "','\x00",
		"'a\xff',1", "\u00e9,1",
		"1,2,3,4,5,6,", "1,2,3,4,5,6,x", "x,1,2,3,4,5,6", "1,2,3,4,5,6,7,", "1,2,3,4,5,6,7,'", "1,2,3,4,5,6,7,8,'\n'", "1,2,3,,4,5,6,7", ",,,,,,,",
		full + ",", full + ",x", "x," + full, full + " ", full + ",'", full + "," + full + "'", full + ",1,2,3,4,5,6,x", "x,1,2,3,4,5," + full, "'" + long(41) + "\n'",
		full + ",1," + full + ",01", strings.Repeat(",", 100_000), strings.Repeat("1,", 50_000), strings.Repeat("'", 100_001), strings.Repeat(full+",", 1_000) + "x",
	} {
		if r, err := row.Parse(text); len(r) != 0 || plain.Told(err) != api.ErrSyntax {
			t.Errorf("Parse(%.100q): %v, %v, want ErrSyntax", text, r, err)
		}
	}
}

// TestParseFull is of R2: texts with which nothing else is wrong than that there is too much.
func TestParseFull(t *testing.T) {
	full := "'" + long(41) + "'"
	for _, text := range []string{
		full, full + ",1", "1," + full, full + "," + full, "1,'a',true,4,5," + full, "'" + strings.Repeat(",", 41) + "'", strings.Repeat("'", 84),
		"1,2,3,4,5,6,7", "1,2,3,4,5,6,7,8", "'','','','','','',''", "true,false,true,false,true,false,true",
		"1,2,3,4,5,6," + full, full + ",2,3,4,5,6,7", "1,2,3,4,5,6,7," + full, full + "," + full + "," + full + "," + full + "," + full + "," + full + "," + full,
		strings.Repeat("1,", 50_000) + "1", strings.Repeat(full+",", 1_000) + full,
	} {
		if r, err := row.Parse(text); len(r) != 0 || plain.Told(err) != api.ErrFull {
			t.Errorf("Parse(%.100q): %v, %v, want ErrFull", text, r, err)
		}
	}
}

// TestParseShort is of R2: of all short texts of some bytes, just those that Print writes are read.
func TestParseShort(t *testing.T) {
	for _, text := range shortTexts("',10-\n", 6) {
		r, err := row.Parse(text)
		if err != nil {
			if looksPrinted(text) || len(r) != 0 || plain.Told(err) != api.ErrSyntax {
				t.Errorf("Parse(%q): %v, %v", text, r, err)
			}
			continue
		}
		if again, err := row.Print(r); again != text || err != nil || !looksPrinted(text) {
			t.Errorf("Parse(%q): %v, which is printed %q, %v", text, r, again, err)
		}
	}
}

// shortTexts are all texts of at most n of the signs.
func shortTexts(signs string, n int) []string {
	all, last := []string{""}, []string{""}
	for range n {
		var next []string
		for _, s := range last {
			for i := range signs {
				next = append(next, s+signs[i:i+1])
			}
		}
		all, last = append(all, next...), next
	}
	return all
}

// looksPrinted tells, in another way than Parse, whether a short text is a row: it takes off one value behind the other.
func looksPrinted(text string) bool {
	if text == "" {
		return true
	}
	for {
		n := valueAhead(text)
		if n == 0 {
			return false
		}
		if n == len(text) {
			return true
		}
		if text[n] != ',' {
			return false
		}
		text = text[n+1:]
	}
}

// valueAhead is how many bytes the value has with which a text begins; 0: there is none.
func valueAhead(text string) int {
	if strings.HasPrefix(text, "'") {
		for i := 1; i < len(text); i++ {
			switch {
			case text[i] == '\n':
				return 0
			case text[i] == '\'' && i+1 < len(text) && text[i+1] == '\'':
				i++
			case text[i] == '\'':
				return i + 1
			}
		}
		return 0
	}
	n := len(text) - len(strings.TrimLeft(text, "-01"))
	if k, err := strconv.Atoi(text[:n]); err != nil || strconv.Itoa(k) != text[:n] {
		return 0
	}
	return n
}

// printedSchemas are schemas and their texts.
var printedSchemas = []struct {
	l    []api.Col
	text string
}{
	{[]api.Col{col("a", api.Int)}, "a int"},
	{[]api.Col{col("b", api.Bool)}, "b bool"},
	{[]api.Col{col("c", api.Text)}, "c text"},
	{[]api.Col{col("abcdefgh", api.Text), col("z", api.Int)}, "abcdefgh text,z int"},
	{[]api.Col{col("int", api.Bool), col("bool", api.Text), col("text", api.Int)}, "int bool,bool text,text int"},
	{columns(6), "a int,b bool,c text,d int,e bool,f text"},
}

// TestPrintParseSchema is of R2: each form of schema, written and read.
func TestPrintParseSchema(t *testing.T) {
	for _, c := range printedSchemas {
		if text, err := row.PrintSchema(c.l); text != c.text || err != nil {
			t.Errorf("PrintSchema(%v): %q, %v, want %q", c.l, text, err, c.text)
		}
		if l, err := row.ParseSchema(c.text); !slices.Equal(l, c.l) || err != nil {
			t.Errorf("ParseSchema(%q): %v, %v, want %v", c.text, l, err, c.l)
		}
	}
}

// TestPrintSchemaFaulty is of R2 and P1: what is no schema is not written; what is one is read as it was.
func TestPrintSchemaFaulty(t *testing.T) {
	for _, c := range schemas {
		text, err := row.PrintSchema(c.l)
		if (text != "") != (c.want == api.OK) || plain.Told(err) != c.want {
			t.Errorf("%s: PrintSchema: %q, %v, want %v", c.name, text, err, c.want)
		}
		if l, err := row.ParseSchema(text); c.want == api.OK && (!slices.Equal(l, c.l) || err != nil) {
			t.Errorf("%s: ParseSchema(%q): %v, %v", c.name, text, l, err)
		}
	}
}

// TestParseSchemaFaulty is of R2 and P3: texts without the form, whatever Schema would say beside, and with it Schema's errors.
func TestParseSchemaFaulty(t *testing.T) {
	six := "a int,b bool,c text,d int,e bool,f text"
	for _, c := range []struct {
		text string
		want api.Errno
	}{
		{"", api.ErrSyntax}, {" ", api.ErrSyntax}, {",", api.ErrSyntax}, {"a", api.ErrSyntax}, {"a ", api.ErrSyntax}, {"int", api.ErrSyntax}, {" int", api.ErrSyntax},
		{"a int ", api.ErrSyntax}, {" a int", api.ErrSyntax}, {"a  int", api.ErrSyntax}, {"a\tint", api.ErrSyntax}, {"a\nint", api.ErrSyntax}, {"a int\n", api.ErrSyntax}, {"aint", api.ErrSyntax}, {"a:int", api.ErrSyntax},
		{"a in", api.ErrSyntax}, {"a ints", api.ErrSyntax}, {"a Int", api.ErrSyntax}, {"a 1", api.ErrSyntax}, {"a int int", api.ErrSyntax}, {"a b int", api.ErrSyntax}, {"a \x00", api.ErrSyntax},
		{"a int,", api.ErrSyntax}, {",a int", api.ErrSyntax}, {"a int,,b int", api.ErrSyntax}, {"a int, b int", api.ErrSyntax}, {"a int ,b int", api.ErrSyntax}, {"a int;b int", api.ErrSyntax}, {"a int b int", api.ErrSyntax}, {"a,b int", api.ErrSyntax},
		{"A int", api.ErrSyntax}, {"a1 int", api.ErrSyntax}, {"abcdefghi int", api.ErrSyntax}, {"\xff int", api.ErrSyntax}, {"' int", api.ErrSyntax}, {long(100_000) + " int", api.ErrSyntax},
		{"a int,a int", api.ErrClash}, {"a int,b int,a text", api.ErrClash}, {"abcdefgh bool,abcdefgh bool", api.ErrClash},
		{six + ",g int", api.ErrFull}, {six + ",g int,h int", api.ErrFull}, {six + ",a int", api.ErrFull}, {strings.Repeat("a int,", 20_000) + "a int", api.ErrFull},

		{"a int,a int,b", api.ErrSyntax}, {six + ",g", api.ErrSyntax}, {six + ",g int,", api.ErrSyntax}, {six + ",g int,h int,i real", api.ErrSyntax}, {strings.Repeat("a int,", 20_000), api.ErrSyntax},

		{"A int,a int,a int", api.ErrSyntax}, {"a int,A int,a int", api.ErrSyntax}, {"a int,a int,A int", api.ErrSyntax}, {"a int,a int, int", api.ErrSyntax}, {"a int,a int,abcdefghi int", api.ErrSyntax}, {"a int,a int,a1 int", api.ErrSyntax}, {"A int,A int", api.ErrSyntax},
		{"A int," + six, api.ErrSyntax}, {six + ",A int", api.ErrSyntax}, {six + ", int", api.ErrSyntax}, {six + ",g int,h int,\x00 int", api.ErrSyntax}, {six + ",a int,\xff int", api.ErrSyntax}, {strings.Repeat("a int,", 20_000) + "A int", api.ErrSyntax},
		{"abcdefgh int,abcdefgh int", api.ErrClash}, {"abcdefgh int," + six, api.ErrFull},
	} {
		if l, err := row.ParseSchema(c.text); len(l) != 0 || plain.Told(err) != c.want {
			t.Errorf("ParseSchema(%.100q): %v, %v, want %v", c.text, l, err, c.want)
		}
	}
}

// TestParseSchemaAlmost is of R2: of a schema's text with a byte put in, left out or put for another, just what PrintSchema writes is read.
func TestParseSchemaAlmost(t *testing.T) {
	const text = "ab int,cd bool,ef text"
	for at := range len(text) + 1 {
		for b := range 256 {
			s := string([]byte{byte(b)})
			readAsWritten(t, text[:at]+s+text[at:])
			if at < len(text) {
				readAsWritten(t, text[:at]+s+text[at+1:])
				readAsWritten(t, text[:at]+text[at+1:])
			}
		}
	}
}

func readAsWritten(t *testing.T, text string) {
	t.Helper()
	l, err := row.ParseSchema(text)
	if err != nil {
		if len(l) != 0 || plain.Told(err) != api.ErrSyntax && plain.Told(err) != api.ErrClash {
			t.Errorf("ParseSchema(%q): %v, %v", text, l, err)
		}
		return
	}
	if again, err := row.PrintSchema(l); again != text || err != nil {
		t.Errorf("ParseSchema(%q): %v, which is printed %q, %v", text, l, again, err)
	}
}

// TestNothingBesideErrors is of P1: whatever is given, no call panics, and beside an error nothing is answered.
func TestNothingBesideErrors(t *testing.T) {
	for b := range 256 {
		s := string([]byte{byte(b)})
		for _, text := range []string{s, s + s, "'" + s, s + "'", "1" + s + "1", "1," + s, s + ",1", "a int" + s + "b int", s + " int", "a " + s, "'" + long(40) + s + "'", strings.Repeat("1"+s, 8)} {
			r, err := row.Parse(text)
			tellBeside(t, "Parse("+strconv.Quote(text)+")", err, len(r) == 0)
			l, err := row.ParseSchema(text)
			tellBeside(t, "ParseSchema("+strconv.Quote(text)+")", err, len(l) == 0)
			for _, n := range []int{math.MinInt, -1, 0, 1, 2, 3, 4, math.MaxInt} {
				l, r := []api.Col{col(text, n), col(s, n)}, []api.Val{{Type: n, N: n, S: text}, {Type: n, S: s}}
				tellBeside(t, "Schema", row.Schema(l), true)
				tellBeside(t, "Check", row.Check(l, r), true)
				tellBeside(t, "Check", row.Check([]api.Col{col("a", 1), col("b", 3)}, r), true)
				out, err := row.Print(r)
				tellBeside(t, "Print", err, out == "")
				out, err = row.PrintSchema(l)
				tellBeside(t, "PrintSchema", err, out == "")
				at, err := row.Find(l[1:], text)
				tellBeside(t, "Find", err, at == 0)
			}
		}
	}
}

// tellBeside tells of an error that is none of the program's, or has something beside it.
func tellBeside(t *testing.T, call string, err error, empty bool) {
	t.Helper()
	if err != nil && (plain.Told(err) <= api.OK || !empty) {
		t.Errorf("%s: %v, and something beside it: %v", call, err, !empty)
	}
}

// TestListsStay is of P2 and P4: what is handed in stays as it is, before its length and behind it.
func TestListsStay(t *testing.T) {
	l, r := columns(8), values(8)
	l[2].Name, r[4].Type = "A", 9
	wantL, wantR := slices.Clone(l), slices.Clone(r)
	for n := range 9 {
		row.Schema(l[:n])
		row.Check(l[:n], r[:n])
		row.Check(columns(n), r[:n])
		row.Find(l[:n], "b")
		row.Print(r[:n])
		row.PrintSchema(l[:n])
	}
	if !slices.Equal(l, wantL) || !slices.Equal(r, wantR) {
		t.Errorf("lists that were handed in are now %v, %v", l, r)
	}
	if at, err := row.Find(l[:2], "d"); at != 0 || plain.Told(err) != api.ErrNone {
		t.Errorf("Find behind the length: %d, %v", at, err)
	}
}

// TestAnswersFresh is of P2: what a call answers is not changed by what the caller does with another answer.
func TestAnswersFresh(t *testing.T) {
	first, _ := row.Parse("1,true,'a'")
	clear(first)
	if again, err := row.Parse("1,true,'a'"); !slices.Equal(again, []api.Val{number(1), truth(1), words("a")}) || err != nil {
		t.Errorf("Parse once more: %v, %v", again, err)
	}
	cols, _ := row.ParseSchema("a int,b text")
	clear(cols)
	if again, err := row.ParseSchema("a int,b text"); !slices.Equal(again, []api.Col{col("a", api.Int), col("b", api.Text)}) || err != nil {
		t.Errorf("ParseSchema once more: %v, %v", again, err)
	}
}
