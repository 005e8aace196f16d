// Package val has values.
package val

import (
	"cmp"
	"math"
	"strconv"
	"strings"

	"sluicebook/api"
)

// The bytes that a Text may have.
const (
	firstByte = ' '
	lastByte  = '~'
)

const quote = '\''

// Check tells what is wrong with a value.
func Check(v api.Val) error {
	switch {
	case !IsType(v.Type) || v.Type == api.Bool && v.N != 0 && v.N != 1:
		return api.ErrRange
	case v.Type == api.Text:
		return checkText(v)
	case v.S != "":
		return api.ErrShape
	}
	return nil
}

// checkText stands apart from Check, as how long S may be, and of which bytes, is a matter of a Text alone.
func checkText(v api.Val) error {
	switch {
	case len(v.S) > api.MaxText:
		return api.ErrFull
	case !hasTextBytes(v.S):
		return api.ErrSyntax
	case v.N != 0:
		return api.ErrShape
	}
	return nil
}

// IsType tells whether a number is a type of values.
func IsType(t int) bool {
	return t == api.Int || t == api.Bool || t == api.Text
}

// Fresh is a value, right or wrong, whose text shares no memory with what was handed in.
func Fresh(v api.Val) api.Val {
	v.S = strings.Clone(v.S)
	return v
}

// FreshAll is a list of such values, which shares no memory with what was handed in either.
func FreshAll(l []api.Val) []api.Val {
	var fresh []api.Val
	for _, v := range l {
		fresh = append(fresh, Fresh(v))
	}
	return fresh
}

func hasTextBytes(s string) bool {
	for i := 0; i < len(s); i++ {
		if s[i] < firstByte || s[i] > lastByte {
			return false
		}
	}
	return true
}

// Compare tells which of two values is ahead: -1 the first, 1 the second, 0 neither.
func Compare(a, b api.Val) (int, error) {
	if err := Check(a); err != nil {
		return 0, err
	}
	if err := Check(b); err != nil {
		return 0, err
	}
	if a.Type != b.Type {
		return 0, api.ErrType
	}
	if a.Type == api.Text {
		return cmp.Compare(a.S, b.S), nil
	}
	return cmp.Compare(a.N, b.N), nil
}

// Print writes a value as Parse reads it.
func Print(v api.Val) (string, error) {
	if err := Check(v); err != nil {
		return "", err
	}
	switch v.Type {
	case api.Int:
		return strconv.Itoa(v.N), nil
	case api.Bool:
		return strconv.FormatBool(v.N == 1), nil
	}
	return "'" + strings.ReplaceAll(v.S, "'", "''") + "'", nil
}

// Parse reads a value as Print writes it, and nothing else.
func Parse(text string) (api.Val, error) {
	switch {
	case text == "true":
		return api.Val{Type: api.Bool, N: 1}, nil
	case text == "false":
		return api.Val{Type: api.Bool}, nil
	case strings.HasPrefix(text, "'"):
		return parseText(text)
	}
	return parseInt(text)
}

func parseInt(text string) (api.Val, error) {
	n, err := strconv.Atoi(text)
	// Atoi also reads a plus, a needless 0 and -0: only what is printed so again is a value.
	if err != nil || strconv.Itoa(n) != text {
		return api.Val{}, api.ErrSyntax
	}
	return api.Val{Type: api.Int, N: n}, nil
}

func parseText(text string) (api.Val, error) {
	s, ok := unquote(text)
	// Unlike in checkText the bytes go first: a text is too long only if nothing else is wrong with it.
	if !ok || !hasTextBytes(s) {
		return api.Val{}, api.ErrSyntax
	}
	if len(s) > api.MaxText {
		return api.Val{}, api.ErrFull
	}
	return api.Val{Type: api.Text, S: s}, nil
}

// unquote takes the quotes off, and one of each two within; false: they do not stand so.
func unquote(text string) (string, bool) {
	last := len(text) - 1
	if last < 1 || text[0] != quote || text[last] != quote {
		return "", false
	}
	var s []byte
	for i := 1; i < last; i++ {
		if text[i] == quote {
			i++
			// The last quote ends the text, so it is no second one of two.
			if i == last || text[i] != quote {
				return "", false
			}
		}
		s = append(s, text[i])
	}
	return string(s), true
}

// Reckon tells what an operation makes of two numbers.
func Reckon(op string, a, b int) (int, error) {
	switch op {
	case "+":
		return add(a, b)
	case "-":
		return subtract(a, b)
	case "*":
		return multiply(a, b)
	case "/":
		return divide(a, b)
	case "%":
		return remain(a, b)
	}
	return 0, api.ErrRange
}

func add(a, b int) (int, error) {
	sum := a + b
	if b < 0 && sum > a || b > 0 && sum < a {
		return 0, api.ErrOver
	}
	return sum, nil
}

func subtract(a, b int) (int, error) {
	less := a - b
	if b < 0 && less < a || b > 0 && less > a {
		return 0, api.ErrOver
	}
	return less, nil
}

func multiply(a, b int) (int, error) {
	if b == 0 {
		return 0, nil
	}
	product := a * b
	// The least number by -1 wraps round to itself, and so does its quotient: dividing back does not tell.
	if product/b != a || a == math.MinInt && b == -1 {
		return 0, api.ErrOver
	}
	return product, nil
}

func divide(a, b int) (int, error) {
	if b == 0 || a == math.MinInt && b == -1 {
		return 0, api.ErrOver
	}
	return a / b, nil
}

// remain is 0 of the least number and -1: that quotient goes over, but nothing is left.
func remain(a, b int) (int, error) {
	if b == 0 {
		return 0, api.ErrOver
	}
	return a % b, nil
}
