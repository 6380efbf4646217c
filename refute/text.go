package refute

import (
	"iter"
	"strconv"
	"strings"

	"tithebarn/api"
)

// What stands behind a literal, and what ends a line.
const (
	blank   = " "
	lastOne = "0"
	end     = "\n"
)

// Print: P18.3.
func Print(row [][]int) (string, api.Errno) {
	var b []byte
	for _, c := range row {
		for _, lit := range c {
			if lit == 0 || lit < -api.MaxVars || lit > api.MaxVars {
				return "", api.ErrArg
			}
			b = strconv.AppendInt(b, int64(lit), 10)
			b = append(b, blank...)
		}
		b = append(b, lastOne+end...)
	}
	return string(b), api.OK
}

// parts goes through what stands ahead of each of a text's ends; what stands behind the last one is told, too, with a false.
func parts(s, end string) iter.Seq2[string, bool] {
	return func(yield func(string, bool) bool) {
		for {
			part, rest, ended := strings.Cut(s, end)
			if !yield(part, ended) || !ended {
				return
			}
			s = rest
		}
	}
}

// Parse: P18.4.
func Parse(s string) ([][]int, api.Errno) {
	var row [][]int
	for line, ended := range parts(s, end) {
		if !ended && line == "" {
			return row, api.OK
		}
		c, ok := clause(line)
		if !ended || !ok {
			break
		}
		row = append(row, c)
	}
	return nil, api.ErrArg
}

// clause tells the literals of a line, and whether it is a clause's.
func clause(line string) ([]int, bool) {
	c := []int{}
	for part, ended := range parts(line, blank) {
		if !ended {
			return c, part == lastOne
		}
		lit, ok := literal(part)
		if !ok {
			break
		}
		c = append(c, lit)
	}
	return nil, false
}

// literal tells the literal of decimal digits, and whether these are one's.
func literal(s string) (int, bool) {
	digits := strings.TrimPrefix(s, "-")
	if digits == "" || digits[0] == '0' || len(digits) > len(strconv.Itoa(api.MaxVars)) {
		return 0, false
	}
	n := 0
	for _, c := range []byte(digits) {
		if c < '0' || c > '9' {
			return 0, false
		}
		n = 10*n + int(c-'0')
	}
	if n > api.MaxVars {
		return 0, false
	}
	if digits != s {
		n = -n
	}
	return n, true
}
