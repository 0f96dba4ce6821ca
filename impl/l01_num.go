package impl

import (
	"errors"
	"strconv"
	"strings"
)

const (
	greatestNumber  = 999999
	greatestInteger = 999999999999
)

var errMalformed = errors.New("malformed integer")

func FormatInt(n int) string { return strconv.Itoa(n) }

func ParseNumber(s string) (n int, ok bool) {
	defer func() {
		if recover() != nil {
			n, ok = 0, false
		}
	}()
	return integerWithin(s, 0, greatestNumber), true
}

func ParseInt(s string) (n int, ok bool) {
	defer func() {
		if recover() != nil {
			n, ok = 0, false
		}
	}()
	return integerWithin(s, -greatestInteger, greatestInteger), true
}

// integerWithin panics if s is not FormatInt of an integer from least to
// greatest, so that its callers decide what a malformed integer gives.
func integerWithin(s string, least int, greatest int) int {
	n, err := strconv.Atoi(s)
	// Atoi also takes leading zeros, "+5" and "-0", which FormatInt never returns.
	if err != nil || n < least || n > greatest || FormatInt(n) != s {
		panic(errMalformed)
	}
	return n
}

func SplitByte(s string, by byte) []string {
	// string(by) would be two bytes long for a byte that is not ASCII.
	return strings.Split(s, string([]byte{by}))
}

func Join(list []string, by string) string { return strings.Join(list, by) }
