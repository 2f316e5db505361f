package number

import (
	"strconv"
	"strings"
)

// The base of the limbs: a limb times 16 and a carry fit into an int, and a limb is limbDigits decimal digits.
const (
	limbDigits = 9
	limbBase   = 1000000000
)

// A natural is a number of any length as limbs, the lowest first and the highest not 0; zero has none.
type natural []int

// followed returns n times the base plus the digit, in the memory of n.
func (n natural) followed(base, digit int) natural {
	carry := digit
	for i := range len(n) {
		sum := n[i]*base + carry
		n[i], carry = sum%limbBase, sum/limbBase
	}
	if carry > 0 {
		n = append(n, carry)
	}
	return n
}

// text returns n in decimal digits without leading zeros.
func (n natural) text() string {
	if len(n) == 0 {
		return "0"
	}
	var out strings.Builder
	for i := range len(n) {
		limb := strconv.Itoa(n[len(n)-1-i])
		if i > 0 { // below the highest limb, its zeros are digits of the number
			out.WriteString(strings.Repeat("0", limbDigits-len(limb)))
		}
		out.WriteString(limb)
	}
	return out.String()
}
