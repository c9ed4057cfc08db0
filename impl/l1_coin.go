package impl

import (
	"cmp"
	"slices"
	"strconv"
	"strings"
)

// Bounds of money.
const (
	CoinMax   = 1000000000000000
	CoinRate  = 1000000
	CoinParts = 16
)

// amount is a number of the smallest units of money; one out of bounds is none, and ok tells.
type amount int

// rounding is the whole number that is taken for whole and rest/d together, rest being 0 to d - 1.
type rounding func(whole amount, rest int, d int) amount

// share is one part of an amount, and the rest of the division that rounding left out.
type share struct {
	place int
	part  int
	rest  int
}

// CoinOk says whether a number is an amount.
func CoinOk(n int) bool { return amount(n).ok() }

// CoinAdd adds two amounts.
func CoinAdd(a int, b int) (int, bool) {
	sum, ok := amount(a).plus(amount(b))
	return int(sum), ok
}

// CoinTimes multiplies two amounts.
func CoinTimes(a int, b int) (int, bool) {
	product, ok := amount(a).times(amount(b))
	return int(product), ok
}

// CoinPart is an amount times n divided by d, rounded to the even one of two that are as near.
func CoinPart(a int, n int, d int) (int, bool) {
	if !CoinOk(a) || n < 0 || n > CoinRate || d < 1 || d > CoinRate {
		return 0, false
	}
	// The sign comes back last, so that both signs are rounded alike.
	part, _, ok := amount(a).size().divide(n, d, roundEven)
	if a < 0 {
		part = -part
	}
	return int(part), ok
}

// CoinShare parts an amount by weights, to the last unit.
func CoinShare(total int, weights []int) ([]int, bool) {
	sum, ok := weightSum(weights)
	if !ok || total < 0 || total > CoinMax {
		return nil, false
	}
	shares := make([]share, len(weights))
	for i, w := range weights {
		part, rest, _ := amount(total).divide(w, sum, roundDown)
		shares[i] = share{place: i, part: int(part), rest: rest}
	}
	return dealLeft(shares, total), true
}

// CoinText writes an amount.
func CoinText(n int) string {
	if !CoinOk(n) {
		return ""
	}
	return amount(n).text()
}

// CoinRead reads an amount.
func CoinRead(text string) (int, bool) {
	whole, cents, _ := strings.Cut(text, ".")
	n, err := strconv.Atoi(whole + cents)
	// Several texts lead to one number; only the one that is written for it is its text.
	if err != nil || CoinText(n) != text {
		return 0, false
	}
	return n, true
}

func (a amount) ok() bool { return a >= -CoinMax && a <= CoinMax }

// size is the amount without its sign.
func (a amount) size() amount {
	if a < 0 {
		return -a
	}
	return a
}

func (a amount) plus(b amount) (amount, bool) {
	// What is no amount is refused first: its sum could wrap round to one.
	if !a.ok() || !b.ok() || !(a + b).ok() {
		return 0, false
	}
	return a + b, true
}

func (a amount) times(b amount) (amount, bool) {
	if !a.ok() || !b.ok() {
		return 0, false
	}
	// Asked by a division, since the product could wrap round to an amount.
	if a != 0 && b.size() > CoinMax/a.size() {
		return 0, false
	}
	return a * b, true
}

// divide is the amount (not below 0) times n (not below 0) divided by d (above 0), rounded, and the rest of the division.
func (a amount) divide(n int, d int, round rounding) (amount, int, bool) {
	// The product of amount and n need not fit, so each of its two pieces is divided alone.
	whole, ok := (a / amount(d)).times(amount(n))
	if !ok {
		return 0, 0, false
	}
	piece := int(a) % d * n
	part := round(whole+amount(piece/d), piece%d, d)
	if !part.ok() {
		return 0, 0, false
	}
	return part, piece % d, true
}

func (a amount) text() string {
	sign := ""
	if a < 0 {
		sign = "-"
	}
	size := int(a.size())
	// 100 more keeps the zero ahead of a single digit.
	cents := strconv.Itoa(100 + size%100)[1:]
	return sign + strconv.Itoa(size/100) + "." + cents
}

// roundEven takes the nearest whole number, the even one of two that are as near.
func roundEven(whole amount, rest int, d int) amount {
	if 2*rest > d || 2*rest == d && whole%2 != 0 {
		return whole + 1
	}
	return whole
}

func roundDown(whole amount, rest int, d int) amount { return whole }

// weightSum adds up weights, and says whether they are such that an amount can be parted by them.
func weightSum(weights []int) (int, bool) {
	if len(weights) > CoinParts {
		return 0, false
	}
	sum := 0
	for _, w := range weights {
		if w < 0 || w > CoinRate {
			return 0, false
		}
		sum += w
	}
	return sum, sum > 0
}

// dealLeft is the parts by place, one unit more for as many as are left of the total, the greatest rests first.
func dealLeft(shares []share, total int) []int {
	left := total
	for _, s := range shares {
		left -= s.part
	}
	slices.SortFunc(shares, greaterRest)
	parts := make([]int, len(shares))
	for i, s := range shares {
		parts[s.place] = s.part
		if i < left {
			parts[s.place]++
		}
	}
	return parts
}

func greaterRest(a share, b share) int {
	return cmp.Or(cmp.Compare(b.rest, a.rest), cmp.Compare(a.place, b.place))
}
