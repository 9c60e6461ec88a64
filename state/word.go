package state

import "moraine/api"

// plus tells the sum of two words; false, if that is no word.
func plus(a, b api.Word) (api.Word, bool) {
	carry := 0
	for i := len(a) - 1; i >= 0; i-- {
		digit := int(a[i]) + int(b[i]) + carry
		a[i], carry = byte(digit), digit>>8
	}
	return a, carry == 0
}

// minus tells what is left of a; false, if b is more than that.
func minus(a, b api.Word) (api.Word, bool) {
	borrow := 0
	for i := len(a) - 1; i >= 0; i-- {
		digit := 256 + int(a[i]) - int(b[i]) - borrow
		a[i], borrow = byte(digit), 1-digit>>8
	}
	return a, borrow == 0
}
