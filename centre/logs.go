package centre

import (
	"slices"
	"strconv"
	"strings"

	"nacelle/api"
	"nacelle/check"
	"nacelle/list"
	"nacelle/text"
)

const (
	sumMark   = '#' // stands before the checksum of a record
	sumDigits = 7   // of a checksum
)

// bodyOf returns the body of an event.
func bodyOf(event api.Event) string {
	return strings.Join(slices.Concat([]string{strconv.Itoa(event.Number), event.Kind}, event.Names, list.Changed(event.Values, strconv.Itoa)), " ")
}

// readEvent reads the words of an event behind its number. Its names may be any words.
func readEvent(number int, words *text.Words) (api.Event, bool) {
	take := words.Filled
	event := api.Event{Number: number, Kind: words.Take()}
	k, isKind := kinds()[event.Kind]
	names, areNames := take(k.names)
	values, areValues := words.Numbers(k.values, text.Natural)
	event.Names, event.Values = names, values
	return event, isKind && areNames && areValues && words.Done()
}

// readBody reads the body of an event that is right.
func readBody(body string) (api.Event, bool) {
	words := text.Split(body)
	number, isNumber := text.Natural(words.Take())
	event, isEvent := readEvent(number, words)
	return event, isNumber && isEvent && CheckEvent(event) == api.OK
}

// checksum returns the checksum of a string.
func checksum(s string) string {
	x := 1
	for i := range len(s) {
		x = (311*x + int(s[i])) % 9999901
	}
	digits := strconv.Itoa(x)
	return strings.Repeat("0", sumDigits-len(digits)) + digits
}

// record returns the record of an event.
func record(event api.Event) string {
	body := bodyOf(event)
	return body + string(sumMark) + checksum(body) + "\n"
}

// areDigits reports whether a string has digits alone.
func areDigits(s string) bool {
	for _, digit := range s {
		if digit < '0' || digit > '9' {
			return false
		}
	}
	return true
}

// cut returns what stands before the mark and the checksum at the end of a line, and the checksum.
func cut(line string) (body, sum string, ok bool) {
	at := len(line) - sumDigits - 1
	if at < 0 || line[at] != sumMark || !areDigits(line[at+1:]) {
		return "", "", false
	}
	return line[:at], line[at+1:], true
}

// readRecord reads the record of the event with a number.
func readRecord(line string, number int) (api.Event, api.Errno) {
	whole, isWhole := strings.CutSuffix(line, "\n")
	body, sum, isSummed := cut(whole)
	event, isEvent := readBody(body)
	return event, check.First(
		check.That(isWhole, api.ErrTorn),
		check.That(isSummed, api.ErrSyntax),
		check.That(sum == checksum(body), api.ErrCheck),
		check.That(isEvent, api.ErrSyntax),
		check.Order(event.Number == number),
	)
}

// Append returns a log with one more record.
func Append(log string, e api.Event) (string, api.Errno) {
	events, _, wrong := Recover(log)
	out := log + record(e)
	wrong = check.First(wrong, CheckEvent(e), check.Order(e.Number == len(events)+1), check.That(len(out) <= api.MaxLog, api.ErrLong))
	if wrong != api.OK {
		return "", wrong
	}
	return out, api.OK
}

// Recover returns the events of the longest prefix that is a log, its length, and the error of the rest.
func Recover(log string) ([]api.Event, int, api.Errno) {
	if len(log) > api.MaxLog {
		return nil, 0, api.ErrLong
	}
	var events []api.Event
	length := 0
	for _, line := range text.Lines(log) {
		event, e := readRecord(line, len(events)+1)
		if e != api.OK {
			return events, length, e
		}
		events = append(events, event)
		length += len(line)
	}
	return events, length, api.OK
}
