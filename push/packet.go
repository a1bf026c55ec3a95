package push

import (
	"strconv"

	"refserve/signs"
)

const (
	lengthDigits = 4
	leastPacket  = 5
	mostPacket   = 204
)

// Packet gives the packet of these bytes; the empty string, if none has so few or so many.
func Packet(payload string) string {
	if payload == "" || len(payload) > mostPacket-lengthDigits {
		return ""
	}
	return signs.Hex(uint32(len(payload)+lengthDigits), lengthDigits) + payload
}

// packetLength reads a packet's four digits: how many bytes it has with these, 0 for a flush; false, if they begin no packet.
func packetLength(head string) (int, bool) {
	if !signs.Only(head, signs.Digits, lengthDigits, lengthDigits) {
		return 0, false
	}
	length, err := strconv.ParseUint(head, 16, 16)
	if err != nil || length > mostPacket || length != 0 && length < leastPacket {
		return 0, false
	}
	return int(length), true
}
