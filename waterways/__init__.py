"""Water: what can be told exactly of places and lines."""
